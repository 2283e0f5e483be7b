/- Several texts in one, in their order. -/
import Derived.Test.YtickiokdcbeefaaGreatDoorPFnLogsx1
import Derived.Test.YtickiokdcbeefaaGreatDoorProg
import Derived.Deep.QuietTactic
import Derived.BigQuiet
import Derived.Laws.AppendOwnNone
import Derived.WalkSmall
/- Rows of slots: their cells, what is owned of them, a slot stored. -/
namespace Go.Proofs.YtickiokdcbeefaaGreatDoor
open Go.RowKit

/-- A result that lies in a box: it is read as the load reads it. -/
theorem results_one {P : Program} {fn : Func} {s : Nat} {ty : TypeId} {tmps : Array Value} {w : World} {v : Value} {ad : Addr} (hf : fn.results = #[.cell s ty]) (ht : tmps[s]?.getD undef = .pointer (some ad)) (hl : (loadVar ty ad).run P w = .ok v w) : (results fn tmps).run P w = .ok v w := by
  unfold results
  rw [hf]
  simp [ht, asAddr, hl]

def cellsS (ss : List SlotA) : List Value := ss.flatMap SlotA.cells
def zeroS : SlotA := ⟨⟨false, ⟨0, [], []⟩⟩, none, 0, none, 0⟩

theorem cells_len (s : SlotA) : s.cells.length = 4 := rfl
theorem cellsS_len (ss : List SlotA) : (cellsS ss).length = ss.length * 4 := by
  induction ss with
  | nil => rfl
  | cons s r ih => simp only [cellsS, List.flatMap_cons, List.length_append, cells_len, List.length_cons] at *; omega
theorem cellsS_at (ss : List SlotA) (k j : Nat) (hk : k < ss.length) (hj : j < 4) : (cellsS ss)[k * 4 + j]? = (ss.getD k zeroS).cells[j]? := by
  induction ss generalizing k with
  | nil => simp at hk
  | cons s r ih =>
    have e : cellsS (s :: r) = s.cells ++ cellsS r := by simp [cellsS]
    rw [e]
    cases k with
    | zero => rw [List.getElem?_append_left (by rw [cells_len]; omega)]; simp
    | succ k =>
      rw [List.getElem?_append_right (by rw [cells_len]; omega), cells_len]
      have := ih k (by simpa using hk)
      rw [show (k + 1) * 4 + j - 4 = k * 4 + j by omega, this]
      simp
theorem cellsS_set (ss : List SlotA) (k : Nat) (hk : k < ss.length) (t : SlotA) :
    ((((cellsS ss).set (k * 4) (.bool t.v.has)).set (k * 4 + 1) (.int .i64 t.v.o.kind)).set (k * 4 + 2) (.slice t.aI t.v.o.ints.length t.cI)).set (k * 4 + 3) (.slice t.aR t.v.o.refs.length t.cR) = cellsS (ss.set k t) := by
  induction ss generalizing k with
  | nil => simp at hk
  | cons s r ih =>
    cases k with
    | zero =>
      simp [cellsS, SlotA.cells]
    | succ k =>
      have := ih k (by simpa using hk)
      simp only [List.set_cons_succ]
      have e : cellsS (s :: r) = [.bool s.v.has, .int .i64 s.v.o.kind, .slice s.aI s.v.o.ints.length s.cI, .slice s.aR s.v.o.refs.length s.cR] ++ cellsS r := by simp [cellsS, SlotA.cells]
      have e2 : cellsS (s :: r.set k t) = [.bool s.v.has, .int .i64 s.v.o.kind, .slice s.aI s.v.o.ints.length s.cI, .slice s.aR s.v.o.refs.length s.cR] ++ cellsS (r.set k t) := by simp [cellsS, SlotA.cells]
      rw [e, e2, ← this]
      rw [show (k + 1) * 4 = k * 4 + 4 by omega]
      simp [List.set]

/-- The facts that a walk wants of slot k of a row of slots that lies in block B from cell o on. -/
theorem Box.slot {w : World} {B : Nat} {ss : List SlotA} {t : TypeId} (b : Box w B (cellsS ss) t) (k : Nat) (hk : k < ss.length) :
    w.cell? ⟨B, k * 4, none⟩ = some (.bool (ss.getD k zeroS).v.has) ∧ w.cell? ⟨B, k * 4 + 1, none⟩ = some (.int .i64 (ss.getD k zeroS).v.o.kind) ∧
    w.cell? ⟨B, k * 4 + 2, none⟩ = some (.slice (ss.getD k zeroS).aI (ss.getD k zeroS).v.o.ints.length (ss.getD k zeroS).cI) ∧ w.cell? ⟨B, k * 4 + 3, none⟩ = some (.slice (ss.getD k zeroS).aR (ss.getD k zeroS).v.o.refs.length (ss.getD k zeroS).cR) ∧
    (∀ i, w.frozen? ⟨B, i, none⟩ = false) :=
  ⟨b.cell _ _ (cellsS_at ss k 0 hk (by omega)), b.cell _ _ (cellsS_at ss k 1 hk (by omega)), b.cell _ _ (cellsS_at ss k 2 hk (by omega)), b.cell _ _ (cellsS_at ss k 3 hk (by omega)), fun i => b.frozen i⟩
/-- The blocks that a slot's lists own. -/
def SlotA.blocks (s : SlotA) : List Nat := (Value.slice s.aI s.v.o.ints.length s.cI).ownBlock.toList ++ (Value.slice s.aR s.v.o.refs.length s.cR).ownBlock.toList
/-- The slots own their lists; no two of them share a row. -/
structure OwnS (w : World) (lo hi : Nat) (ss : List SlotA) : Prop where
  each : ∀ s ∈ ss, s.own w lo hi
  apart : (ss.flatMap SlotA.blocks).Nodup

theorem SlotA.blocks_lt {w : World} {lo hi : Nat} {s : SlotA} (h : s.own w lo hi) : ∀ k ∈ s.blocks, lo ≤ k ∧ k < hi := by
  intro k hk
  rcases List.mem_append.1 hk with h1 | h1
  · exact h.ints.lt k (Option.mem_toList.1 h1)
  · exact h.refs.lt k (Option.mem_toList.1 h1)
theorem SlotA.blocks_nodup {w : World} {lo hi : Nat} {s : SlotA} (h : s.own w lo hi) : s.blocks.Nodup := by
  unfold SlotA.blocks
  cases h1 : (Value.slice s.aI s.v.o.ints.length s.cI).ownBlock with
  | none => cases h2 : (Value.slice s.aR s.v.o.refs.length s.cR).ownBlock <;> simp
  | some a =>
    cases h2 : (Value.slice s.aR s.v.o.refs.length s.cR).ownBlock with
    | none => simp
    | some b =>
      have := h.apart a h1
      rw [h2] at this
      have hne : b ≠ a := fun e => this (by rw [e])
      simp [Ne.symm hne]
theorem OwnS.nil (w : World) (lo hi : Nat) : OwnS w lo hi [] := ⟨by simp, by simp⟩
theorem OwnS.below {w w' : World} {lo hi : Nat} {ss : List SlotA} (h : OwnS w lo hi ss) (hb : Below w.heap.size w w') : OwnS w' lo hi ss := ⟨fun s hs => (h.each s hs).below hb, h.apart⟩
theorem OwnS.within {w w' : World} {lo hi l r : Nat} {ss : List SlotA} (h : OwnS w lo hi ss) (hw : Within l r w w') (hd : hi ≤ l ∨ r ≤ lo) : OwnS w' lo hi ss := ⟨fun s hs => (h.each s hs).within hw hd, h.apart⟩
theorem OwnS.widen {w : World} {lo hi lo' hi' : Nat} {ss : List SlotA} (h : OwnS w lo hi ss) (h1 : lo' ≤ lo) (h2 : hi ≤ hi') (h3 : hi' ≤ w.heap.size) : OwnS w lo' hi' ss := ⟨fun s hs => (h.each s hs).widen h1 h2 h3, h.apart⟩
theorem OwnS.blocks_lt {w : World} {lo hi : Nat} {ss : List SlotA} (h : OwnS w lo hi ss) : ∀ k ∈ ss.flatMap SlotA.blocks, lo ≤ k ∧ k < hi := by
  intro k hk
  obtain ⟨s, hs, hk'⟩ := List.mem_flatMap.1 hk
  exact SlotA.blocks_lt (h.each s hs) k hk'
/-- One more, behind them. -/
theorem OwnS.snoc {w : World} {lo mid hi : Nat} {ss : List SlotA} {t : SlotA} (h : OwnS w lo mid ss) (ht : t.own w mid hi) (h1 : lo ≤ mid) (h2 : mid ≤ hi) (h3 : hi ≤ w.heap.size) : OwnS w lo hi (ss ++ [t]) := by
  refine ⟨fun s hs => ?_, ?_⟩
  · rcases List.mem_append.1 hs with h' | h'
    · exact (h.each s h').widen (Nat.le_refl _) h2 h3
    · obtain rfl := List.mem_singleton.1 h'
      exact OwnO.widen ht h1 (Nat.le_refl _) h3
  · rw [List.flatMap_append, List.nodup_append]
    refine ⟨h.apart, by simpa using SlotA.blocks_nodup ht, ?_⟩
    intro a ha b hb e
    have := (h.blocks_lt a ha).2
    have := (SlotA.blocks_lt ht b (by simpa using hb)).1
    omega
def ReadsS (w : World) (ss : List SlotA) : Prop := ∀ s ∈ ss, s.reads w
theorem OwnS.reads {w : World} {lo hi : Nat} {ss : List SlotA} (h : OwnS w lo hi ss) : ReadsS w ss := fun s hs => OwnO.reads (h.each s hs)
theorem ReadsS.below {w w' : World} {ss : List SlotA} (h : ReadsS w ss) (hb : Below w.heap.size w w') : ReadsS w' ss := fun s hs => ReadsO.below (h s hs) hb
end Go.Proofs.YtickiokdcbeefaaGreatDoor

/- The walk of laws.eqIntS. -/
namespace Go.Proofs.YtickiokdcbeefaaGreatDoor
open Go.RowKit

end Go.Proofs.YtickiokdcbeefaaGreatDoor

/- The walks of laws.markIntS and laws.heldIntS. -/
namespace Go.Proofs.YtickiokdcbeefaaGreatDoor
open Go.RowKit

end Go.Proofs.YtickiokdcbeefaaGreatDoor

/- The walks of laws.eqObj, markObj, heldObj. -/
namespace Go.Proofs.YtickiokdcbeefaaGreatDoor
open Go.RowKit

end Go.Proofs.YtickiokdcbeefaaGreatDoor

/- Appending bytes that are read to a row that the call owns: one law for the walk. -/
namespace Go.Proofs.YtickiokdcbeefaaGreatDoor
open Go.RowKit

theorem Tryz.infoU8 : (Tryz.prog.info? 5).map (fun i => (i.zero, i.size, i.bytes)) = some (some (.int .u8 0), 1, 1) := by kernel_rfl

/-- The slice at a, of capacity c, owns the bytes ys; its row lies from base on. -/
def OwnB (w : World) (base : Nat) (a : Option Addr) (c : Nat) (ys : List Int) : Prop :=
  (∀ z ∈ ys, 0 ≤ z ∧ z < 256) ∧ w.ownsRow base 5 1 (.slice a ys.length c) ys.length (ys.map (Value.int .u8))

theorem OwnB.reads {w : World} {base : Nat} {a : Option Addr} {c : Nat} {ys : List Int} (h : OwnB w base a c ys) : Reads w a ys := Reads.of_own h.1 h.2

theorem OwnB.nocap {w : World} {base : Nat} {a : Option Addr} {c : Nat} {ys : List Int} (h : OwnB w base a c ys) : a = none → c = 0 := by
  intro ha
  rcases h.2.2 with ⟨hv, _⟩ | ⟨g, cap, cur, hv, _⟩
  · simp only [Value.slice.injEq] at hv; exact hv.2.2
  · simp [ha] at hv

theorem OwnB.below {w w' : World} {base : Nat} {a : Option Addr} {c : Nat} {ys : List Int} (h : OwnB w base a c ys) (hb : Below w.heap.size w w') : OwnB w' base a c ys := by
  refine ⟨h.1, h.2.1, ?_⟩
  rcases h.2.2 with h0 | ⟨g, cap, cur, hv, hg, hgg, hr⟩
  · exact .inl h0
  · exact .inr ⟨g, cap, cur, hv, hg, by rw [hb.block g (Array.getElem?_eq_some_iff.1 hgg).1]; exact hgg, hr⟩

theorem OwnB.alloc {w : World} {base : Nat} {a : Option Addr} {c : Nat} {ys : List Int} (h : OwnB w base a c ys) (o : Obj) : OwnB (w.alloc o) base a c ys := ⟨h.1, h.2.alloc o⟩

theorem OwnB.base {w : World} {base base' : Nat} {a : Option Addr} {c : Nat} {ys : List Int} (h : OwnB w base a c ys) (hb : base' ≤ base) : OwnB w base' a c ys := by
  refine ⟨h.1, h.2.1, ?_⟩
  rcases h.2.2 with h0 | ⟨g, cap, cur, hv, hg, hr⟩
  · exact .inl h0
  · exact .inr ⟨g, cap, cur, hv, by omega, hr⟩

theorem Reads.alloc {w : World} {a : Option Addr} {zs : List Int} (h : Reads w a zs) (o : Obj) : Reads (w.alloc o) a zs := h.below ((Below.refl _ _).alloc (Nat.le_refl _) o)

theorem reads_lit1 (w : World) (z : Int) (e : TypeId) (hz : 0 ≤ z ∧ z < 256) : Reads (w.alloc (.cells #[.int .u8 z] e)) (some ⟨w.heap.size, 0, none⟩) [z] := by
  refine ⟨by simpa using hz, fun _ => ⟨_, _, rfl, fun i hi => ?_⟩⟩
  simp at hi
  subst hi
  simp

theorem own_lit0 (w : World) : OwnB (w.alloc (.cells #[] 5)) w.heap.size (some ⟨w.heap.size, 0, none⟩) 0 [] :=
  ⟨by simp, World.ownsRow_lit w #[] 0 (Nat.le_refl _) (by simp [maxLen]) rfl⟩

theorem append_bytes {w : World} {ops : Array Oper} {rest : List Oper} {o : Oper} {act : Act} {Q : Exit → Act → World → Prop} (hgd : o.guard = none) (s x : Operand)
    (ho : o.op = .call { callee := .builtin .append, args := #[s, x], argTypes := #[22, 22] })
    (base : Nat) (a : Option Addr) (c : Nat) (xs : List Int) (hs : act.eval s = .slice a xs.length c) (hown : OwnB w base a c xs)
    (sa : Option Addr) (sc : Nat) (zs : List Int) (hx : act.eval x = .slice sa zs.length sc) (hr : Reads w sa zs) (hc : sa = none → sc = 0)
    (hb : xs.length + zs.length ≤ 70368744177664) (hbase : base ≤ w.heap.size)
    (h : ∀ a' c' ys w', Hid (ys = xs ++ zs) → OwnB w' base a' c' ys → w.grownBy w' (Value.slice a xs.length c).ownBlock → wpList Tryz.prog ops Q rest (act.put o.dst (.slice a' ys.length c')) w') :
    wpList Tryz.prog ops Q (o :: rest) act w := by
  obtain ⟨i0, hi, hz0, hz1, hz2⟩ := info_parts Tryz.infoU8
  have hby : ∀ z ∈ xs ++ zs, 0 ≤ z ∧ z < 256 := by
    intro z hz
    rcases List.mem_append.1 hz with h1 | h1
    · exact hown.1 z h1
    · exact hr.1 z h1
  have fin : ∀ v' w', w'.ownsRow base 5 1 v' (xs.length + zs.length) (xs.map (Value.int .u8) ++ zs.map (Value.int .u8)) → w.grownBy w' (Value.slice a xs.length c).ownBlock → wpList Tryz.prog ops Q rest (act.put o.dst v') w' := by
    intro v' w' h1 h2
    rw [← List.map_append, ← List.length_append] at h1
    have sh : ∃ a' c', v' = .slice a' (xs ++ zs).length c' := by
      rcases h1.2 with ⟨rfl, h0⟩ | ⟨g, cap, cur, rfl, _⟩
      · exact ⟨none, 0, by rw [h0]⟩
      · exact ⟨_, _, rfl⟩
    obtain ⟨a', c', rfl⟩ := sh
    exact h a' c' (xs ++ zs) w' rfl ⟨hby, h1⟩ h2
  cases sa with
  | none =>
    have hz : zs = [] := by
      by_cases e : zs = []
      · exact e
      · obtain ⟨b, off, hh, _⟩ := hr.2 e
        cases hh
    subst hz
    have := hc rfl
    subst this
    exact wpList_append_own_none hgd s x 22 ho base 5 i0 1 Tryz.underlying22 hi _ _ _ hs hown.2 hx (fin _ w (by simpa using hown.2) (World.grownBy.refl _ _))
  | some ad =>
    refine wpList_append_own w hgd s x 22 ho base 5 i0 (.int .u8 0) 1 1 Tryz.underlying22 hi hz0 hz1 hz2 rfl (by decide) _ _ _ hs hown.2 ad zs.length sc (zs.map (Value.int .u8)) hx (by simp) ?_ (ints_oneCell _ _) (by simp only [maxLen]; omega) (by omega) hbase (fun v' w' h1 h2 _ => fin v' w' h1 h2)
    intro j u hj
    have hjl : j < zs.length := by
      by_cases e : j < zs.length
      · exact e
      · simp [List.getElem?_eq_none (Nat.le_of_not_lt e)] at hj
    have hne : zs ≠ [] := by intro e; simp [e] at hjl
    obtain ⟨b, off, hh, hcell⟩ := hr.2 hne
    cases hh
    rw [Addr_add, hcell j hjl]
    simpa [hjl] using hj

end Go.Proofs.YtickiokdcbeefaaGreatDoor

/- The walks of laws.markByteS and laws.heldByteS. -/
namespace Go.Proofs.YtickiokdcbeefaaGreatDoor
open Go.RowKit

def marks (k0 : Int) (n : Nat) : List Int := (List.range n).map fun i : Nat => (k0 + i) % 256

end Go.Proofs.YtickiokdcbeefaaGreatDoor

/- The walk of laws.toByteS: a new row with the same bytes. -/
namespace Go.Proofs.YtickiokdcbeefaaGreatDoor
open Go.RowKit

end Go.Proofs.YtickiokdcbeefaaGreatDoor

/- The walk of laws.eqByteS. -/
namespace Go.Proofs.YtickiokdcbeefaaGreatDoor
open Go.RowKit

end Go.Proofs.YtickiokdcbeefaaGreatDoor

/- What is owned stays so while another row is written; marks by OwnB. -/
namespace Go.Proofs.YtickiokdcbeefaaGreatDoor
open Go.RowKit

theorem OwnB.kept {w w' : World} {base : Nat} {a : Option Addr} {c : Nat} {ys : List Int} {row : Option Nat} (h : OwnB w base a c ys) (hg : w.grownBy w' row)
    (hne : ∀ k, (Value.slice a ys.length c).ownBlock = some k → row ≠ some k) : OwnB w' base a c ys := by
  refine ⟨h.1, h.2.kept hg ?_⟩
  cases hv : (Value.slice a ys.length c).ownBlock with
  | none => exact .inl rfl
  | some k => exact .inr fun e => hne k hv e.symm

theorem OwnB.drewN {w : World} {base : Nat} {a : Option Addr} {c : Nat} {ys : List Int} (h : OwnB w base a c ys) (n : Nat) : OwnB (w.drewN n) base a c ys := h.below (below_drewN (Below.refl _ _) n)

theorem OwnB.lt {w : World} {base : Nat} {a : Option Addr} {c : Nat} {ys : List Int} (h : OwnB w base a c ys) : ∀ k, (Value.slice a ys.length c).ownBlock = some k → base ≤ k ∧ k < w.heap.size := h.2.lt

end Go.Proofs.YtickiokdcbeefaaGreatDoor
