/- Several texts in one, in their order. -/
import Derived.WalkKit
import Derived.Below
import Derived.WalkSmall
import Derived.Laws.AppendOwnNone
import Derived.Test.YtajcffchopcamaaGreatDoorProg
import Derived.Test.YtajcffchopcamaaGreatDoorPFnPathsx1
/- What is written lies within a span of blocks; all else is as it was. -/
namespace Go.Proofs.YtajcffchopcamaaGreatDoor
open Go.RowKit

structure Within (lo hi : Nat) (w w' : World) : Prop where
  os : w'.os = w.os
  tape : w'.tape = w.tape
  output : w'.output = w.output
  size : w.heap.size ≤ w'.heap.size
  block : ∀ k, k < w.heap.size → ¬ (lo ≤ k ∧ k < hi) → w'.heap[k]? = w.heap[k]?

theorem Within.refl (lo hi : Nat) (w : World) : Within lo hi w w := ⟨rfl, rfl, rfl, Nat.le_refl _, fun _ _ _ => rfl⟩
theorem Within.trans {lo hi : Nat} {a b c : World} (h : Within lo hi a b) (k : Within lo hi b c) : Within lo hi a c :=
  ⟨k.os.trans h.os, k.tape.trans h.tape, k.output.trans h.output, Nat.le_trans h.size k.size, fun i hi hn => (k.block i (Nat.lt_of_lt_of_le hi h.size) hn).trans (h.block i hi hn)⟩
theorem Within.mono {lo hi lo' hi' : Nat} {w w' : World} (h : Within lo hi w w') (h1 : lo' ≤ lo) (h2 : hi ≤ hi') : Within lo' hi' w w' :=
  ⟨h.os, h.tape, h.output, h.size, fun k hk hn => h.block k hk (fun hh => hn ⟨by omega, by omega⟩)⟩
theorem Within.of_below {lo hi : Nat} {w w' : World} (h : Below w.heap.size w w') : Within lo hi w w' :=
  ⟨h.os, h.tape, h.output, h.size, fun k hk _ => h.block k hk⟩
theorem Within.of_grown {lo hi : Nat} {w w' : World} {row : Option Nat} (h : w.grownBy w' row) (hr : ∀ k, row = some k → lo ≤ k ∧ k < hi) : Within lo hi w w' :=
  ⟨h.os, h.tape, h.output, h.size, fun k hk hn => h.block k hk (fun e => hn (hr k e.symm))⟩
/-- Nothing below B is written. -/
theorem Within.below {lo hi B : Nat} {w w' : World} (h : Within lo hi w w') (hB : B ≤ lo) (hs : B ≤ w.heap.size) : Below B w w' :=
  ⟨h.os, h.tape, h.output, h.size, fun k hk => h.block k (by omega) (by omega)⟩
theorem Within.drewN {lo hi : Nat} {w w' : World} (h : Within lo hi w w') (n : Nat) : Within lo hi w (w'.drewN n) :=
  h.trans (Within.of_below (below_drewN (Below.refl _ _) n))

theorem ownsRow_block {w w' : World} {base : Nat} {e : TypeId} {size n : Nat} {v : Value} {xs : List Value} (h : w.ownsRow base e size v n xs) (hb : ∀ k, v.ownBlock = some k → w'.heap[k]? = w.heap[k]?) : w'.ownsRow base e size v n xs := by
  refine ⟨h.1, ?_⟩
  rcases h.2 with h0 | ⟨g, cap, cur, hv, hg, hgg, hr⟩
  · exact .inl h0
  · refine .inr ⟨g, cap, cur, hv, hg, ?_, hr⟩
    rw [hb g (by rw [hv]; rfl)]
    exact hgg
theorem ownsRow_base {w : World} {base base' : Nat} {e : TypeId} {size n : Nat} {v : Value} {xs : List Value} (h : w.ownsRow base e size v n xs) (hb : ∀ k, v.ownBlock = some k → base' ≤ k) : w.ownsRow base' e size v n xs := by
  refine ⟨h.1, ?_⟩
  rcases h.2 with h0 | ⟨g, cap, cur, hv, hg, hgg, hr⟩
  · exact .inl h0
  · exact .inr ⟨g, cap, cur, hv, hb g (by rw [hv]; rfl), hgg, hr⟩
end Go.Proofs.YtajcffchopcamaaGreatDoor

/- Slices of numbers: what the call owns; appending to it. -/
namespace Go.Proofs.YtajcffchopcamaaGreatDoor
open Go.RowKit

theorem Tryz.infoInt : (Tryz.prog.info? 3).map (fun i => (i.zero, i.size, i.bytes)) = some (some (.int .i64 0), 1, 8) := by kernel_rfl

/-- The slice at a, of capacity c, owns the numbers ns; its row lies from lo up to hi. -/
def OwnI (w : World) (lo hi : Nat) (a : Option Addr) (c : Nat) (ns : List Int) : Prop :=
  w.ownsRow lo 3 1 (.slice a ns.length c) ns.length (ns.map (Value.int .i64)) ∧ hi ≤ w.heap.size ∧ ∀ k, (Value.slice a ns.length c).ownBlock = some k → k < hi

theorem OwnI.lt {w : World} {lo hi : Nat} {a : Option Addr} {c : Nat} {ns : List Int} (h : OwnI w lo hi a c ns) : ∀ k, (Value.slice a ns.length c).ownBlock = some k → lo ≤ k ∧ k < hi := fun k hk => ⟨(h.1.lt k hk).1, h.2.2 k hk⟩

theorem OwnI.within {w w' : World} {lo hi l r : Nat} {a : Option Addr} {c : Nat} {ns : List Int} (h : OwnI w lo hi a c ns) (hw : Within l r w w') (hd : hi ≤ l ∨ r ≤ lo) : OwnI w' lo hi a c ns :=
  ⟨ownsRow_block h.1 (fun k hk => hw.block k (by have := h.2.2 k hk; have := h.2.1; omega) (by have := h.lt k hk; omega)), Nat.le_trans h.2.1 hw.size, h.2.2⟩
theorem OwnI.below {w w' : World} {lo hi : Nat} {a : Option Addr} {c : Nat} {ns : List Int} (h : OwnI w lo hi a c ns) (hb : Below w.heap.size w w') : OwnI w' lo hi a c ns :=
  h.within (Within.of_below (lo := w.heap.size) (hi := w.heap.size) hb) (.inl h.2.1)
theorem OwnI.widen {w : World} {lo hi lo' hi' : Nat} {a : Option Addr} {c : Nat} {ns : List Int} (h : OwnI w lo hi a c ns) (h1 : lo' ≤ lo) (h2 : hi ≤ hi') (h3 : hi' ≤ w.heap.size) : OwnI w lo' hi' a c ns :=
  ⟨ownsRow_base h.1 (fun k hk => by have := h.lt k hk; omega), h3, fun k hk => by have := h.lt k hk; omega⟩

theorem OwnI.reads {w : World} {lo hi : Nat} {a : Option Addr} {c : Nat} {ns : List Int} (h : OwnI w lo hi a c ns) : ReadsI w a ns := by
  intro hne
  rcases h.1.2 with ⟨_, h0⟩ | ⟨g, cap', cur, hv, hb, hg, hr⟩
  · exact absurd (List.length_eq_zero_iff.1 h0) hne
  · simp only [Value.slice.injEq] at hv
    obtain ⟨rfl, _, rfl⟩ := hv
    refine ⟨g, 0, rfl, fun i hi => ?_⟩
    have := h.1.cellAt i (by omega)
    rw [Nat.zero_add, this]
    simp [List.getD, hi]

theorem OwnI.nocap {w : World} {lo hi : Nat} {a : Option Addr} {c : Nat} {ns : List Int} (h : OwnI w lo hi a c ns) : a = none → c = 0 := by
  intro ha
  rcases h.1.2 with ⟨hv, _⟩ | ⟨g, cap, cur, hv, _⟩
  · simp only [Value.slice.injEq] at hv; exact hv.2.2
  · simp [ha] at hv
theorem OwnI.len_cap {w : World} {lo hi : Nat} {a : Option Addr} {c : Nat} {ns : List Int} (h : OwnI w lo hi a c ns) : ns.length ≤ c := by
  rcases h.1.2 with ⟨hv, h0⟩ | ⟨g, cap, cur, hv, _, _, hn, _⟩
  · omega
  · simp only [Value.slice.injEq] at hv; omega

theorem ownI_nil (w : World) (lo hi : Nat) (h : hi ≤ w.heap.size) : OwnI w lo hi none 0 [] := ⟨⟨by simp, .inl ⟨rfl, rfl⟩⟩, h, fun k hk => by cases hk⟩
theorem ownI_lit0 (w : World) : OwnI (w.alloc (.cells #[] 3)) w.heap.size (w.heap.size + 1) (some ⟨w.heap.size, 0, none⟩) 0 [] :=
  ⟨World.ownsRow_lit w #[] 0 (Nat.le_refl _) (by simp [maxLen]) rfl, by simp, fun k hk => by cases hk; simp⟩

theorem ReadsI.cases {w : World} {a : Option Addr} {ns : List Int} (h : ReadsI w a ns) :
    ns = [] ∨ ∃ b off, a = some ⟨b, off, none⟩ ∧ 0 < ns.length ∧ (∀ i, i < ns.length → w.cell? ⟨b, off + i, none⟩ = some (.int .i64 (ns.getD i 0))) := by
  by_cases e : ns = []
  · exact .inl e
  · obtain ⟨b, off, ha, hc⟩ := h e
    exact .inr ⟨b, off, ha, List.length_pos_iff.2 e, hc⟩

theorem ReadsI.below {w w' : World} {a : Option Addr} {ns : List Int} (h : ReadsI w a ns) (hb : Below w.heap.size w w') : ReadsI w' a ns := by
  intro hne
  obtain ⟨b, off, ha, hc⟩ := h hne
  refine ⟨b, off, ha, fun i hi => ?_⟩
  rw [hb.cell (p := ⟨b, off + i, none⟩) (block_lt (hc i hi))]
  exact hc i hi
theorem ReadsI.nil (w : World) (a : Option Addr) : ReadsI w a [] := fun h => absurd rfl h

end Go.Proofs.YtajcffchopcamaaGreatDoor

/- A block of cells that the call laid: a box. -/
namespace Go.Proofs.YtajcffchopcamaaGreatDoor
open Go.RowKit

/-- Block B holds these cells, none frozen. -/
def Box (w : World) (B : Nat) (vs : List Value) (t : TypeId) : Prop := w.heap[B]? = some (.cells vs.toArray t (0, 0))

theorem Box.lt {w : World} {B : Nat} {vs : List Value} {t : TypeId} (h : Box w B vs t) : B < w.heap.size := (Array.getElem?_eq_some_iff.1 h).1
theorem Box.cell {w : World} {B : Nat} {vs : List Value} {t : TypeId} (h : Box w B vs t) (i : Nat) (v : Value) (hv : vs[i]? = some v) : w.cell? ⟨B, i, none⟩ = some v := by
  unfold Box at h
  simp [World.cell?, h, hv]
theorem Box.frozen {w : World} {B : Nat} {vs : List Value} {t : TypeId} (h : Box w B vs t) (i : Nat) : w.frozen? ⟨B, i, none⟩ = false := by
  unfold Box at h
  simp [World.frozen?, h]
theorem Box.set {w : World} {B : Nat} {vs : List Value} {t : TypeId} (h : Box w B vs t) (i : Nat) (v : Value) : Box (w.setCell ⟨B, i, none⟩ v) B (vs.set i v) t := by
  unfold Box at h ⊢
  rw [heap_setCell_same w B i _ t v h]
  simp
theorem Box.block {w w' : World} {B : Nat} {vs : List Value} {t : TypeId} (h : Box w B vs t) (hb : w'.heap[B]? = w.heap[B]?) : Box w' B vs t := by unfold Box at h ⊢; rw [hb]; exact h
theorem Box.below {w w' : World} {B n : Nat} {vs : List Value} {t : TypeId} (h : Box w B vs t) (hb : Below n w w') (hn : B < n) : Box w' B vs t := h.block (hb.block B hn)
theorem Box.within {w w' : World} {B l r : Nat} {vs : List Value} {t : TypeId} (h : Box w B vs t) (hb : Within l r w w') (hn : ¬ (l ≤ B ∧ B < r)) : Box w' B vs t := h.block (hb.block B h.lt hn)
theorem Box.alloc {w : World} {B : Nat} {vs : List Value} {t : TypeId} (h : Box w B vs t) (o : Obj) : Box (w.alloc o) B vs t := h.block (Below.heap_alloc w o B h.lt)
theorem Box.other {w : World} {B C i : Nat} {v : Value} {vs : List Value} {t : TypeId} (h : Box w B vs t) (hne : B ≠ C) : Box (w.setCell ⟨C, i, none⟩ v) B vs t := h.block (heap_setCell_other w ⟨C, i, none⟩ B v hne)
theorem box_new (w : World) (vs : List Value) (t : TypeId) : Box (w.alloc (.cells vs.toArray t)) w.heap.size vs t := by unfold Box; rw [heap_alloc_new]
theorem Box.drewN {w : World} {B : Nat} {vs : List Value} {t : TypeId} (h : Box w B vs t) (n : Nat) : Box (w.drewN n) B vs t := h.block (by rfl)

/-- One, two, three boxes laid on one another. -/
theorem boxes1 (w : World) (v0 : List Value) (t0 : TypeId) : ∃ W, Hid (w.alloc (.cells v0.toArray t0) = W) ∧ Box W w.heap.size v0 t0 ∧ Below w.heap.size w W ∧ W.heap.size = w.heap.size + 1 :=
  ⟨_, rfl, box_new w _ _, (Below.refl _ _).alloc (Nat.le_refl _) _, by simp⟩
theorem boxes2 (w : World) (v0 v1 : List Value) (t0 t1 : TypeId) : ∃ W, Hid ((w.alloc (.cells v0.toArray t0)).alloc (.cells v1.toArray t1) = W) ∧ Box W w.heap.size v0 t0 ∧ Box W (w.heap.size + 1) v1 t1 ∧ Below w.heap.size w W ∧ W.heap.size = w.heap.size + 2 := by
  refine ⟨_, rfl, (box_new w _ _).alloc _, ?_, ((Below.refl _ _).alloc (Nat.le_refl _) _).alloc (by simp) _, by simp⟩
  have := box_new (w.alloc (.cells v0.toArray t0)) v1 t1
  simpa using this
theorem box_set {w : World} {B : Nat} {vs : List Value} {t : TypeId} (h : Box w B vs t) (i : Nat) (v : Value) : ∃ W, Hid (w.setCell ⟨B, i, none⟩ v = W) ∧ Box W B (vs.set i v) t ∧ Within B (B + 1) w W ∧ W.heap.size = w.heap.size :=
  ⟨_, rfl, h.set i v, ⟨rfl, rfl, rfl, by simp, fun k _ hn => heap_setCell_other w ⟨B, i, none⟩ k v (fun e => hn (by simp at e; omega))⟩, by simp⟩

theorem within_set (w : World) (B i : Nat) (v : Value) {lo hi : Nat} (h : lo ≤ B ∧ B < hi) : Within lo hi w (w.setCell ⟨B, i, none⟩ v) :=
  ⟨rfl, rfl, rfl, by simp, fun k _ hn => heap_setCell_other w ⟨B, i, none⟩ k v (fun e => hn (by simp at e; omega))⟩
end Go.Proofs.YtajcffchopcamaaGreatDoor

/- Objects: what they are, what a walk reads and owns of them. -/
namespace Go.Proofs.YtajcffchopcamaaGreatDoor
open Go.RowKit

structure ObjV where
  kind : Int
  ints : List Int
  refs : List Int

/-- The value of an object whose lists lie at aI and aR. -/
def ObjV.val (o : ObjV) (aI : Option Addr) (cI : Nat) (aR : Option Addr) (cR : Nat) : Value := .agg #[.int .i64 o.kind, .slice aI o.ints.length cI, .slice aR o.refs.length cR]

structure ReadsO (w : World) (aI : Option Addr) (cI : Nat) (aR : Option Addr) (cR : Nat) (o : ObjV) : Prop where
  ints : ReadsI w aI o.ints
  refs : ReadsI w aR o.refs
  ni : aI = none → cI = 0
  nr : aR = none → cR = 0

structure OwnO (w : World) (lo hi : Nat) (aI : Option Addr) (cI : Nat) (aR : Option Addr) (cR : Nat) (o : ObjV) : Prop where
  ints : OwnI w lo hi aI cI o.ints
  refs : OwnI w lo hi aR cR o.refs
  apart : ∀ k, (Value.slice aI o.ints.length cI).ownBlock = some k → (Value.slice aR o.refs.length cR).ownBlock ≠ some k

theorem ReadsO.below {w w' : World} {aI : Option Addr} {cI : Nat} {aR : Option Addr} {cR : Nat} {o : ObjV} (h : ReadsO w aI cI aR cR o) (hb : Below w.heap.size w w') : ReadsO w' aI cI aR cR o := ⟨h.ints.below hb, h.refs.below hb, h.ni, h.nr⟩
theorem ReadsO.drew {w : World} {aI : Option Addr} {cI : Nat} {aR : Option Addr} {cR : Nat} {o : ObjV} (h : ReadsO w aI cI aR cR o) : ReadsO w.drew aI cI aR cR o := h.below (Below.refl _ _).drew
theorem OwnO.reads {w : World} {lo hi : Nat} {aI : Option Addr} {cI : Nat} {aR : Option Addr} {cR : Nat} {o : ObjV} (h : OwnO w lo hi aI cI aR cR o) : ReadsO w aI cI aR cR o := ⟨h.ints.reads, h.refs.reads, h.ints.nocap, h.refs.nocap⟩
theorem OwnO.within {w w' : World} {lo hi l r : Nat} {aI : Option Addr} {cI : Nat} {aR : Option Addr} {cR : Nat} {o : ObjV} (h : OwnO w lo hi aI cI aR cR o) (hw : Within l r w w') (hd : hi ≤ l ∨ r ≤ lo) : OwnO w' lo hi aI cI aR cR o := ⟨h.ints.within hw hd, h.refs.within hw hd, h.apart⟩
theorem OwnO.below {w w' : World} {lo hi : Nat} {aI : Option Addr} {cI : Nat} {aR : Option Addr} {cR : Nat} {o : ObjV} (h : OwnO w lo hi aI cI aR cR o) (hb : Below w.heap.size w w') : OwnO w' lo hi aI cI aR cR o := ⟨h.ints.below hb, h.refs.below hb, h.apart⟩
theorem OwnO.widen {w : World} {lo hi lo' hi' : Nat} {aI : Option Addr} {cI : Nat} {aR : Option Addr} {cR : Nat} {o : ObjV} (h : OwnO w lo hi aI cI aR cR o) (h1 : lo' ≤ lo) (h2 : hi ≤ hi') (h3 : hi' ≤ w.heap.size) : OwnO w lo' hi' aI cI aR cR o := ⟨h.ints.widen h1 h2 h3, h.refs.widen h1 h2 h3, h.apart⟩

theorem OwnI.kept {w w' : World} {lo hi : Nat} {a : Option Addr} {c : Nat} {ns : List Int} {row : Option Nat} (h : OwnI w lo hi a c ns) (hg : w.grownBy w' row) (hne : ∀ k, (Value.slice a ns.length c).ownBlock = some k → row ≠ some k) : OwnI w' lo hi a c ns :=
  ⟨ownsRow_block h.1 (fun k hk => hg.block k (h.1.lt k hk).2 (fun e => hne k hk e.symm)), Nat.le_trans h.2.1 hg.size, h.2.2⟩
end Go.Proofs.YtajcffchopcamaaGreatDoor

/- A box of three cells, filled. -/
namespace Go.Proofs.YtajcffchopcamaaGreatDoor
open Go.RowKit

/-- The facts that a walk wants of a box of three cells. -/
theorem Box.three {w : World} {B : Nat} {x0 x1 x2 : Value} {t : TypeId} (b : Box w B [x0, x1, x2] t) :
    w.cell? ⟨B, 0, none⟩ = some x0 ∧ w.cell? ⟨B, 1, none⟩ = some x1 ∧ w.cell? ⟨B, 2, none⟩ = some x2 ∧ w.frozen? ⟨B, 0, none⟩ = false ∧ w.frozen? ⟨B, 1, none⟩ = false ∧ w.frozen? ⟨B, 2, none⟩ = false :=
  ⟨b.cell 0 _ rfl, b.cell 1 _ rfl, b.cell 2 _ rfl, b.frozen 0, b.frozen 1, b.frozen 2⟩

end Go.Proofs.YtajcffchopcamaaGreatDoor
