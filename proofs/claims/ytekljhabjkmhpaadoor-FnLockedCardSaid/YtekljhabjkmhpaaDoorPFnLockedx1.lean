/- Several texts in one, in their order. -/
import Derived.WalkKit
import Derived.Below
import Derived.WalkSmall
import Derived.Laws.AppendOwnNone
import Derived.Test.YtekljhabjkmhpaaDoorProg
/- What a slice of bytes reads; small lemmas on it. -/
namespace Go.Proofs.YtekljhabjkmhpaaDoor
open Go.RowKit

theorem ret_int {k : IntKind} {a b : Int} (h : a = b) : Ending.returned (.int k a) = .returned (.int k b) := by rw [h]
theorem ret_bool {a b : Bool} (h : a = b) : Ending.returned (.bool a) = .returned (.bool b) := by rw [h]
/-- The slice at a, as long as zs, holds the bytes zs in w. -/
def Reads (w : World) (a : Option Addr) (zs : List Int) : Prop :=
  (∀ z ∈ zs, 0 ≤ z ∧ z < 256) ∧ (zs ≠ [] → ∃ b off, a = some ⟨b, off, none⟩ ∧ ∀ i, i < zs.length → w.cell? ⟨b, off + i, none⟩ = some (.int .u8 (zs.getD i 0)))

theorem Reads.byte {w : World} {a : Option Addr} {zs : List Int} (h : Reads w a zs) : ∀ z ∈ zs, 0 ≤ z ∧ z < 256 := h.1

theorem bytes_at {zs : List Int} (h : ∀ z ∈ zs, 0 ≤ z ∧ z < 256) (i : Nat) : 0 ≤ zs.getD i 0 ∧ zs.getD i 0 < 256 := by
  by_cases hi : i < zs.length
  · exact h _ (by simp [List.getD, hi])
  · simp [List.getD, hi]

theorem Reads.cases {w : World} {a : Option Addr} {zs : List Int} (h : Reads w a zs) :
    zs = [] ∨ ∃ b off, a = some ⟨b, off, none⟩ ∧ 0 < zs.length ∧ (∀ i, i < zs.length → w.cell? ⟨b, off + i, none⟩ = some (.int .u8 (zs.getD i 0))) := by
  by_cases e : zs = []
  · exact .inl e
  · obtain ⟨b, off, ha, hc⟩ := h.2 e
    exact .inr ⟨b, off, ha, List.length_pos_iff.2 e, hc⟩

theorem Reads.below {w w' : World} {a : Option Addr} {zs : List Int} (h : Reads w a zs) (hb : Below w.heap.size w w') : Reads w' a zs := by
  refine ⟨h.1, fun hne => ?_⟩
  obtain ⟨b, off, ha, hc⟩ := h.2 hne
  refine ⟨b, off, ha, fun i hi => ?_⟩
  have hlt : b < w.heap.size := by
    have := hc i hi
    simp only [World.cell?] at this
    by_cases hb : b < w.heap.size
    · exact hb
    · simp [Array.getElem?_eq_none (Nat.le_of_not_lt hb)] at this
  rw [hb.cell (p := ⟨b, off + i, none⟩) hlt]
  exact hc i hi

/-- The slice at a holds the numbers ns in w. -/
def ReadsI (w : World) (a : Option Addr) (ns : List Int) : Prop :=
  ns ≠ [] → ∃ b off, a = some ⟨b, off, none⟩ ∧ ∀ i, i < ns.length → w.cell? ⟨b, off + i, none⟩ = some (.int .i64 (ns.getD i 0))

theorem block_lt {w : World} {b off : Nat} {v : Value} (h : w.cell? ⟨b, off, none⟩ = some v) : b < w.heap.size := by
  simp only [World.cell?] at h
  by_cases hb : b < w.heap.size
  · exact hb
  · simp [Array.getElem?_eq_none (Nat.le_of_not_lt hb)] at h

theorem ReadsI.grown {w w' : World} {a : Option Addr} {ns : List Int} {B : Nat} (h : ReadsI w a ns) (hg : w.grownBy w' (some B)) (hne : ∀ b off, a = some ⟨b, off, none⟩ → b ≠ B) : ReadsI w' a ns := by
  intro e
  obtain ⟨b, off, ha, hc⟩ := h e
  refine ⟨b, off, ha, fun i hi => hg.cell (hc i hi) ?_⟩
  intro he
  exact hne b off ha (Option.some.inj he)

theorem readsI_lit (w : World) (ns : List Int) (e : TypeId) : ReadsI (w.alloc (.cells (ns.map (Value.int .i64)).toArray e)) (some ⟨w.heap.size, 0, none⟩) ns := by
  intro _
  refine ⟨_, _, rfl, fun i hi => ?_⟩
  have h : (w.alloc (.cells (ns.map (Value.int .i64)).toArray e)).cell? ⟨w.heap.size, 0 + i, none⟩ = (ns.map (Value.int .i64)).toArray[0 + i]? := by
    unfold World.cell?
    rw [heap_alloc_new]
    simp
  rw [h]
  simp [List.getD, hi]

/-- What the call owns, it reads. -/
theorem Reads.of_own {w : World} {base : Nat} {a : Option Addr} {cap e n : Nat} {zs : List Int} (hz : ∀ z ∈ zs, 0 ≤ z ∧ z < 256) (h : w.ownsRow base e 1 (.slice a n cap) zs.length (zs.map (Value.int .u8))) : Reads w a zs := by
  refine ⟨hz, fun hne => ?_⟩
  rcases h.2 with ⟨_, h0⟩ | ⟨g, cap', cur, hv, hb, hg, hr⟩
  · exact absurd (List.length_eq_zero_iff.1 h0) hne
  · simp only [Value.slice.injEq] at hv
    obtain ⟨rfl, rfl, rfl⟩ := hv
    refine ⟨g, 0, rfl, fun i hi => ?_⟩
    have := h.cellAt i (by omega)
    rw [Nat.zero_add, this]
    simp [List.getD, hi]

theorem grownBy_trans {a b c : World} {row : Option Nat} (h : a.grownBy b row) (k : b.grownBy c row) : a.grownBy c row :=
  ⟨k.os.trans h.os, k.tape.trans h.tape, k.output.trans h.output, Nat.le_trans h.size k.size, fun i hi hr => (k.block i (Nat.lt_of_lt_of_le hi h.size) hr).trans (h.block i hi hr)⟩

theorem Addr_add (b off i : Nat) : (⟨b, off, none⟩ : Addr).add i = ⟨b, off + i, none⟩ := by unfold Addr.add; split <;> simp_all

theorem readsI_one (w : World) (n : Int) (e : TypeId) : ReadsI (w.alloc (.cells #[.int .i64 n] e)) (some ⟨w.heap.size, 0, none⟩) [n] := by
  intro _
  refine ⟨_, _, rfl, fun i hi => ?_⟩
  simp at hi
  subst hi
  simp

end Go.Proofs.YtekljhabjkmhpaaDoor

/- What is written lies within a span of blocks; all else is as it was. -/
namespace Go.Proofs.YtekljhabjkmhpaaDoor
open Go.RowKit

structure Within (lo hi : Nat) (w w' : World) : Prop where
  os : w'.os = w.os
  tape : w'.tape = w.tape
  output : w'.output = w.output
  size : w.heap.size ≤ w'.heap.size
  block : ∀ k, k < w.heap.size → ¬ (lo ≤ k ∧ k < hi) → w'.heap[k]? = w.heap[k]?

theorem Within.refl (lo hi : Nat) (w : World) : Within lo hi w w := ⟨rfl, rfl, rfl, Nat.le_refl _, fun _ _ _ => rfl⟩
theorem Within.trans {lo hi : Nat} {a b c : World} (h : Within lo hi a b) (k : Within lo hi b c) : Within lo hi a c :=
  ⟨k.os.trans h.os, k.tape.trans h.tape, k.output.trans h.output, Nat.le_trans h.size k.size, fun i hi hn => (k.block i (Nat.lt_of_lt_of_le hi h.size) hn).trans (h.block i hi hn)⟩
theorem Within.mono {lo hi lo' hi' : Nat} {w w' : World} (h : Within lo hi w w') (h1 : lo' ≤ lo) (h2 : hi ≤ hi') : Within lo' hi' w w' :=
  ⟨h.os, h.tape, h.output, h.size, fun k hk hn => h.block k hk (fun hh => hn ⟨by omega, by omega⟩)⟩
theorem Within.of_below {lo hi : Nat} {w w' : World} (h : Below w.heap.size w w') : Within lo hi w w' :=
  ⟨h.os, h.tape, h.output, h.size, fun k hk _ => h.block k hk⟩
theorem Within.of_grown {lo hi : Nat} {w w' : World} {row : Option Nat} (h : w.grownBy w' row) (hr : ∀ k, row = some k → lo ≤ k ∧ k < hi) : Within lo hi w w' :=
  ⟨h.os, h.tape, h.output, h.size, fun k hk hn => h.block k hk (fun e => hn (hr k e.symm))⟩
/-- Nothing below B is written. -/
theorem Within.below {lo hi B : Nat} {w w' : World} (h : Within lo hi w w') (hB : B ≤ lo) (hs : B ≤ w.heap.size) : Below B w w' :=
  ⟨h.os, h.tape, h.output, h.size, fun k hk => h.block k (by omega) (by omega)⟩
theorem Within.drewN {lo hi : Nat} {w w' : World} (h : Within lo hi w w') (n : Nat) : Within lo hi w (w'.drewN n) :=
  h.trans (Within.of_below (below_drewN (Below.refl _ _) n))

theorem ownsRow_block {w w' : World} {base : Nat} {e : TypeId} {size n : Nat} {v : Value} {xs : List Value} (h : w.ownsRow base e size v n xs) (hb : ∀ k, v.ownBlock = some k → w'.heap[k]? = w.heap[k]?) : w'.ownsRow base e size v n xs := by
  refine ⟨h.1, ?_⟩
  rcases h.2 with h0 | ⟨g, cap, cur, hv, hg, hgg, hr⟩
  · exact .inl h0
  · refine .inr ⟨g, cap, cur, hv, hg, ?_, hr⟩
    rw [hb g (by rw [hv]; rfl)]
    exact hgg
theorem ownsRow_base {w : World} {base base' : Nat} {e : TypeId} {size n : Nat} {v : Value} {xs : List Value} (h : w.ownsRow base e size v n xs) (hb : ∀ k, v.ownBlock = some k → base' ≤ k) : w.ownsRow base' e size v n xs := by
  refine ⟨h.1, ?_⟩
  rcases h.2 with h0 | ⟨g, cap, cur, hv, hg, hgg, hr⟩
  · exact .inl h0
  · exact .inr ⟨g, cap, cur, hv, hb g (by rw [hv]; rfl), hgg, hr⟩
end Go.Proofs.YtekljhabjkmhpaaDoor

/- Slices of numbers: what the call owns; appending to it. -/
namespace Go.Proofs.YtekljhabjkmhpaaDoor
open Go.RowKit

theorem Tryd.infoInt : (Tryd.prog.info? 3).map (fun i => (i.zero, i.size, i.bytes)) = some (some (.int .i64 0), 1, 8) := by kernel_rfl

/-- The slice at a, of capacity c, owns the numbers ns; its row lies from lo up to hi. -/
def OwnI (w : World) (lo hi : Nat) (a : Option Addr) (c : Nat) (ns : List Int) : Prop :=
  w.ownsRow lo 3 1 (.slice a ns.length c) ns.length (ns.map (Value.int .i64)) ∧ hi ≤ w.heap.size ∧ ∀ k, (Value.slice a ns.length c).ownBlock = some k → k < hi

theorem OwnI.lt {w : World} {lo hi : Nat} {a : Option Addr} {c : Nat} {ns : List Int} (h : OwnI w lo hi a c ns) : ∀ k, (Value.slice a ns.length c).ownBlock = some k → lo ≤ k ∧ k < hi := fun k hk => ⟨(h.1.lt k hk).1, h.2.2 k hk⟩

theorem OwnI.within {w w' : World} {lo hi l r : Nat} {a : Option Addr} {c : Nat} {ns : List Int} (h : OwnI w lo hi a c ns) (hw : Within l r w w') (hd : hi ≤ l ∨ r ≤ lo) : OwnI w' lo hi a c ns :=
  ⟨ownsRow_block h.1 (fun k hk => hw.block k (by have := h.2.2 k hk; have := h.2.1; omega) (by have := h.lt k hk; omega)), Nat.le_trans h.2.1 hw.size, h.2.2⟩
theorem OwnI.below {w w' : World} {lo hi : Nat} {a : Option Addr} {c : Nat} {ns : List Int} (h : OwnI w lo hi a c ns) (hb : Below w.heap.size w w') : OwnI w' lo hi a c ns :=
  h.within (Within.of_below (lo := w.heap.size) (hi := w.heap.size) hb) (.inl h.2.1)
theorem OwnI.widen {w : World} {lo hi lo' hi' : Nat} {a : Option Addr} {c : Nat} {ns : List Int} (h : OwnI w lo hi a c ns) (h1 : lo' ≤ lo) (h2 : hi ≤ hi') (h3 : hi' ≤ w.heap.size) : OwnI w lo' hi' a c ns :=
  ⟨ownsRow_base h.1 (fun k hk => by have := h.lt k hk; omega), h3, fun k hk => by have := h.lt k hk; omega⟩

theorem OwnI.reads {w : World} {lo hi : Nat} {a : Option Addr} {c : Nat} {ns : List Int} (h : OwnI w lo hi a c ns) : ReadsI w a ns := by
  intro hne
  rcases h.1.2 with ⟨_, h0⟩ | ⟨g, cap', cur, hv, hb, hg, hr⟩
  · exact absurd (List.length_eq_zero_iff.1 h0) hne
  · simp only [Value.slice.injEq] at hv
    obtain ⟨rfl, _, rfl⟩ := hv
    refine ⟨g, 0, rfl, fun i hi => ?_⟩
    have := h.1.cellAt i (by omega)
    rw [Nat.zero_add, this]
    simp [List.getD, hi]

theorem OwnI.nocap {w : World} {lo hi : Nat} {a : Option Addr} {c : Nat} {ns : List Int} (h : OwnI w lo hi a c ns) : a = none → c = 0 := by
  intro ha
  rcases h.1.2 with ⟨hv, _⟩ | ⟨g, cap, cur, hv, _⟩
  · simp only [Value.slice.injEq] at hv; exact hv.2.2
  · simp [ha] at hv
theorem ownI_lit0 (w : World) : OwnI (w.alloc (.cells #[] 3)) w.heap.size (w.heap.size + 1) (some ⟨w.heap.size, 0, none⟩) 0 [] :=
  ⟨World.ownsRow_lit w #[] 0 (Nat.le_refl _) (by simp [maxLen]) rfl, by simp, fun k hk => by cases hk; simp⟩

theorem ReadsI.cases {w : World} {a : Option Addr} {ns : List Int} (h : ReadsI w a ns) :
    ns = [] ∨ ∃ b off, a = some ⟨b, off, none⟩ ∧ 0 < ns.length ∧ (∀ i, i < ns.length → w.cell? ⟨b, off + i, none⟩ = some (.int .i64 (ns.getD i 0))) := by
  by_cases e : ns = []
  · exact .inl e
  · obtain ⟨b, off, ha, hc⟩ := h e
    exact .inr ⟨b, off, ha, List.length_pos_iff.2 e, hc⟩

theorem ReadsI.below {w w' : World} {a : Option Addr} {ns : List Int} (h : ReadsI w a ns) (hb : Below w.heap.size w w') : ReadsI w' a ns := by
  intro hne
  obtain ⟨b, off, ha, hc⟩ := h hne
  refine ⟨b, off, ha, fun i hi => ?_⟩
  rw [hb.cell (p := ⟨b, off + i, none⟩) (block_lt (hc i hi))]
  exact hc i hi
theorem ReadsI.nil (w : World) (a : Option Addr) : ReadsI w a [] := fun h => absurd rfl h

end Go.Proofs.YtekljhabjkmhpaaDoor

/- The walk of laws.toIntS: a new row with the same numbers. -/
namespace Go.Proofs.YtekljhabjkmhpaaDoor
open Go.RowKit

end Go.Proofs.YtekljhabjkmhpaaDoor
