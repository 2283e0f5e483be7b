/- Several texts in one, in their order. -/
import Derived.WalkKit
import Derived.Below
import Derived.WalkSmall
import Derived.Laws.AppendOwnNone
/- What is written lies within a span of blocks; all else is as it was. -/
namespace Go.Proofs.Ytnnehpimkdoeoaa
open Go.RowKit

structure Within (lo hi : Nat) (w w' : World) : Prop where
  os : w'.os = w.os
  tape : w'.tape = w.tape
  output : w'.output = w.output
  size : w.heap.size ≤ w'.heap.size
  block : ∀ k, k < w.heap.size → ¬ (lo ≤ k ∧ k < hi) → w'.heap[k]? = w.heap[k]?

theorem Within.refl (lo hi : Nat) (w : World) : Within lo hi w w := ⟨rfl, rfl, rfl, Nat.le_refl _, fun _ _ _ => rfl⟩
theorem Within.trans {lo hi : Nat} {a b c : World} (h : Within lo hi a b) (k : Within lo hi b c) : Within lo hi a c :=
  ⟨k.os.trans h.os, k.tape.trans h.tape, k.output.trans h.output, Nat.le_trans h.size k.size, fun i hi hn => (k.block i (Nat.lt_of_lt_of_le hi h.size) hn).trans (h.block i hi hn)⟩
theorem Within.mono {lo hi lo' hi' : Nat} {w w' : World} (h : Within lo hi w w') (h1 : lo' ≤ lo) (h2 : hi ≤ hi') : Within lo' hi' w w' :=
  ⟨h.os, h.tape, h.output, h.size, fun k hk hn => h.block k hk (fun hh => hn ⟨by omega, by omega⟩)⟩
theorem Within.of_below {lo hi : Nat} {w w' : World} (h : Below w.heap.size w w') : Within lo hi w w' :=
  ⟨h.os, h.tape, h.output, h.size, fun k hk _ => h.block k hk⟩
theorem Within.of_grown {lo hi : Nat} {w w' : World} {row : Option Nat} (h : w.grownBy w' row) (hr : ∀ k, row = some k → lo ≤ k ∧ k < hi) : Within lo hi w w' :=
  ⟨h.os, h.tape, h.output, h.size, fun k hk hn => h.block k hk (fun e => hn (hr k e.symm))⟩
/-- Nothing below B is written. -/
theorem Within.below {lo hi B : Nat} {w w' : World} (h : Within lo hi w w') (hB : B ≤ lo) (hs : B ≤ w.heap.size) : Below B w w' :=
  ⟨h.os, h.tape, h.output, h.size, fun k hk => h.block k (by omega) (by omega)⟩
theorem Within.drewN {lo hi : Nat} {w w' : World} (h : Within lo hi w w') (n : Nat) : Within lo hi w (w'.drewN n) :=
  h.trans (Within.of_below (below_drewN (Below.refl _ _) n))

theorem ownsRow_block {w w' : World} {base : Nat} {e : TypeId} {size n : Nat} {v : Value} {xs : List Value} (h : w.ownsRow base e size v n xs) (hb : ∀ k, v.ownBlock = some k → w'.heap[k]? = w.heap[k]?) : w'.ownsRow base e size v n xs := by
  refine ⟨h.1, ?_⟩
  rcases h.2 with h0 | ⟨g, cap, cur, hv, hg, hgg, hr⟩
  · exact .inl h0
  · refine .inr ⟨g, cap, cur, hv, hg, ?_, hr⟩
    rw [hb g (by rw [hv]; rfl)]
    exact hgg
theorem ownsRow_base {w : World} {base base' : Nat} {e : TypeId} {size n : Nat} {v : Value} {xs : List Value} (h : w.ownsRow base e size v n xs) (hb : ∀ k, v.ownBlock = some k → base' ≤ k) : w.ownsRow base' e size v n xs := by
  refine ⟨h.1, ?_⟩
  rcases h.2 with h0 | ⟨g, cap, cur, hv, hg, hgg, hr⟩
  · exact .inl h0
  · exact .inr ⟨g, cap, cur, hv, hb g (by rw [hv]; rfl), hgg, hr⟩
end Go.Proofs.Ytnnehpimkdoeoaa

/- A block of cells that the call laid: a box. -/
namespace Go.Proofs.Ytnnehpimkdoeoaa
open Go.RowKit

/-- Block B holds these cells, none frozen. -/
def Box (w : World) (B : Nat) (vs : List Value) (t : TypeId) : Prop := w.heap[B]? = some (.cells vs.toArray t (0, 0))

theorem Box.lt {w : World} {B : Nat} {vs : List Value} {t : TypeId} (h : Box w B vs t) : B < w.heap.size := (Array.getElem?_eq_some_iff.1 h).1
theorem Box.cell {w : World} {B : Nat} {vs : List Value} {t : TypeId} (h : Box w B vs t) (i : Nat) (v : Value) (hv : vs[i]? = some v) : w.cell? ⟨B, i, none⟩ = some v := by
  unfold Box at h
  simp [World.cell?, h, hv]
theorem Box.frozen {w : World} {B : Nat} {vs : List Value} {t : TypeId} (h : Box w B vs t) (i : Nat) : w.frozen? ⟨B, i, none⟩ = false := by
  unfold Box at h
  simp [World.frozen?, h]
theorem Box.set {w : World} {B : Nat} {vs : List Value} {t : TypeId} (h : Box w B vs t) (i : Nat) (v : Value) : Box (w.setCell ⟨B, i, none⟩ v) B (vs.set i v) t := by
  unfold Box at h ⊢
  rw [heap_setCell_same w B i _ t v h]
  simp
theorem Box.block {w w' : World} {B : Nat} {vs : List Value} {t : TypeId} (h : Box w B vs t) (hb : w'.heap[B]? = w.heap[B]?) : Box w' B vs t := by unfold Box at h ⊢; rw [hb]; exact h
theorem Box.below {w w' : World} {B n : Nat} {vs : List Value} {t : TypeId} (h : Box w B vs t) (hb : Below n w w') (hn : B < n) : Box w' B vs t := h.block (hb.block B hn)
theorem Box.within {w w' : World} {B l r : Nat} {vs : List Value} {t : TypeId} (h : Box w B vs t) (hb : Within l r w w') (hn : ¬ (l ≤ B ∧ B < r)) : Box w' B vs t := h.block (hb.block B h.lt hn)
theorem Box.alloc {w : World} {B : Nat} {vs : List Value} {t : TypeId} (h : Box w B vs t) (o : Obj) : Box (w.alloc o) B vs t := h.block (Below.heap_alloc w o B h.lt)
theorem Box.other {w : World} {B C i : Nat} {v : Value} {vs : List Value} {t : TypeId} (h : Box w B vs t) (hne : B ≠ C) : Box (w.setCell ⟨C, i, none⟩ v) B vs t := h.block (heap_setCell_other w ⟨C, i, none⟩ B v hne)
theorem box_new (w : World) (vs : List Value) (t : TypeId) : Box (w.alloc (.cells vs.toArray t)) w.heap.size vs t := by unfold Box; rw [heap_alloc_new]
theorem Box.drewN {w : World} {B : Nat} {vs : List Value} {t : TypeId} (h : Box w B vs t) (n : Nat) : Box (w.drewN n) B vs t := h.block (by rfl)

/-- One, two, three boxes laid on one another. -/
theorem boxes1 (w : World) (v0 : List Value) (t0 : TypeId) : ∃ W, Hid (w.alloc (.cells v0.toArray t0) = W) ∧ Box W w.heap.size v0 t0 ∧ Below w.heap.size w W ∧ W.heap.size = w.heap.size + 1 :=
  ⟨_, rfl, box_new w _ _, (Below.refl _ _).alloc (Nat.le_refl _) _, by simp⟩
theorem boxes2 (w : World) (v0 v1 : List Value) (t0 t1 : TypeId) : ∃ W, Hid ((w.alloc (.cells v0.toArray t0)).alloc (.cells v1.toArray t1) = W) ∧ Box W w.heap.size v0 t0 ∧ Box W (w.heap.size + 1) v1 t1 ∧ Below w.heap.size w W ∧ W.heap.size = w.heap.size + 2 := by
  refine ⟨_, rfl, (box_new w _ _).alloc _, ?_, ((Below.refl _ _).alloc (Nat.le_refl _) _).alloc (by simp) _, by simp⟩
  have := box_new (w.alloc (.cells v0.toArray t0)) v1 t1
  simpa using this
theorem boxes3 (w : World) (v0 v1 v2 : List Value) (t0 t1 t2 : TypeId) : ∃ W, Hid (((w.alloc (.cells v0.toArray t0)).alloc (.cells v1.toArray t1)).alloc (.cells v2.toArray t2) = W) ∧ Box W w.heap.size v0 t0 ∧ Box W (w.heap.size + 1) v1 t1 ∧ Box W (w.heap.size + 1 + 1) v2 t2 ∧ Below w.heap.size w W ∧ W.heap.size = w.heap.size + 3 := by
  refine ⟨_, rfl, ((box_new w _ _).alloc _).alloc _, ?_, ?_, (((Below.refl _ _).alloc (Nat.le_refl _) _).alloc (by simp) _).alloc (by simp; omega) _, by simp⟩
  · have := (box_new (w.alloc (.cells v0.toArray t0)) v1 t1).alloc (.cells v2.toArray t2)
    simpa using this
  · have := box_new ((w.alloc (.cells v0.toArray t0)).alloc (.cells v1.toArray t1)) v2 t2
    simpa using this

theorem box_set {w : World} {B : Nat} {vs : List Value} {t : TypeId} (h : Box w B vs t) (i : Nat) (v : Value) : ∃ W, Hid (w.setCell ⟨B, i, none⟩ v = W) ∧ Box W B (vs.set i v) t ∧ Within B (B + 1) w W ∧ W.heap.size = w.heap.size :=
  ⟨_, rfl, h.set i v, ⟨rfl, rfl, rfl, by simp, fun k _ hn => heap_setCell_other w ⟨B, i, none⟩ k v (fun e => hn (by simp at e; omega))⟩, by simp⟩

theorem within_set (w : World) (B i : Nat) (v : Value) {lo hi : Nat} (h : lo ≤ B ∧ B < hi) : Within lo hi w (w.setCell ⟨B, i, none⟩ v) :=
  ⟨rfl, rfl, rfl, by simp, fun k _ hn => heap_setCell_other w ⟨B, i, none⟩ k v (fun e => hn (by simp at e; omega))⟩
end Go.Proofs.Ytnnehpimkdoeoaa

/- What a slice of bytes reads; small lemmas on it. -/
namespace Go.Proofs.Ytnnehpimkdoeoaa
open Go.RowKit

theorem ret_int {k : IntKind} {a b : Int} (h : a = b) : Ending.returned (.int k a) = .returned (.int k b) := by rw [h]
theorem ret_bool {a b : Bool} (h : a = b) : Ending.returned (.bool a) = .returned (.bool b) := by rw [h]
theorem val_int {k : IntKind} {a b : Int} (h : a = b) : Value.int k a = Value.int k b := by rw [h]

/-- The slice at a, as long as zs, holds the bytes zs in w. -/
def Reads (w : World) (a : Option Addr) (zs : List Int) : Prop :=
  (∀ z ∈ zs, 0 ≤ z ∧ z < 256) ∧ (zs ≠ [] → ∃ b off, a = some ⟨b, off, none⟩ ∧ ∀ i, i < zs.length → w.cell? ⟨b, off + i, none⟩ = some (.int .u8 (zs.getD i 0)))

theorem Reads.byte {w : World} {a : Option Addr} {zs : List Int} (h : Reads w a zs) : ∀ z ∈ zs, 0 ≤ z ∧ z < 256 := h.1

theorem bytes_at {zs : List Int} (h : ∀ z ∈ zs, 0 ≤ z ∧ z < 256) (i : Nat) : 0 ≤ zs.getD i 0 ∧ zs.getD i 0 < 256 := by
  by_cases hi : i < zs.length
  · exact h _ (by simp [List.getD, hi])
  · simp [List.getD, hi]

theorem bytes_nat {zs : List Int} (h : ∀ z ∈ zs, 0 ≤ z ∧ z < 256) (i : Nat) : zs.getD i 0 = ((zs.getD i 0).toNat : Int) ∧ (zs.getD i 0).toNat < 256 := by
  have := bytes_at h i
  omega

theorem Reads.cases {w : World} {a : Option Addr} {zs : List Int} (h : Reads w a zs) :
    zs = [] ∨ ∃ b off, a = some ⟨b, off, none⟩ ∧ 0 < zs.length ∧ (∀ i, i < zs.length → w.cell? ⟨b, off + i, none⟩ = some (.int .u8 (zs.getD i 0))) := by
  by_cases e : zs = []
  · exact .inl e
  · obtain ⟨b, off, ha, hc⟩ := h.2 e
    exact .inr ⟨b, off, ha, List.length_pos_iff.2 e, hc⟩

theorem Reads.below {w w' : World} {a : Option Addr} {zs : List Int} (h : Reads w a zs) (hb : Below w.heap.size w w') : Reads w' a zs := by
  refine ⟨h.1, fun hne => ?_⟩
  obtain ⟨b, off, ha, hc⟩ := h.2 hne
  refine ⟨b, off, ha, fun i hi => ?_⟩
  have hlt : b < w.heap.size := by
    have := hc i hi
    simp only [World.cell?] at this
    by_cases hb : b < w.heap.size
    · exact hb
    · simp [Array.getElem?_eq_none (Nat.le_of_not_lt hb)] at this
  rw [hb.cell (p := ⟨b, off + i, none⟩) hlt]
  exact hc i hi

/-- The slice at a holds the numbers ns in w. -/
def ReadsI (w : World) (a : Option Addr) (ns : List Int) : Prop :=
  ns ≠ [] → ∃ b off, a = some ⟨b, off, none⟩ ∧ ∀ i, i < ns.length → w.cell? ⟨b, off + i, none⟩ = some (.int .i64 (ns.getD i 0))

theorem block_lt {w : World} {b off : Nat} {v : Value} (h : w.cell? ⟨b, off, none⟩ = some v) : b < w.heap.size := by
  simp only [World.cell?] at h
  by_cases hb : b < w.heap.size
  · exact hb
  · simp [Array.getElem?_eq_none (Nat.le_of_not_lt hb)] at h

theorem ReadsI.grown {w w' : World} {a : Option Addr} {ns : List Int} {B : Nat} (h : ReadsI w a ns) (hg : w.grownBy w' (some B)) (hne : ∀ b off, a = some ⟨b, off, none⟩ → b ≠ B) : ReadsI w' a ns := by
  intro e
  obtain ⟨b, off, ha, hc⟩ := h e
  refine ⟨b, off, ha, fun i hi => hg.cell (hc i hi) ?_⟩
  intro he
  exact hne b off ha (Option.some.inj he)

theorem readsI_lit (w : World) (ns : List Int) (e : TypeId) : ReadsI (w.alloc (.cells (ns.map (Value.int .i64)).toArray e)) (some ⟨w.heap.size, 0, none⟩) ns := by
  intro _
  refine ⟨_, _, rfl, fun i hi => ?_⟩
  have h : (w.alloc (.cells (ns.map (Value.int .i64)).toArray e)).cell? ⟨w.heap.size, 0 + i, none⟩ = (ns.map (Value.int .i64)).toArray[0 + i]? := by
    unfold World.cell?
    rw [heap_alloc_new]
    simp
  rw [h]
  simp [List.getD, hi]

/-- What the call owns, it reads. -/
theorem Reads.of_own {w : World} {base : Nat} {a : Option Addr} {cap e n : Nat} {zs : List Int} (hz : ∀ z ∈ zs, 0 ≤ z ∧ z < 256) (h : w.ownsRow base e 1 (.slice a n cap) zs.length (zs.map (Value.int .u8))) : Reads w a zs := by
  refine ⟨hz, fun hne => ?_⟩
  rcases h.2 with ⟨_, h0⟩ | ⟨g, cap', cur, hv, hb, hg, hr⟩
  · exact absurd (List.length_eq_zero_iff.1 h0) hne
  · simp only [Value.slice.injEq] at hv
    obtain ⟨rfl, rfl, rfl⟩ := hv
    refine ⟨g, 0, rfl, fun i hi => ?_⟩
    have := h.cellAt i (by omega)
    rw [Nat.zero_add, this]
    simp [List.getD, hi]

/-- What the row's reading tells of a slice of bytes that came in. -/
theorem reads_of_row {w : World} {a : Option Addr} {len cap : Nat} {zs : List Int}
    (h : (a = none ∧ len = 0 ∧ cap = 0 ∧ zs = []) ∨ ∃ x, a = some x ∧ len ≤ cap ∧ cap ≤ maxLen ∧ zs.length = cap ∧ (∀ i, i < zs.length → w.cell? (x.add i) = some (.int .u8 (zs.getD i 0))) ∧ ∀ n ∈ zs, (Lit.int .u8 n).wf = true) :
    ∃ ys : List Int, ys.length = len ∧ Reads w a ys ∧ len ≤ maxLen := by
  rcases h with ⟨rfl, rfl, rfl, rfl⟩ | ⟨x, rfl, hlc, hcm, hz, hcell, hwf⟩
  · exact ⟨[], rfl, ⟨by simp, by simp⟩, by simp [maxLen]⟩
  · refine ⟨zs.take len, by simp; omega, ⟨fun z hzz => ?_, fun hne => ?_⟩, by omega⟩
    · have := hwf z (List.mem_of_mem_take hzz)
      simp [Lit.wf, IntKind.min, IntKind.max, IntKind.signed, IntKind.bits] at this
      omega
    · have hpos := List.length_pos_iff.2 hne
      simp at hpos
      obtain ⟨b, off, spot⟩ := x
      have hc0 := hcell 0 (by omega)
      have hspot : spot = none := by simpa [Addr.add] using World.cell?_spot hc0
      subst hspot
      refine ⟨b, off, rfl, fun i hi => ?_⟩
      have hi' : i < len := by simp at hi; omega
      have := hcell i (by omega)
      have e : (List.take len zs).getD i 0 = zs.getD i 0 := by simp [List.getD, hi']
      have ea : (⟨b, off, none⟩ : Addr).add i = ⟨b, off + i, none⟩ := by unfold Addr.add; split <;> simp_all
      rw [e, ← ea]
      exact this

theorem own_cell {w : World} {base e g n cap : Nat} {xs : List Value} (h : w.ownsRow base e 1 (.slice (some ⟨g, 0, none⟩) n cap) n xs) (k : Nat) (hk : k < n) : ∃ u, w.cell? ⟨g, k, none⟩ = some u := by
  have h1 := h.1
  have := h.cellAt k (by omega)
  rw [List.getElem?_eq_getElem (by omega)] at this
  exact ⟨_, this⟩

theorem grownBy_trans {a b c : World} {row : Option Nat} (h : a.grownBy b row) (k : b.grownBy c row) : a.grownBy c row :=
  ⟨k.os.trans h.os, k.tape.trans h.tape, k.output.trans h.output, Nat.le_trans h.size k.size, fun i hi hr => (k.block i (Nat.lt_of_lt_of_le hi h.size) hr).trans (h.block i hi hr)⟩

theorem Addr_add (b off i : Nat) : (⟨b, off, none⟩ : Addr).add i = ⟨b, off + i, none⟩ := by unfold Addr.add; split <;> simp_all

theorem readsI_one (w : World) (n : Int) (e : TypeId) : ReadsI (w.alloc (.cells #[.int .i64 n] e)) (some ⟨w.heap.size, 0, none⟩) [n] := by
  intro _
  refine ⟨_, _, rfl, fun i hi => ?_⟩
  simp at hi
  subst hi
  simp

end Go.Proofs.Ytnnehpimkdoeoaa
