/- What is written lies in some blocks, named one by one; all else is as it was. -/
import Derived.Test.YtajcffchopcamaaSlots
import Derived.Test.YtajcffchopcamaaObjEq
import Derived.Test.YtajcffchopcamaaHeldR
namespace Go.Proofs.Ytajcffchopcamaa
open Go.RowKit

structure Touch (bl : List Nat) (w w' : World) : Prop where
  os : w'.os = w.os
  tape : w'.tape = w.tape
  output : w'.output = w.output
  size : w.heap.size ≤ w'.heap.size
  block : ∀ k, k < w.heap.size → k ∉ bl → w'.heap[k]? = w.heap[k]?

theorem Touch.refl (bl : List Nat) (w : World) : Touch bl w w := ⟨rfl, rfl, rfl, Nat.le_refl _, fun _ _ _ => rfl⟩
theorem Touch.trans {bl : List Nat} {a b c : World} (h : Touch bl a b) (k : Touch bl b c) : Touch bl a c :=
  ⟨k.os.trans h.os, k.tape.trans h.tape, k.output.trans h.output, Nat.le_trans h.size k.size, fun i hi hn => (k.block i (Nat.lt_of_lt_of_le hi h.size) hn).trans (h.block i hi hn)⟩
theorem Touch.mono {bl bl' : List Nat} {w w' : World} (h : Touch bl w w') (hs : ∀ k ∈ bl, k ∈ bl') : Touch bl' w w' :=
  ⟨h.os, h.tape, h.output, h.size, fun k hk hn => h.block k hk (fun hh => hn (hs k hh))⟩
theorem Touch.of_below {bl : List Nat} {w w' : World} (h : Below w.heap.size w w') : Touch bl w w' := ⟨h.os, h.tape, h.output, h.size, fun k hk _ => h.block k hk⟩
theorem Touch.of_grown {bl : List Nat} {w w' : World} {row : Option Nat} (h : w.grownBy w' row) (hr : ∀ k, row = some k → k ∈ bl) : Touch bl w w' :=
  ⟨h.os, h.tape, h.output, h.size, fun k hk hn => h.block k hk (fun e => hn (hr k e.symm))⟩
theorem Touch.within {bl : List Nat} {lo hi : Nat} {w w' : World} (h : Touch bl w w') (hb : ∀ k ∈ bl, lo ≤ k ∧ k < hi) : Within lo hi w w' :=
  ⟨h.os, h.tape, h.output, h.size, fun k hk hn => h.block k hk (fun hh => hn (hb k hh))⟩
theorem Box.touch {w w' : World} {B : Nat} {vs : List Value} {t : TypeId} {bl : List Nat} (h : Box w B vs t) (ht : Touch bl w w') (hn : B ∉ bl) : Box w' B vs t := h.block (ht.block B h.lt hn)
theorem OwnI.touch {w w' : World} {lo hi : Nat} {a : Option Addr} {c : Nat} {ns : List Int} {bl : List Nat} (h : OwnI w lo hi a c ns) (ht : Touch bl w w') (hd : ∀ k, (Value.slice a ns.length c).ownBlock = some k → k ∉ bl) : OwnI w' lo hi a c ns :=
  ⟨ownsRow_block h.1 (fun k hk => ht.block k (h.1.lt k hk).2 (hd k hk)), Nat.le_trans h.2.1 ht.size, h.2.2⟩
theorem SlotA.touch {w w' : World} {lo hi : Nat} {s : SlotA} {bl : List Nat} (h : s.own w lo hi) (ht : Touch bl w w') (hd : ∀ k ∈ s.blocks, k ∉ bl) : s.own w' lo hi :=
  ⟨h.ints.touch ht (fun k hk => hd k (List.mem_append.2 (.inl (Option.mem_toList.2 hk)))), h.refs.touch ht (fun k hk => hd k (List.mem_append.2 (.inr (Option.mem_toList.2 hk)))), h.apart⟩

/-- One of them is another, in the same blocks: the others are as they were. -/
theorem OwnS.replace {w w' : World} {lo hi : Nat} {A B : List SlotA} {s t : SlotA} (h : OwnS w lo hi (A ++ s :: B)) (ht : Touch s.blocks w w') (ho : t.own w' lo hi) (hb : t.blocks = s.blocks) : OwnS w' lo hi (A ++ t :: B) := by
  have hap := h.apart
  rw [List.flatMap_append, List.flatMap_cons, List.nodup_append] at hap
  obtain ⟨_, h2, h3⟩ := hap
  rw [List.nodup_append] at h2
  obtain ⟨_, _, h5⟩ := h2
  refine ⟨fun x hx => ?_, ?_⟩
  · rcases List.mem_append.1 hx with hA | hB
    · refine SlotA.touch (h.each x (by simp [hA])) ht (fun k hk hk' => ?_)
      exact h3 k (List.mem_flatMap.2 ⟨x, hA, hk⟩) k (List.mem_append.2 (.inl hk')) rfl
    · rcases List.mem_cons.1 hB with rfl | hB
      · exact ho
      · refine SlotA.touch (h.each x (by simp [hB])) ht (fun k hk hk' => ?_)
        exact h5 k hk' k (List.mem_flatMap.2 ⟨x, hB, hk⟩) rfl
  · have := h.apart
    rw [List.flatMap_append, List.flatMap_cons] at this ⊢
    rw [hb]; exact this

def SlotA.mark (s : SlotA) (k : Int) : SlotA := { s with v := ⟨s.v.has, markO s.v.o k⟩ }
def SlotA.count (s : SlotA) : Nat := s.v.o.ints.length + s.v.o.refs.length
def markSs : List SlotA → Int → List SlotA
  | [], _ => []
  | s :: r, k => s.mark k :: markSs r (k + s.count)
def countS : List SlotA → Nat
  | [] => 0
  | s :: r => s.count + countS r
theorem mark_blocks (s : SlotA) (k : Int) : (s.mark k).blocks = s.blocks := by simp [SlotA.mark, SlotA.blocks, markO, marksI_len]
theorem mark_cells (s : SlotA) (k : Int) : (s.mark k).cells = s.cells := by simp [SlotA.mark, SlotA.cells, markO, marksI_len]
theorem countS_snoc (ss : List SlotA) (s : SlotA) : countS (ss ++ [s]) = countS ss + s.count := by
  induction ss with
  | nil => simp [countS]
  | cons x r ih => simp only [List.cons_append, countS, ih]; omega
theorem markSs_snoc (ss : List SlotA) (s : SlotA) : ∀ k, markSs (ss ++ [s]) k = markSs ss k ++ [s.mark (k + countS ss)] := by
  induction ss with
  | nil => intro k; simp [markSs, countS]
  | cons x r ih =>
    intro k
    simp only [List.cons_append, markSs, ih, countS]
    congr 3
    congr 1
    omega
theorem markSs_len (ss : List SlotA) : ∀ k, (markSs ss k).length = ss.length := by
  induction ss with
  | nil => intro k; rfl
  | cons x r ih => intro k; simp [markSs, ih]
theorem markSs_app (A B : List SlotA) : ∀ k, markSs (A ++ B) k = markSs A k ++ markSs B (k + countS A) := by
  induction A with
  | nil => intro k; simp [markSs, countS]
  | cons x r ih =>
    intro k
    simp only [List.cons_append, markSs, ih, countS]
    congr 3
    omega
theorem markSs_at (ss : List SlotA) (k : Int) (j : Nat) (h : j < ss.length) : (ss.getD j zeroS).mark (k + countS (ss.take j)) ∈ markSs ss k := by
  have e : markSs ss k = markSs (ss.take j) k ++ markSs (ss.drop j) (k + countS (ss.take j)) := by rw [← markSs_app, List.take_append_drop]
  have e2 : ss.getD j zeroS = ss[j] := by simp [List.getD, h]
  rw [e, List.drop_eq_getElem_cons h, markSs, e2]
  exact List.mem_append.2 (.inr (List.mem_cons.2 (.inl rfl)))
theorem take_split (ss : List SlotA) (j : Nat) (h : j < ss.length) : ss.drop j = ss.getD j zeroS :: ss.drop (j + 1) ∧ ss.take (j + 1) = ss.take j ++ [ss.getD j zeroS] := by
  refine ⟨by rw [List.drop_eq_getElem_cons h]; simp [List.getD, h], ?_⟩
  rw [List.take_add_one]
  simp [List.getD, h]
theorem countS_le (ss : List SlotA) (M : Nat) (h : ∀ s ∈ ss, s.v.o.ints.length ≤ M ∧ s.v.o.refs.length ≤ M) : countS ss ≤ ss.length * (2 * M) := by
  induction ss with
  | nil => simp [countS]
  | cons x r ih =>
    have h1 := h x (by simp)
    have h2 := ih (fun s hs => h s (by simp [hs]))
    simp only [countS, SlotA.count, List.length_cons, Nat.add_mul]
    omega

end Go.Proofs.Ytajcffchopcamaa
