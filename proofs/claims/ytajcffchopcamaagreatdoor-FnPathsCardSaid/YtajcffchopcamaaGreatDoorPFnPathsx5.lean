/- Several texts in one, in their order. -/
import Derived.Test.YtajcffchopcamaaGreatDoorProg
import Derived.Test.YtajcffchopcamaaGreatDoorPFnPathsx1
import Derived.Deep.QuietTactic
import Derived.BigQuiet
import Derived.Test.YtajcffchopcamaaGreatDoorPFnPathsx4
import Derived.WalkSmall
import Derived.Test.YtajcffchopcamaaGreatDoorPFnPathsx2
import Derived.Test.YtajcffchopcamaaGreatDoorPFnPathsx3
/- The walk of laws.eqByteS. -/
namespace Go.Proofs.YtajcffchopcamaaGreatDoor
open Go.RowKit

end Go.Proofs.YtajcffchopcamaaGreatDoor

/- What is owned stays so while another row is written; marks by OwnB. -/
namespace Go.Proofs.YtajcffchopcamaaGreatDoor
open Go.RowKit

theorem OwnB.kept {w w' : World} {base : Nat} {a : Option Addr} {c : Nat} {ys : List Int} {row : Option Nat} (h : OwnB w base a c ys) (hg : w.grownBy w' row)
    (hne : ∀ k, (Value.slice a ys.length c).ownBlock = some k → row ≠ some k) : OwnB w' base a c ys := by
  refine ⟨h.1, h.2.kept hg ?_⟩
  cases hv : (Value.slice a ys.length c).ownBlock with
  | none => exact .inl rfl
  | some k => exact .inr fun e => hne k hv e.symm

theorem OwnB.drewN {w : World} {base : Nat} {a : Option Addr} {c : Nat} {ys : List Int} (h : OwnB w base a c ys) (n : Nat) : OwnB (w.drewN n) base a c ys := h.below (below_drewN (Below.refl _ _) n)

theorem OwnB.lt {w : World} {base : Nat} {a : Option Addr} {c : Nat} {ys : List Int} (h : OwnB w base a c ys) : ∀ k, (Value.slice a ys.length c).ownBlock = some k → base ≤ k ∧ k < w.heap.size := h.2.lt

end Go.Proofs.YtajcffchopcamaaGreatDoor

/- No longer than its capacity; a beginning of what is owned. -/
namespace Go.Proofs.YtajcffchopcamaaGreatDoor
open Go.RowKit

theorem OwnB.len_cap {w : World} {base : Nat} {a : Option Addr} {c : Nat} {ys : List Int} (h : OwnB w base a c ys) : ys.length ≤ c := by
  rcases h.2.2 with ⟨hv, h0⟩ | ⟨g, cap, cur, hv, _, _, hn, _⟩
  · omega
  · simp only [Value.slice.injEq] at hv
    omega

end Go.Proofs.YtajcffchopcamaaGreatDoor

/- Rows of bytes by spans: what is owned from lo up to hi; marks. -/
namespace Go.Proofs.YtajcffchopcamaaGreatDoor
open Go.RowKit

/-- The slice at a owns the bytes ys; its row lies from lo up to hi. -/
def OwnR (w : World) (lo hi : Nat) (a : Option Addr) (c : Nat) (ys : List Int) : Prop := OwnB w lo a c ys ∧ hi ≤ w.heap.size ∧ ∀ k, (Value.slice a ys.length c).ownBlock = some k → k < hi

theorem OwnR.lt {w : World} {lo hi : Nat} {a : Option Addr} {c : Nat} {ys : List Int} (h : OwnR w lo hi a c ys) : ∀ k, (Value.slice a ys.length c).ownBlock = some k → lo ≤ k ∧ k < hi := fun k hk => ⟨(h.1.2.lt k hk).1, h.2.2 k hk⟩
theorem OwnR.reads {w : World} {lo hi : Nat} {a : Option Addr} {c : Nat} {ys : List Int} (h : OwnR w lo hi a c ys) : Reads w a ys := h.1.reads
theorem OwnR.within {w w' : World} {lo hi l r : Nat} {a : Option Addr} {c : Nat} {ys : List Int} (h : OwnR w lo hi a c ys) (hw : Within l r w w') (hd : hi ≤ l ∨ r ≤ lo) : OwnR w' lo hi a c ys :=
  ⟨⟨h.1.1, ownsRow_block h.1.2 (fun k hk => hw.block k (by have := h.2.2 k hk; have := h.2.1; omega) (by have := h.lt k hk; omega))⟩, Nat.le_trans h.2.1 hw.size, h.2.2⟩
theorem OwnR.below {w w' : World} {lo hi : Nat} {a : Option Addr} {c : Nat} {ys : List Int} (h : OwnR w lo hi a c ys) (hb : Below w.heap.size w w') : OwnR w' lo hi a c ys :=
  h.within (Within.of_below (lo := w.heap.size) (hi := w.heap.size) hb) (.inl h.2.1)

end Go.Proofs.YtajcffchopcamaaGreatDoor

/- What is written lies in some blocks, named one by one; all else is as it was. -/
namespace Go.Proofs.YtajcffchopcamaaGreatDoor
open Go.RowKit

structure Touch (bl : List Nat) (w w' : World) : Prop where
  os : w'.os = w.os
  tape : w'.tape = w.tape
  output : w'.output = w.output
  size : w.heap.size ≤ w'.heap.size
  block : ∀ k, k < w.heap.size → k ∉ bl → w'.heap[k]? = w.heap[k]?

theorem Touch.refl (bl : List Nat) (w : World) : Touch bl w w := ⟨rfl, rfl, rfl, Nat.le_refl _, fun _ _ _ => rfl⟩
theorem Touch.trans {bl : List Nat} {a b c : World} (h : Touch bl a b) (k : Touch bl b c) : Touch bl a c :=
  ⟨k.os.trans h.os, k.tape.trans h.tape, k.output.trans h.output, Nat.le_trans h.size k.size, fun i hi hn => (k.block i (Nat.lt_of_lt_of_le hi h.size) hn).trans (h.block i hi hn)⟩
theorem Touch.mono {bl bl' : List Nat} {w w' : World} (h : Touch bl w w') (hs : ∀ k ∈ bl, k ∈ bl') : Touch bl' w w' :=
  ⟨h.os, h.tape, h.output, h.size, fun k hk hn => h.block k hk (fun hh => hn (hs k hh))⟩
theorem Touch.of_below {bl : List Nat} {w w' : World} (h : Below w.heap.size w w') : Touch bl w w' := ⟨h.os, h.tape, h.output, h.size, fun k hk _ => h.block k hk⟩
theorem Touch.of_grown {bl : List Nat} {w w' : World} {row : Option Nat} (h : w.grownBy w' row) (hr : ∀ k, row = some k → k ∈ bl) : Touch bl w w' :=
  ⟨h.os, h.tape, h.output, h.size, fun k hk hn => h.block k hk (fun e => hn (hr k e.symm))⟩
theorem Touch.within {bl : List Nat} {lo hi : Nat} {w w' : World} (h : Touch bl w w') (hb : ∀ k ∈ bl, lo ≤ k ∧ k < hi) : Within lo hi w w' :=
  ⟨h.os, h.tape, h.output, h.size, fun k hk hn => h.block k hk (fun hh => hn (hb k hh))⟩
theorem Box.touch {w w' : World} {B : Nat} {vs : List Value} {t : TypeId} {bl : List Nat} (h : Box w B vs t) (ht : Touch bl w w') (hn : B ∉ bl) : Box w' B vs t := h.block (ht.block B h.lt hn)
theorem OwnI.touch {w w' : World} {lo hi : Nat} {a : Option Addr} {c : Nat} {ns : List Int} {bl : List Nat} (h : OwnI w lo hi a c ns) (ht : Touch bl w w') (hd : ∀ k, (Value.slice a ns.length c).ownBlock = some k → k ∉ bl) : OwnI w' lo hi a c ns :=
  ⟨ownsRow_block h.1 (fun k hk => ht.block k (h.1.lt k hk).2 (hd k hk)), Nat.le_trans h.2.1 ht.size, h.2.2⟩
theorem SlotA.touch {w w' : World} {lo hi : Nat} {s : SlotA} {bl : List Nat} (h : s.own w lo hi) (ht : Touch bl w w') (hd : ∀ k ∈ s.blocks, k ∉ bl) : s.own w' lo hi :=
  ⟨h.ints.touch ht (fun k hk => hd k (List.mem_append.2 (.inl (Option.mem_toList.2 hk)))), h.refs.touch ht (fun k hk => hd k (List.mem_append.2 (.inr (Option.mem_toList.2 hk)))), h.apart⟩

/-- One of them is another, in the same blocks: the others are as they were. -/
theorem OwnS.replace {w w' : World} {lo hi : Nat} {A B : List SlotA} {s t : SlotA} (h : OwnS w lo hi (A ++ s :: B)) (ht : Touch s.blocks w w') (ho : t.own w' lo hi) (hb : t.blocks = s.blocks) : OwnS w' lo hi (A ++ t :: B) := by
  have hap := h.apart
  rw [List.flatMap_append, List.flatMap_cons, List.nodup_append] at hap
  obtain ⟨_, h2, h3⟩ := hap
  rw [List.nodup_append] at h2
  obtain ⟨_, _, h5⟩ := h2
  refine ⟨fun x hx => ?_, ?_⟩
  · rcases List.mem_append.1 hx with hA | hB
    · refine SlotA.touch (h.each x (by simp [hA])) ht (fun k hk hk' => ?_)
      exact h3 k (List.mem_flatMap.2 ⟨x, hA, hk⟩) k (List.mem_append.2 (.inl hk')) rfl
    · rcases List.mem_cons.1 hB with rfl | hB
      · exact ho
      · refine SlotA.touch (h.each x (by simp [hB])) ht (fun k hk hk' => ?_)
        exact h5 k hk' k (List.mem_flatMap.2 ⟨x, hB, hk⟩) rfl
  · have := h.apart
    rw [List.flatMap_append, List.flatMap_cons] at this ⊢
    rw [hb]; exact this

def SlotA.mark (s : SlotA) (k : Int) : SlotA := { s with v := ⟨s.v.has, markO s.v.o k⟩ }
def SlotA.count (s : SlotA) : Nat := s.v.o.ints.length + s.v.o.refs.length
end Go.Proofs.YtajcffchopcamaaGreatDoor
