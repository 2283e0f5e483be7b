/- Several texts in one, in their order. -/
import Derived.Test.YtajcffchopcamaaDoorPParsePathx1
import Derived.Laws.IdiomStrings
import Derived.Lib.BufferRead
import Derived.WalkKit
/- Lists looked through from the front. -/
namespace Go.Proofs.YtajcffchopcamaaDoor

theorem take_step {α : Type} (ls : List α) (z : α) (k : Nat) (h : k < ls.length) : ls.take (k + 1) = ls.take k ++ [ls.getD k z] := by
  rw [List.take_succ_eq_append_getElem h]
  simp [List.getD, h]
theorem all_step {α : Type} {p : α → Bool} {ls : List α} {z : α} {k : Nat} (h : k < ls.length) (h0 : (ls.take k).all p = true) (h1 : p (ls.getD k z) = true) : (ls.take (k + 1)).all p = true := by
  rw [take_step ls z k h, List.all_append, h0, List.all_cons, h1]
  rfl
theorem all_hit {α : Type} {p : α → Bool} {ls : List α} {z : α} {k : Nat} (h : k < ls.length) (h1 : p (ls.getD k z) = false) : ls.all p = false := by
  rw [List.all_eq_false]
  exact ⟨ls.getD k z, by simp [List.getD, h], by rw [h1]; decide⟩
theorem all_end {α : Type} {p : α → Bool} {ls : List α} {k : Nat} (h : ¬ k < ls.length) (h0 : (ls.take k).all p = true) : ls.all p = true := by
  rwa [List.take_of_length_le (by omega)] at h0

end Go.Proofs.YtajcffchopcamaaDoor

/- A text of bytes. -/
namespace Go.Proofs.YtajcffchopcamaaDoor
open Go.RowKit

def strOf (G : List Int) : ByteArray := ⟨(G.map fun z => UInt8.ofNat z.toNat).toArray⟩

theorem run_text (w : World) (b off cap : Nat) (G : List Int) (n : Nat) (hn : n = G.length) (hr : Reads w (some ⟨b, off, none⟩) G) :
    (convert 51 9 (.slice (some ⟨b, off, none⟩) n cap)).run Tryd.prog w = .ok (.string (strOf G)) w := by
  have h := run_convert_bytes_back (P := Tryd.prog) w 51 9 5 ⟨b, off, none⟩ cap (G.map fun z => UInt8.ofNat z.toNat) Tryd.underlying51 Tryd.underlying5 Tryd.underlying9 ?_
  · rw [List.length_map] at h
    rw [hn, h]
    rfl
  · intro j hj
    rw [List.length_map] at hj
    have hne : G ≠ [] := by intro e; simp [e] at hj
    obtain ⟨b', off', hh, hc⟩ := hr.2 hne
    cases hh
    have hadd : (⟨b, off, none⟩ : Addr).add j = ⟨b, off + j, none⟩ := by unfold Addr.add; split <;> simp_all
    rw [hadd, hc j hj]
    have hb := bytes_nat hr.1 j
    have hg : G.getD j 0 = G[j] := by simp [List.getD, hj]
    rw [hg] at hb
    simp only [List.getElem_map, hg]
    have : (UInt8.ofNat G[j].toNat).toNat = G[j].toNat := by simp; omega
    rw [this, ← hb.1]

end Go.Proofs.YtajcffchopcamaaDoor

/- Plain mathematics: the digits of a number. -/
namespace Go.Proofs.YtajcffchopcamaaDoor

/-- The digits of a number, in so many steps at most. -/
def decN : Nat → Nat → List Int
  | 0, n => [((48 + n : Nat) : Int)]
  | f + 1, n => if n < 10 then [((48 + n : Nat) : Int)] else decN f (n / 10) ++ [((48 + n % 10 : Nat) : Int)]
/-- The digits of a number. -/
def decOf (n : Nat) : List Int := decN n n
theorem decN_succ (f : Nat) : ∀ n, n ≤ f → decN f n = decN (f + 1) n := by
  induction f with
  | zero =>
    intro n h
    obtain rfl : n = 0 := by omega
    rfl
  | succ f ih =>
    intro n h
    unfold decN
    split
    · rfl
    · rw [ih (n / 10) (by omega)]
theorem decN_add (n d : Nat) : decN (n + d) n = decN n n := by
  induction d with
  | zero => rfl
  | succ d ih => rw [← ih, ← Nat.add_assoc, ← decN_succ (n + d) n (by omega)]
/-- A number's text, a minus ahead below 0. -/
def numText (z : Int) : List Int := if z < 0 then 45 :: decOf (-z).toNat else decOf z.toNat

theorem decOf_small (n : Nat) (h : n < 10) : decOf n = [((48 + n : Nat) : Int)] := by
  unfold decOf
  cases n with
  | zero => rfl
  | succ m => rw [decN, if_pos h]
theorem decOf_big (n : Nat) (h : ¬ n < 10) : decOf n = decOf (n / 10) ++ [((48 + n % 10 : Nat) : Int)] := by
  unfold decOf
  obtain ⟨m, rfl⟩ : ∃ m, n = m + 1 := ⟨n - 1, by omega⟩
  rw [decN, if_neg h]
  have e : m = (m + 1) / 10 + (m - (m + 1) / 10) := by omega
  have := decN_add ((m + 1) / 10) (m - (m + 1) / 10)
  rw [← e] at this
  rw [this]

theorem decOf_len (k : Nat) : ∀ n, n < 10 ^ (k + 1) → (decOf n).length ≤ k + 1 := by
  induction k with
  | zero => intro n h; rw [decOf_small n (by omega)]; simp
  | succ k ih =>
    intro n h
    by_cases h10 : n < 10
    · rw [decOf_small n h10]; simp
    · rw [decOf_big n h10]
      have := ih (n / 10) (by rw [Nat.pow_succ] at h; omega)
      simp; omega
end Go.Proofs.YtajcffchopcamaaDoor
