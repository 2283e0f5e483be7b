/- Several texts in one, in their order. -/
import Derived.Test.YtajcffchopcamaaDoorPParsePathx13
import Derived.Test.YtajcffchopcamaaDoorPParsePathx2
import Derived.WalkKit
import Derived.Test.YtajcffchopcamaaDoorPParsePathx1
/- Where the next step of a path's text begins; the walk of spec.l12End. -/
namespace Go.Proofs.YtajcffchopcamaaDoor
open Go.RowKit

/-- A point or a bracket that opens. -/
def stopB (z : Int) : Bool := decide (z = 46) || decide (z = 91)
/-- j is the first place from i on where a step begins, or the end. -/
def EndAt (L : List Int) (i j : Nat) : Prop := i ≤ j ∧ j ≤ L.length ∧ (∀ t, i ≤ t → t < j → stopB (L.getD t 0) = false) ∧ (j < L.length → stopB (L.getD j 0) = true)

theorem endAt_one {L : List Int} {i j k : Nat} (h : EndAt L i j) (g : EndAt L i k) : j = k := by
  obtain ⟨h1, h2, h3, h4⟩ := h
  obtain ⟨g1, g2, g3, g4⟩ := g
  by_cases e : j < k
  · have := h4 (by omega)
    rw [g3 j h1 e] at this
    cases this
  · by_cases e' : k < j
    · have := g4 (by omega)
      rw [h3 k g1 e'] at this
      cases this
    · omega

set_option maxHeartbeats 1000000 in
set_option maxRecDepth 100000 in
theorem l12End_any (s : ByteArray) (i : Nat) (w : World) (hs : s.size ≤ 1048576) (hi : i ≤ s.size) :
    Calls Tryd.prog 22 #[.string s, .int .i64 i] w fun e w' => (∃ j : Nat, e = .returned (.int .i64 j) ∧ i ≤ j ∧ j ≤ s.size ∧ Hid (EndAt (sBytes s) i j)) ∧ w' = w := by
  have HBT : Hid (∀ j (h : j < s.size), (((s[j]'h).toNat : Nat) : Int) = (sBytes s).getD j 0) := fun j h => byte_at s j h
  have HSL : Hid ((sBytes s).length = s.size) := sBytes_len s
  go_enter Tryd.func22, Tryd.ntmps22
  go_wp2_with fail
  go_loopw [1] (fun a wr => ∃ k : Nat, a = .int .i64 k ∧ i ≤ k ∧ k ≤ s.size ∧ Hid (∀ t, i ≤ t → t < k → stopB ((sBytes s).getD t 0) = false) ∧ wr = w) (fun a _ => s.size - (intOf a).toNat)
  case atStart => exact ⟨i, rfl, Nat.le_refl _, hi, fun t h1 h2 => by omega, rfl⟩
  case round =>
    obtain ⟨k, rfl, hik, hk, hno, rfl⟩ := hrel
    by_cases hlt : k < s.size
    · have hb := HBT.out k hlt
      have HEN : Hid (stopB ((sBytes s).getD k 0) = true → EndAt (sBytes s) i k) := fun h => ⟨hik, by have := HSL.out; omega, hno.out, fun _ => h⟩
      have HNX : Hid (stopB ((sBytes s).getD k 0) = false → ∀ t, i ≤ t → t < k + 1 → stopB ((sBytes s).getD t 0) = false) := fun h t h1 h2 => by
        by_cases e : t = k
        · rw [e]; exact h
        · exact hno.out t h1 (by omega)
      generalize (sBytes s).getD k 0 = z at *
      by_cases h46 : z = 46
      · have HE : Hid (EndAt (sBytes s) i k) := HEN.out (by simp [stopB, h46])
        have hq : ((((s[k]'hlt).toNat : Nat) : Int) != 46) = false := by rw [hb, h46]; rfl
        clear hb h46 HEN HNX HBT HSL hno
        go_wp2
        go_ret
        exact ⟨⟨k, rfl, hik, hk, HE⟩, rfl⟩
      · have hq : ((((s[k]'hlt).toNat : Nat) : Int) != 46) = true := by rw [hb]; simpa using h46
        by_cases h91 : z = 91
        · have HE : Hid (EndAt (sBytes s) i k) := HEN.out (by simp [stopB, h91])
          have hq2 : ((((s[k]'hlt).toNat : Nat) : Int) != 91) = false := by rw [hb, h91]; rfl
          clear hb h46 h91 HEN HNX HBT HSL hno
          go_wp2
          go_ret
          exact ⟨⟨k, rfl, hik, hk, HE⟩, rfl⟩
        · have HN : Hid (∀ t, i ≤ t → t < k + 1 → stopB ((sBytes s).getD t 0) = false) := HNX.out (by simp [stopB, h46, h91])
          have hq2 : ((((s[k]'hlt).toNat : Nat) : Int) != 91) = true := by rw [hb]; simpa using h91
          clear hb h46 h91 HEN HNX HBT HSL hno
          go_wp2
          go_roundw
          case rel => exact ⟨k + 1, by go_num, by omega, by omega, HN, trivial⟩
          case measure => simp [intOf]; omega
    · have HE : Hid (EndAt (sBytes s) i k) := ⟨hik, by have := HSL.out; omega, hno.out, fun h => by have := HSL.out; omega⟩
      clear HBT HSL hno
      go_wp2
      go_ret
      exact ⟨⟨k, rfl, hik, hk, HE⟩, rfl⟩
end Go.Proofs.YtajcffchopcamaaDoor

/- Plain mathematics of numbers in bytes: groups of seven bits, the lowest first. -/
namespace Go.Proofs.YtajcffchopcamaaDoor

def groupsN : Nat → Nat → List Int
  | 0, m => [(m : Int)]
  | f + 1, m => if m < 128 then [(m : Int)] else ((m % 128 + 128 : Nat) : Int) :: groupsN f (m / 128)
def groups (m : Nat) : List Int := groupsN 64 m

/-- A number beyond the greatest counts as that. -/
def clampI (n : Int) : Int := if n > 1000000000000 then 1000000000000 else if n < -1000000000000 then -1000000000000 else n
def zig (n : Int) : Nat := if 0 ≤ clampI n then (2 * clampI n).toNat else (-2 * clampI n - 1).toNat
def putOf (n : Int) : List Int := groups (zig n)

end Go.Proofs.YtajcffchopcamaaDoor

/- The walks of impl.appendGroups and impl.foldSign. -/
namespace Go.Proofs.YtajcffchopcamaaDoor
open Go.RowKit

end Go.Proofs.YtajcffchopcamaaDoor
