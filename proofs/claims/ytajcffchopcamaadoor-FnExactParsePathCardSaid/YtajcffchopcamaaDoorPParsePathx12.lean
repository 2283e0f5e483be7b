/- Several texts in one, in their order. -/
import Derived.Test.YtajcffchopcamaaDoorPParsePathx11
import Derived.Test.YtajcffchopcamaaDoorPParsePathx2
import Derived.Test.YtajcffchopcamaaDoorPParsePathx3
import Derived.Deep.RegionWith
import Derived.Test.YtajcffchopcamaaDoorPParsePathx10
import Derived.Deep.RegionHeld3
/- The text of a number; the walk of spec.l2Text. -/
namespace Go.Proofs.YtajcffchopcamaaDoor
open Go.RowKit

theorem strOf_append (a b : List Int) : strOf (a ++ b) = strOf a ++ strOf b := by
  apply ByteArray.ext
  simp [strOf]

theorem run_digit (W : World) (g : Nat) (d : Int) (hd : 0 ≤ d ∧ d < 256) (h : W.cell? ⟨g, 0, none⟩ = some (.int .u8 d)) : (convert 51 9 (.slice (some ⟨g, 0, none⟩) 1 1)).run Tryd.prog W = .ok (.string (strOf [d])) W :=
  run_text W g 0 1 [d] 1 rfl ⟨by simpa using hd, fun _ => ⟨g, 0, rfl, fun i hi => by simp at hi; subst hi; simpa using h⟩⟩

theorem strOf_size (l : List Int) : (strOf l).size = l.length := by simp [strOf, ByteArray.size]
theorem dec_size (n : Nat) (h : n ≤ 1000000000) : (strOf (decOf n)).size ≤ 10 := by
  rw [strOf_size]
  exact decOf_len 9 n (by omega)

set_option maxHeartbeats 1000000 in
set_option maxRecDepth 100000 in
theorem l2Text_nat (n : Nat) : ∀ (w : World), n ≤ 1000000000 → Calls Tryd.prog 16 #[.int .i64 n] w fun e w' => e = .returned (.string (strOf (decOf n))) ∧ Below w.heap.size w w' := by
  induction n using Nat.strongRecOn with
  | _ n ih =>
    intro w hn
    by_cases h10 : n < 10
    · have HD : Hid (_ = _) := decOf_small n h10
      have hcv := run_digit (w.alloc (.cells #[.int .u8 (48 + (n : Int))] 5)) w.heap.size (48 + (n : Int)) (by omega) (by simp)
      go_enter Tryd.func16, Tryd.ntmps16
      go_wp2
      go_ret
      exact ⟨by rw [HD.out]; simp, (Below.refl _ _).alloc (Nat.le_refl _) _⟩
    · have HD : Hid (_ = _) := decOf_big n h10
      have hih : ∀ w, Calls Tryd.prog 16 #[.int .i64 (IntKind.i64.wrap ((n : Int) / 10))] w fun e w' => e = .returned (.string (strOf (decOf (n / 10)))) ∧ Below w.heap.size w w' := by
        intro w
        have e : IntKind.i64.wrap ((n : Int) / 10) = ((n / 10 : Nat) : Int) := by rw [IntKind.wrap_i64]; omega
        rw [e]
        exact ih (n / 10) (by omega) w (by omega)
      have hcv : ∀ W g, W.cell? ⟨g, 0, none⟩ = some (.int .u8 (IntKind.u8.wrap (IntKind.i64.wrap (48 + (n : Int).tmod 10)))) → (convert 51 9 (.slice (some ⟨g, 0, none⟩) 1 1)).run Tryd.prog W = .ok (.string (strOf [((48 + n % 10 : Nat) : Int)])) W := by
        intro W g h
        have e : IntKind.u8.wrap (IntKind.i64.wrap (48 + (n : Int).tmod 10)) = ((48 + n % 10 : Nat) : Int) := by
          rw [Int.tmod_eq_emod_of_nonneg (by omega), IntKind.wrap_i64]
          simp [IntKind.wrap, IntKind.signed, IntKind.bits]
          omega
        rw [e] at h
        exact run_digit W g _ (by omega) h
      clear ih
      have HDS : Hid (strOf (decOf n) = strOf (decOf (n / 10)) ++ strOf [((48 + n % 10 : Nat) : Int)]) := by rw [Hid, HD.out, strOf_append]
      have hs1 := dec_size (n / 10) (by omega)
      have hs2 : (strOf [((48 + n % 10 : Nat) : Int)]).size ≤ 1 := by rw [strOf_size]; simp
      generalize strOf (decOf (n / 10)) = S1 at *
      generalize strOf [((48 + n % 10 : Nat) : Int)] = S2 at *
      generalize hE : IntKind.u8.wrap (IntKind.i64.wrap (48 + (n : Int).tmod 10)) = E at hcv
      go_enter Tryd.func16, Tryd.ntmps16
      go_wp2_with fail
      have hcA : ∀ w2, Below (w.alloc (.cells #[.int .u8 E] 5)).drew.heap.size (w.alloc (.cells #[.int .u8 E] 5)).drew w2 → w2.cell? ⟨w.heap.size, 0, none⟩ = some (.int .u8 E) := by
        intro w2 h
        rw [h.cell (by simp)]
        simp
      go_region_with
        (first
        | (go_at_call 16; refine (hih (w.alloc (.cells #[.int .u8 E] 5)).drew).mono ?_; rintro e w2 ⟨rfl, hb2⟩; have hc2 := hcA w2 hb2; have hw2 : Below w.heap.size w w2 := ((Below.refl _ _).alloc (Nat.le_refl _) _).drew.trans (hb2.mono (by simp)))
        | (go_at_call 16; refine (hih w.drew).mono ?_; rintro e w2 ⟨rfl, hb2⟩; have hw2 : Below w.heap.size w w2 := (Below.refl _ _).drew.trans hb2))
      all_goals go_wp2
      all_goals go_ret
      all_goals first
        | exact ⟨by rw [HDS.out]; rfl, hw2⟩
        | exact ⟨by rw [HDS.out]; rfl, hw2.alloc hw2.size _⟩

set_option maxHeartbeats 400000 in
theorem l2Text_any (z : Int) (w : World) (hz : -1000000000 ≤ z ∧ z ≤ 1000000000) : Calls Tryd.prog 16 #[.int .i64 z] w fun e w' => e = .returned (.string (strOf (numText z))) ∧ Below w.heap.size w w' := by
  by_cases h0 : z < 0
  · have HT : Hid (strOf (numText z) = (ByteArray.mk #[45]) ++ strOf (decOf (-z).toNat)) := by
      unfold numText
      rw [Hid, if_pos h0, show (45 : Int) :: decOf (-z).toNat = [45] ++ decOf (-z).toNat from rfl, strOf_append]
      rfl
    have hs := dec_size (-z).toNat (by omega)
    have hih := l2Text_nat (-z).toNat w (by omega)
    rw [Int.toNat_of_nonneg (by omega)] at hih
    generalize strOf (decOf (-z).toNat) = S at *
    go_enter Tryd.func16, Tryd.ntmps16
    go_wp2_with fail
    refine hih.mono ?_
    rintro e w1 ⟨rfl, hb1⟩
    go_wp2
    go_ret
    exact ⟨by rw [HT.out]; rfl, hb1⟩
  · obtain ⟨n, rfl⟩ := Int.eq_ofNat_of_zero_le (show 0 ≤ z from by omega)
    have e : numText (n : Int) = decOf n := by unfold numText; rw [if_neg (by omega), Int.toNat_natCast]
    rw [e]
    exact l2Text_nat n w (by omega)
end Go.Proofs.YtajcffchopcamaaDoor

/- When an object is right; the walk of spec.ObjOk. -/
namespace Go.Proofs.YtajcffchopcamaaDoor
open Go.RowKit

end Go.Proofs.YtajcffchopcamaaDoor

/- The text of an object; the walks of spec.l2Join and spec.ObjText. -/
namespace Go.Proofs.YtajcffchopcamaaDoor
open Go.RowKit

theorem num_len (z : Int) (h : -1000000000 ≤ z ∧ z ≤ 1000000000) : (numText z).length ≤ 11 := by
  unfold numText
  split
  · have := decOf_len 9 (-z).toNat (by omega)
    simp; omega
  · have := decOf_len 9 z.toNat (by omega)
    omega
end Go.Proofs.YtajcffchopcamaaDoor
