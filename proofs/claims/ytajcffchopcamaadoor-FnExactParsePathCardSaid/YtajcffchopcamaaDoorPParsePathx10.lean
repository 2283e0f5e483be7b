/- Several texts in one, in their order. -/
import Derived.Test.YtajcffchopcamaaDoorPParsePathx9
import Derived.WalkKit
import Derived.Test.YtajcffchopcamaaDoorProg
import Derived.Test.YtajcffchopcamaaDoorPParsePathx1
/- The walks of laws.markPathStepS and laws.heldPathStepS. -/
namespace Go.Proofs.YtajcffchopcamaaDoor
open Go.RowKit

def markPh1 (k0 : Int) (i : Nat) : StepV := ⟨k0 + 2 * i, k0 + 2 * i + 1⟩
def marksPh (k0 : Int) (n : Nat) : List StepV := (List.range n).map fun i : Nat => markPh1 k0 i
theorem marksPh_len (k0 : Int) (n : Nat) : (marksPh k0 n).length = n := by simp [marksPh]
theorem marksPh_at (k0 : Int) (n i : Nat) (h : i < n) : (marksPh k0 n).getD i zeroPh = markPh1 k0 i := by simp [marksPh, List.getD, h]
theorem marksPh_succ (k0 : Int) (n : Nat) : marksPh k0 (n + 1) = marksPh k0 n ++ [markPh1 k0 n] := by simp [marksPh, List.range_succ]
def markedPh (k0 : Int) (xs : List StepV) (k : Nat) : List StepV := marksPh k0 k ++ xs.drop k
theorem markedPh_len (k0 : Int) (xs : List StepV) (k : Nat) (h : k ≤ xs.length) : (markedPh k0 xs k).length = xs.length := by simp [markedPh, marksPh_len]; omega
theorem markedPh_set (k0 : Int) (xs : List StepV) (k : Nat) (h : k < xs.length) : (markedPh k0 xs k).set k (markPh1 k0 k) = markedPh k0 xs (k + 1) := by
  unfold markedPh
  rw [List.set_append, if_neg (by rw [marksPh_len]; omega), marksPh_len, Nat.sub_self, marksPh_succ, List.drop_eq_getElem_cons h, List.set_cons_zero]
  simp
theorem markedPh_all (k0 : Int) (xs : List StepV) : markedPh k0 xs xs.length = marksPh k0 xs.length := by simp [markedPh]

set_option maxHeartbeats 1000000 in
set_option maxRecDepth 100000 in
theorem markPathStepS_any (base : Nat) (a : Option Addr) (cap : Nat) (k0 : Int) (xs : List StepV) (w : World)
    (hown : w.ownsRow base 41 2 (.slice a xs.length cap) xs.length (cellsPh xs)) (h0 : 0 ≤ k0) (hl : k0 + 2 * xs.length ≤ 4611686018427387904) :
    Calls Tryd.prog 26 #[.slice a xs.length cap, .int .i64 k0] w fun e w' => e = .returned (.int .i64 (k0 + 2 * xs.length)) ∧
      w'.ownsRow base 41 2 (.slice a xs.length cap) xs.length (cellsPh (marksPh k0 xs.length)) ∧ w.grownBy w' (Value.slice a xs.length cap).ownBlock := by
  have hlen := hown.1
  rcases hown.2 with ⟨hv, h00⟩ | ⟨g, cap', cur, hv, hg, hgg, hr⟩
  · simp only [Value.slice.injEq] at hv
    obtain ⟨rfl, h00', rfl⟩ := hv
    obtain rfl := List.length_eq_zero_iff.1 h00
    go_enter Tryd.func26, Tryd.ntmps26
    go_wp2
    refine wp_loop_rounds 1 ?_
    rw [rounds_succ]
    go_wp2
    go_ret
    exact ⟨by simp, hown, World.grownBy.refl _ _⟩
  · simp only [Value.slice.injEq] at hv
    obtain ⟨rfl, _, rfl⟩ := hv
    clear hgg hr hlen
    have hM : w.ownsRow base 41 2 (.slice (some ⟨g, 0, none⟩) xs.length cap) xs.length (cellsPh (markedPh k0 xs 0)) := by simpa [markedPh, marksPh] using hown
    clear hown
    go_enter Tryd.func26, Tryd.ntmps26
    go_wp2
    go_loopw [1, 5] (fun kk i wr => ∃ k : Nat, k ≤ xs.length ∧ i = .int .i64 k ∧ kk = .int .i64 (k0 + 2 * k) ∧ wr.ownsRow base 41 2 (.slice (some ⟨g, 0, none⟩) xs.length cap) xs.length (cellsPh (markedPh k0 xs k)) ∧ w.grownBy wr (some g))
      (fun _ i _ => xs.length - (intOf i).toNat)
    case atStart => exact ⟨0, Nat.zero_le _, rfl, by simp, hM, World.grownBy.refl _ _⟩
    case round =>
      obtain ⟨k, hk, rfl, rfl, hown, hgr⟩ := hrel
      clear hM
      by_cases hlt : k < xs.length
      · have hp := markedPh_len k0 xs k hk
        obtain ⟨x0, x1, hfz⟩ := row_step hown hp k hlt
        have f0 := hfz (k * 2)
        have f1 := hfz (k * 2 + 1)
        obtain ⟨W2, hW2, ho2, hg2⟩ := row_storePh hown hp k hlt (markPh1 k0 k)
        rw [markedPh_set k0 xs k hlt] at ho2
        have HH : Hid (_ ∧ _) := ⟨ho2, grownBy_trans hgr hg2⟩
        clear ho2 hg2 hfz hown hgr
        generalize (markedPh k0 xs k).getD k zeroPh = old at *
        simp only [markPh1] at hW2
        go_wp2
        rw [hW2.out]
        go_roundw
        case rel => exact ⟨k + 1, by omega, by go_num, by go_num, HH.out.1, HH.out.2⟩
        case measure => simp [intOf]; omega
      · have HE : Hid (wr.ownsRow base 41 2 (.slice (some ⟨g, 0, none⟩) xs.length cap) xs.length (cellsPh (marksPh k0 xs.length)) ∧ k = xs.length) := by
          have e : k = xs.length := by omega
          rw [e, markedPh_all] at hown
          exact ⟨hown, e⟩
        go_wp2
        go_ret
        exact ⟨ret_int (by have := HE.out.2; omega), HE.out.1, hgr⟩

theorem markPathStepS_own (lo hi : Nat) (a : Option Addr) (cap : Nat) (k0 : Int) (xs : List StepV) (w : World) (ho : OwnPh w lo hi a cap xs) (h0 : 0 ≤ k0) (hl : k0 + 2 * xs.length ≤ 4611686018427387904) :
    Calls Tryd.prog 26 #[.slice a xs.length cap, .int .i64 k0] w fun e w' => e = .returned (.int .i64 (k0 + 2 * xs.length)) ∧
      OwnPh w' lo hi a cap (marksPh k0 xs.length) ∧ Touch (Value.slice a xs.length cap).ownBlock.toList w w' := by
  refine (markPathStepS_any lo a cap k0 xs w ho.1 h0 hl).mono ?_
  rintro e w' ⟨rfl, h1, h2⟩
  refine ⟨rfl, ⟨by rw [marksPh_len]; exact h1, Nat.le_trans ho.2.1 h2.size, by rw [marksPh_len]; exact ho.2.2⟩, Touch.of_grown h2 (fun j hj => Option.mem_toList.2 hj)⟩

set_option maxHeartbeats 1000000 in
set_option maxRecDepth 100000 in
theorem heldPathStepS_any (a : Option Addr) (cap : Nat) (k0 : Int) (n : Nat) (w : World) (hr : ReadsPh w a (marksPh k0 n)) (h0 : 0 ≤ k0) (hl : k0 + 2 * n ≤ 4611686018427387904) :
    Calls Tryd.prog 27 #[.slice a n cap, .int .i64 k0] w fun e w' => e = .returned (.int .i64 (k0 + 2 * n)) ∧ w' = w := by
  rcases hr.cases with h | ⟨b, off, rfl, hpos, hcell⟩
  · have h' := congrArg List.length h
    rw [marksPh_len] at h'
    simp at h'
    subst h'
    go_enter Tryd.func27, Tryd.ntmps27
    go_wp2
    refine wp_loop_rounds 1 ?_
    rw [rounds_succ]
    go_wp2
    go_ret
    exact ⟨by simp, rfl⟩
  · rw [marksPh_len] at hpos hcell
    go_enter Tryd.func27, Tryd.ntmps27
    go_wp2
    go_loop [1, 5] (fun kk i => ∃ k : Nat, k ≤ n ∧ i = .int .i64 k ∧ kk = .int .i64 (k0 + 2 * k)) (fun _ i => n - (intOf i).toNat)
    case atStart => exact ⟨0, Nat.zero_le _, rfl, by simp⟩
    case round =>
      obtain ⟨k, hk, rfl, rfl⟩ := hrel
      by_cases hlt : k < n
      · obtain ⟨c0, c1⟩ := hcell k hlt
        rw [marksPh_at k0 n k hlt] at c0 c1
        simp only [markPh1] at c0 c1
        clear hcell
        go_wp2
        go_round
        case rel => exact ⟨k + 1, by omega, by go_num, by go_num⟩
        case measure => simp [intOf]; omega
      · have HE : Hid (k = n) := by show k = n; omega
        go_wp2
        go_ret
        exact ⟨ret_int (by have := HE.out; omega), rfl⟩
end Go.Proofs.YtajcffchopcamaaDoor

/- Is a number within bounds? -/
namespace Go.Proofs.YtajcffchopcamaaDoor
def inB (x l m : Int) : Bool := decide (l ≤ x ∧ x ≤ m)
end Go.Proofs.YtajcffchopcamaaDoor

/- The walk of spec.l1In. -/
namespace Go.Proofs.YtajcffchopcamaaDoor
open Go.RowKit

set_option maxHeartbeats 400000 in
theorem l1In_any (x l m : Int) (w : World) : Calls Tryd.prog 29 #[.int .i64 x, .int .i64 l, .int .i64 m] w fun e w' => e = .returned (.bool (inB x l m)) ∧ w' = w := by
  by_cases h1 : l ≤ x
  · by_cases h2 : x ≤ m
    · have HB : Hid (inB x l m = true) := by simp [Hid, inB, h1, h2]
      go_enter Tryd.func29, Tryd.ntmps29
      go_wp2
      go_ret
      exact ⟨ret_bool HB.out.symm, rfl⟩
    · have HB : Hid (inB x l m = false) := by simp [Hid, inB, h2]
      go_enter Tryd.func29, Tryd.ntmps29
      go_wp2
      go_ret
      exact ⟨ret_bool HB.out.symm, rfl⟩
  · have HB : Hid (inB x l m = false) := by simp [Hid, inB, h1]
    go_enter Tryd.func29, Tryd.ntmps29
    go_wp2
    go_ret
    exact ⟨ret_bool HB.out.symm, rfl⟩

end Go.Proofs.YtajcffchopcamaaDoor
