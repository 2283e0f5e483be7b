/- Several texts in one, in their order. -/
import Derived.Test.YtoboickdkednkabPEngineNewx3
import Derived.Test.YtoboickdkednkabPEngineNewx4
/- The walks of laws.markLiveS and laws.heldLiveS. -/
namespace Go.Proofs.Ytoboickdkednkab
open Go.RowKit

def markL1 (k0 : Int) (i : Nat) : LiveV := ⟨k0 + 3 * i, k0 + 3 * i + 1, ((k0 + 3 * i + 1 + 1) % 3 == 0)⟩
def marksL (k0 : Int) (n : Nat) : List LiveV := (List.range n).map fun i : Nat => markL1 k0 i
theorem marksL_len (k0 : Int) (n : Nat) : (marksL k0 n).length = n := by simp [marksL]
theorem marksL_at (k0 : Int) (n i : Nat) (h : i < n) : (marksL k0 n).getD i zeroL = markL1 k0 i := by simp [marksL, List.getD, h]
theorem marksL_succ (k0 : Int) (n : Nat) : marksL k0 (n + 1) = marksL k0 n ++ [markL1 k0 n] := by simp [marksL, List.range_succ]
def markedL (k0 : Int) (xs : List LiveV) (k : Nat) : List LiveV := marksL k0 k ++ xs.drop k
theorem markedL_len (k0 : Int) (xs : List LiveV) (k : Nat) (h : k ≤ xs.length) : (markedL k0 xs k).length = xs.length := by simp [markedL, marksL_len]; omega
theorem markedL_set (k0 : Int) (xs : List LiveV) (k : Nat) (h : k < xs.length) : (markedL k0 xs k).set k (markL1 k0 k) = markedL k0 xs (k + 1) := by
  unfold markedL
  rw [List.set_append, if_neg (by rw [marksL_len]; omega), marksL_len, Nat.sub_self, marksL_succ, List.drop_eq_getElem_cons h, List.set_cons_zero]
  simp
theorem markedL_all (k0 : Int) (xs : List LiveV) : markedL k0 xs xs.length = marksL k0 xs.length := by simp [markedL]

set_option maxHeartbeats 1000000 in
set_option maxRecDepth 100000 in
theorem markLiveS_any (base : Nat) (a : Option Addr) (cap : Nat) (k0 : Int) (xs : List LiveV) (w : World)
    (hown : w.ownsRow base 60 3 (.slice a xs.length cap) xs.length (cellsL xs)) (h0 : 0 ≤ k0) (hl : k0 + 3 * xs.length ≤ 4611686018427387904) :
    Calls Try.prog 17 #[.slice a xs.length cap, .int .i64 k0] w fun e w' => e = .returned (.int .i64 (k0 + 3 * xs.length)) ∧
      w'.ownsRow base 60 3 (.slice a xs.length cap) xs.length (cellsL (marksL k0 xs.length)) ∧ w.grownBy w' (Value.slice a xs.length cap).ownBlock := by
  have hlen := hown.1
  rcases hown.2 with ⟨hv, h00⟩ | ⟨g, cap', cur, hv, hg, hgg, hr⟩
  · simp only [Value.slice.injEq] at hv
    obtain ⟨rfl, h00', rfl⟩ := hv
    obtain rfl := List.length_eq_zero_iff.1 h00
    go_enter Try.func17, Try.ntmps17
    go_wp2
    refine wp_loop_rounds 1 ?_
    rw [rounds_succ]
    go_wp2
    go_ret
    exact ⟨by simp, hown, World.grownBy.refl _ _⟩
  · simp only [Value.slice.injEq] at hv
    obtain ⟨rfl, _, rfl⟩ := hv
    clear hgg hr hlen
    have hM : w.ownsRow base 60 3 (.slice (some ⟨g, 0, none⟩) xs.length cap) xs.length (cellsL (markedL k0 xs 0)) := by simpa [markedL, marksL] using hown
    clear hown
    go_enter Try.func17, Try.ntmps17
    go_wp2
    go_loopw [1, 5] (fun kk i wr => ∃ k : Nat, k ≤ xs.length ∧ i = .int .i64 k ∧ kk = .int .i64 (k0 + 3 * k) ∧ wr.ownsRow base 60 3 (.slice (some ⟨g, 0, none⟩) xs.length cap) xs.length (cellsL (markedL k0 xs k)) ∧ w.grownBy wr (some g))
      (fun _ i _ => xs.length - (intOf i).toNat)
    case atStart => exact ⟨0, Nat.zero_le _, rfl, by simp, hM, World.grownBy.refl _ _⟩
    case round =>
      obtain ⟨k, hk, rfl, rfl, hown, hgr⟩ := hrel
      clear hM
      by_cases hlt : k < xs.length
      · have hp := markedL_len k0 xs k hk
        obtain ⟨x0, x1, x2, hfz⟩ := row_live hown hp k hlt
        have f0 := hfz (k * 3)
        have f1 := hfz (k * 3 + 1)
        have f2 := hfz (k * 3 + 2)
        obtain ⟨W2, hW2, ho2, hg2⟩ := row_store hown hp k hlt (markL1 k0 k)
        rw [markedL_set k0 xs k hlt] at ho2
        have HH : Hid (_ ∧ _) := ⟨ho2, grownBy_trans hgr hg2⟩
        clear ho2 hg2 hfz hown hgr
        generalize (markedL k0 xs k).getD k zeroL = old at *
        simp only [markL1] at hW2
        go_wp2
        rw [hW2.out]
        go_roundw
        case rel => exact ⟨k + 1, by omega, by go_num, by go_num, HH.out.1, HH.out.2⟩
        case measure => simp [intOf]; omega
      · have HE : Hid (wr.ownsRow base 60 3 (.slice (some ⟨g, 0, none⟩) xs.length cap) xs.length (cellsL (marksL k0 xs.length)) ∧ k = xs.length) := by
          have e : k = xs.length := by omega
          rw [e, markedL_all] at hown
          exact ⟨hown, e⟩
        go_wp2
        go_ret
        exact ⟨ret_int (by have := HE.out.2; omega), HE.out.1, hgr⟩

theorem markLiveS_own (lo hi : Nat) (a : Option Addr) (cap : Nat) (k0 : Int) (xs : List LiveV) (w : World) (ho : OwnL w lo hi a cap xs) (h0 : 0 ≤ k0) (hl : k0 + 3 * xs.length ≤ 4611686018427387904) :
    Calls Try.prog 17 #[.slice a xs.length cap, .int .i64 k0] w fun e w' => e = .returned (.int .i64 (k0 + 3 * xs.length)) ∧
      OwnL w' lo hi a cap (marksL k0 xs.length) ∧ Touch (Value.slice a xs.length cap).ownBlock.toList w w' := by
  refine (markLiveS_any lo a cap k0 xs w ho.1 h0 hl).mono ?_
  rintro e w' ⟨rfl, h1, h2⟩
  refine ⟨rfl, ⟨by rw [marksL_len]; exact h1, Nat.le_trans ho.2.1 h2.size, by rw [marksL_len]; exact ho.2.2⟩, Touch.of_grown h2 (fun j hj => Option.mem_toList.2 hj)⟩

set_option maxHeartbeats 1000000 in
set_option maxRecDepth 100000 in
theorem heldLiveS_any (a : Option Addr) (cap : Nat) (k0 : Int) (n : Nat) (w : World) (hr : ReadsL w a (marksL k0 n)) (h0 : 0 ≤ k0) (hl : k0 + 3 * n ≤ 4611686018427387904) :
    Calls Try.prog 22 #[.slice a n cap, .int .i64 k0] w fun e w' => e = .returned (.int .i64 (k0 + 3 * n)) ∧ w' = w := by
  rcases hr.cases with h | ⟨b, off, rfl, hpos, hcell⟩
  · have h' := congrArg List.length h
    rw [marksL_len] at h'
    simp at h'
    subst h'
    go_enter Try.func22, Try.ntmps22
    go_wp2
    refine wp_loop_rounds 1 ?_
    rw [rounds_succ]
    go_wp2
    go_ret
    exact ⟨by simp, rfl⟩
  · rw [marksL_len] at hpos hcell
    go_enter Try.func22, Try.ntmps22
    go_wp2
    go_loop [1, 5] (fun kk i => ∃ k : Nat, k ≤ n ∧ i = .int .i64 k ∧ kk = .int .i64 (k0 + 3 * k)) (fun _ i => n - (intOf i).toNat)
    case atStart => exact ⟨0, Nat.zero_le _, rfl, by simp⟩
    case round =>
      obtain ⟨k, hk, rfl, rfl⟩ := hrel
      by_cases hlt : k < n
      · obtain ⟨c0, c1, c2⟩ := hcell k hlt
        rw [marksL_at k0 n k hlt] at c0 c1 c2
        simp only [markL1] at c0 c1 c2
        clear hcell
        go_wp2
        go_round
        case rel => exact ⟨k + 1, by omega, by go_num, by go_num⟩
        case measure => simp [intOf]; omega
      · have HE : Hid (k = n) := by show k = n; omega
        go_wp2
        go_ret
        exact ⟨ret_int (by have := HE.out; omega), rfl⟩
end Go.Proofs.Ytoboickdkednkab

/- The walks of laws.markRec and laws.heldRec. -/
namespace Go.Proofs.Ytoboickdkednkab
open Go.RowKit

def RecA.mark (r : RecA) (k : Int) : RecA := { r with bf := r.bf.mark k, af := r.af.mark (k + r.bf.count), txs := marksL (k + r.bf.count + r.af.count) r.txs.length }
def RecA.count (r : RecA) : Nat := r.bf.count + r.af.count + 3 * r.txs.length
end Go.Proofs.Ytoboickdkednkab
