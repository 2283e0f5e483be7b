/- The walks of laws.markByteS and laws.heldByteS. -/
import Derived.Test.YtdibmepjbabnnacDoorProg
import Derived.Test.YtdibmepjbabnnacDoorReads
namespace Go.Proofs.YtdibmepjbabnnacDoor
open Go.RowKit

def marks (k0 : Int) (n : Nat) : List Int := (List.range n).map fun i : Nat => (k0 + i) % 256

theorem marks_len (k0 : Int) (n : Nat) : (marks k0 n).length = n := by simp [marks]
theorem marks_byte (k0 : Int) (n : Nat) : ∀ z ∈ marks k0 n, 0 ≤ z ∧ z < 256 := by
  intro z hz
  simp only [marks, List.mem_map] at hz
  obtain ⟨i, _, rfl⟩ := hz
  omega
theorem marks_at (k0 : Int) (n i : Nat) (h : i < n) : (marks k0 n).getD i 0 = (k0 + i) % 256 := by
  simp [marks, List.getD, h]
theorem marks_succ (k0 : Int) (n : Nat) : marks k0 (n + 1) = marks k0 n ++ [(k0 + n) % 256] := by
  simp [marks, List.range_succ]

def marked (k0 : Int) (xs : List Int) (k : Nat) : List Int := marks k0 k ++ xs.drop k
theorem marked_set (k0 : Int) (xs : List Int) (k : Nat) (h : k < xs.length) : (marked k0 xs k).set k ((k0 + k) % 256) = marked k0 xs (k + 1) := by
  unfold marked
  rw [List.set_append, if_neg (by rw [marks_len]; omega), marks_len, Nat.sub_self, marks_succ, List.drop_eq_getElem_cons h, List.set_cons_zero]
  simp
theorem marked_set_map (k0 : Int) (xs : List Int) (k : Nat) (h : k < xs.length) : ((marked k0 xs k).map (Value.int .u8)).set k (.int .u8 ((k0 + k) % 256)) = (marked k0 xs (k + 1)).map (Value.int .u8) := by
  rw [← marked_set k0 xs k h, List.map_set]
theorem marked_all (k0 : Int) (xs : List Int) : marked k0 xs xs.length = marks k0 xs.length := by simp [marked]

set_option maxHeartbeats 400000 in
theorem markByteS_any (base : Nat) (a : Option Addr) (cap : Nat) (k0 : Int) (xs : List Int) (w : World)
    (hown : w.ownsRow base 5 1 (.slice a xs.length cap) xs.length (xs.map (Value.int .u8))) (h0 : 0 ≤ k0) (hl : k0 + xs.length ≤ 4611686018427387904) :
    Calls Tryd.prog 11 #[.slice a xs.length cap, .int .i64 k0] w fun e w' => e = .returned (.int .i64 (k0 + xs.length)) ∧
      w'.ownsRow base 5 1 (.slice a xs.length cap) xs.length ((marks k0 xs.length).map (Value.int .u8)) ∧ w.grownBy w' (Value.slice a xs.length cap).ownBlock := by
  have hlen := hown.1
  rcases hown.2 with ⟨hv, h00⟩ | ⟨g, cap', cur, hv, hg, hgg, hr⟩
  · simp only [Value.slice.injEq] at hv
    obtain ⟨rfl, h00', rfl⟩ := hv
    obtain rfl := List.length_eq_zero_iff.1 h00
    go_enter Tryd.func11, Tryd.ntmps11
    go_wp2
    refine wp_loop_rounds 1 ?_
    rw [rounds_succ]
    go_wp2
    go_ret
    exact ⟨by simp, World.ownsRow_nil _ _ _ _, World.grownBy.refl _ _⟩
  · simp only [Value.slice.injEq] at hv
    obtain ⟨rfl, _, rfl⟩ := hv
    clear hgg hr hlen
    have hM : w.ownsRow base 5 1 (.slice (some ⟨g, 0, none⟩) xs.length cap) xs.length ((marked k0 xs 0).map (Value.int .u8)) := by simpa [marked, marks] using hown
    clear hown
    go_enter Tryd.func11, Tryd.ntmps11
    go_wp2
    go_loopw [1, 5] (fun kk i wr => ∃ k : Nat, k ≤ xs.length ∧ i = .int .i64 k ∧ kk = .int .i64 (k0 + k) ∧ wr.ownsRow base 5 1 (.slice (some ⟨g, 0, none⟩) xs.length cap) xs.length ((marked k0 xs k).map (Value.int .u8)) ∧ w.grownBy wr (some g))
      (fun _ i _ => xs.length - (intOf i).toNat)
    case atStart => exact ⟨0, Nat.zero_le _, rfl, by simp, hM, World.grownBy.refl _ _⟩
    case round =>
      obtain ⟨k, hk, rfl, rfl, hown, hgr⟩ := hrel
      clear hM
      by_cases hlt : k < xs.length
      · have hfz := hown.frozenAt k
        obtain ⟨u, hct⟩ := own_cell hown k hlt
        have HS := hown.stored k (.int .u8 ((k0 + k) % 256))
        rw [marked_set_map k0 xs k hlt] at HS
        have HSS : Hid (_ ∧ _) := HS
        clear HS hown
        go_wp2
        go_roundw
        case rel => exact ⟨k + 1, by omega, by go_num, by go_num, HSS.out.1, grownBy_trans hgr HSS.out.2⟩
        case measure => simp [intOf]; omega
      · have HE : Hid (wr.ownsRow base 5 1 (.slice (some ⟨g, 0, none⟩) xs.length cap) xs.length ((marks k0 xs.length).map (Value.int .u8)) ∧ k = xs.length) := by
          have e : k = xs.length := by omega
          rw [e, marked_all] at hown
          exact ⟨hown, e⟩
        go_wp2
        go_ret
        exact ⟨ret_int (by have := HE.out.2; omega), HE.out.1, hgr⟩

end Go.Proofs.YtdibmepjbabnnacDoor
