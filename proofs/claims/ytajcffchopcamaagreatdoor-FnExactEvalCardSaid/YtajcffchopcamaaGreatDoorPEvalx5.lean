/- Several texts in one, in their order. -/
import Derived.Test.YtajcffchopcamaaGreatDoorPEvalx2
import Derived.Test.YtajcffchopcamaaGreatDoorPEvalx3
import Derived.Test.YtajcffchopcamaaGreatDoorPEvalx4
import Derived.Test.YtajcffchopcamaaGreatDoorProg
import Derived.Test.YtajcffchopcamaaGreatDoorPEvalx1
/- The walks of laws.markIntS and laws.heldIntS. -/
namespace Go.Proofs.YtajcffchopcamaaGreatDoor
open Go.RowKit

def marksI (k0 : Int) (n : Nat) : List Int := (List.range n).map fun i : Nat => k0 + i

theorem marksI_len (k0 : Int) (n : Nat) : (marksI k0 n).length = n := by simp [marksI]
theorem marksI_at (k0 : Int) (n i : Nat) (h : i < n) : (marksI k0 n).getD i 0 = k0 + i := by
  simp [marksI, List.getD, h]
theorem marksI_succ (k0 : Int) (n : Nat) : marksI k0 (n + 1) = marksI k0 n ++ [k0 + n] := by
  simp [marksI, List.range_succ]

def markedI (k0 : Int) (xs : List Int) (k : Nat) : List Int := marksI k0 k ++ xs.drop k
theorem markedI_set (k0 : Int) (xs : List Int) (k : Nat) (h : k < xs.length) : (markedI k0 xs k).set k (k0 + k) = markedI k0 xs (k + 1) := by
  unfold markedI
  rw [List.set_append, if_neg (by rw [marksI_len]; omega), marksI_len, Nat.sub_self, marksI_succ, List.drop_eq_getElem_cons h, List.set_cons_zero]
  simp
theorem markedI_set_map (k0 : Int) (xs : List Int) (k : Nat) (h : k < xs.length) : ((markedI k0 xs k).map (Value.int .i64)).set k (.int .i64 (k0 + k)) = (markedI k0 xs (k + 1)).map (Value.int .i64) := by
  rw [← markedI_set k0 xs k h, List.map_set]
theorem markedI_all (k0 : Int) (xs : List Int) : markedI k0 xs xs.length = marksI k0 xs.length := by simp [markedI]

set_option maxHeartbeats 400000 in
theorem markIntS_any (base : Nat) (a : Option Addr) (cap : Nat) (k0 : Int) (xs : List Int) (w : World)
    (hown : w.ownsRow base 3 1 (.slice a xs.length cap) xs.length (xs.map (Value.int .i64))) (h0 : 0 ≤ k0) (hl : k0 + xs.length ≤ 4611686018427387904) :
    Calls Tryz.prog 24 #[.slice a xs.length cap, .int .i64 k0] w fun e w' => e = .returned (.int .i64 (k0 + xs.length)) ∧
      w'.ownsRow base 3 1 (.slice a xs.length cap) xs.length ((marksI k0 xs.length).map (Value.int .i64)) ∧ w.grownBy w' (Value.slice a xs.length cap).ownBlock := by
  have hlen := hown.1
  rcases hown.2 with ⟨hv, h00⟩ | ⟨g, cap', cur, hv, hg, hgg, hr⟩
  · simp only [Value.slice.injEq] at hv
    obtain ⟨rfl, h00', rfl⟩ := hv
    obtain rfl := List.length_eq_zero_iff.1 h00
    go_enter Tryz.func24, Tryz.ntmps24
    go_wp2
    refine wp_loop_rounds 1 ?_
    rw [rounds_succ]
    go_wp2
    go_ret
    exact ⟨by simp, World.ownsRow_nil _ _ _ _, World.grownBy.refl _ _⟩
  · simp only [Value.slice.injEq] at hv
    obtain ⟨rfl, _, rfl⟩ := hv
    clear hgg hr hlen
    have hM : w.ownsRow base 3 1 (.slice (some ⟨g, 0, none⟩) xs.length cap) xs.length ((markedI k0 xs 0).map (Value.int .i64)) := by simpa [markedI, marksI] using hown
    clear hown
    go_enter Tryz.func24, Tryz.ntmps24
    go_wp2
    go_loopw [1, 5] (fun kk i wr => ∃ k : Nat, k ≤ xs.length ∧ i = .int .i64 k ∧ kk = .int .i64 (k0 + k) ∧ wr.ownsRow base 3 1 (.slice (some ⟨g, 0, none⟩) xs.length cap) xs.length ((markedI k0 xs k).map (Value.int .i64)) ∧ w.grownBy wr (some g))
      (fun _ i _ => xs.length - (RowKit.intOf i).toNat)
    case atStart => exact ⟨0, Nat.zero_le _, rfl, by simp, hM, World.grownBy.refl _ _⟩
    case round =>
      obtain ⟨k, hk, rfl, rfl, hown, hgr⟩ := hrel
      clear hM
      by_cases hlt : k < xs.length
      · have hfz := hown.frozenAt k
        obtain ⟨u, hct⟩ := own_cell hown k hlt
        have HS := hown.stored k (.int .i64 (k0 + k))
        rw [markedI_set_map k0 xs k hlt] at HS
        have HSS : Hid (_ ∧ _) := HS
        clear HS hown
        go_wp2
        go_roundw
        case rel => exact ⟨k + 1, by omega, by go_num, by go_num, HSS.out.1, grownBy_trans hgr HSS.out.2⟩
        case measure => simp [RowKit.intOf]; omega
      · have HE : Hid (wr.ownsRow base 3 1 (.slice (some ⟨g, 0, none⟩) xs.length cap) xs.length ((marksI k0 xs.length).map (Value.int .i64)) ∧ k = xs.length) := by
          have e : k = xs.length := by omega
          rw [e, markedI_all] at hown
          exact ⟨hown, e⟩
        go_wp2
        go_ret
        exact ⟨ret_int (by have := HE.out.2; omega), HE.out.1, hgr⟩

set_option maxHeartbeats 400000 in
theorem heldIntS_any (a : Option Addr) (cap : Nat) (k0 : Int) (n : Nat) (w : World) (hr : ReadsI w a (marksI k0 n)) (h0 : 0 ≤ k0) (hl : k0 + n ≤ 4611686018427387904) :
    Calls Tryz.prog 25 #[.slice a n cap, .int .i64 k0] w fun e w' => e = .returned (.int .i64 (k0 + n)) ∧ w' = w := by
  rcases hr.cases with h | ⟨b, off, rfl, hpos, hcell⟩
  · have h' := congrArg List.length h
    rw [marksI_len] at h'
    simp at h'
    subst h'
    go_enter Tryz.func25, Tryz.ntmps25
    go_wp2
    refine wp_loop_rounds 1 ?_
    rw [rounds_succ]
    go_wp2
    go_ret
    exact ⟨by simp, rfl⟩
  · rw [marksI_len] at hpos hcell
    go_enter Tryz.func25, Tryz.ntmps25
    go_wp2
    go_loop [1, 5] (fun kk i => ∃ k : Nat, k ≤ n ∧ i = .int .i64 k ∧ kk = .int .i64 (k0 + k)) (fun _ i => n - (RowKit.intOf i).toNat)
    case atStart => exact ⟨0, Nat.zero_le _, rfl, by simp⟩
    case round =>
      obtain ⟨k, hk, rfl, rfl⟩ := hrel
      by_cases hlt : k < n
      · have hc := hcell k hlt
        rw [marksI_at k0 n k hlt] at hc
        clear hcell
        go_wp2
        go_round
        case rel => exact ⟨k + 1, by omega, by go_num, by go_num⟩
        case measure => simp [RowKit.intOf]; omega
      · have HE : Hid (k = n) := by show k = n; omega
        go_wp2
        go_ret
        exact ⟨ret_int (by have := HE.out; omega), rfl⟩

end Go.Proofs.YtajcffchopcamaaGreatDoor

/- The walks of laws.eqObj, markObj, heldObj. -/
namespace Go.Proofs.YtajcffchopcamaaGreatDoor
open Go.RowKit

set_option maxHeartbeats 400000 in
set_option maxRecDepth 100000 in
theorem eqObj_same (o : ObjV) (aI : Option Addr) (cI : Nat) (aR : Option Addr) (cR : Nat) (bI : Option Addr) (dI : Nat) (bR : Option Addr) (dR : Nat) (w : World) (ha : ReadsO w aI cI aR cR o) (hb : ReadsO w bI dI bR dR o) (hlI : o.ints.length ≤ 1099511627776) (hlR : o.refs.length ≤ 1099511627776) :
    Calls Tryz.prog 75 #[.agg #[.int .i64 o.kind, .slice aI o.ints.length cI, .slice aR o.refs.length cR], .agg #[.int .i64 o.kind, .slice bI o.ints.length dI, .slice bR o.refs.length dR]] w fun e w' => e = .returned (.bool true) ∧ Below w.heap.size w w' := by
  obtain ⟨k, ints, refs⟩ := o
  obtain ⟨haI, haR, _, _⟩ := ha
  obtain ⟨hbI, hbR, _, _⟩ := hb
  simp only at *
  obtain ⟨W, hW, b0, b1, hbW, hsW⟩ := boxes2 w [.int .i64 k, .slice aI ints.length cI, .slice aR refs.length cR] [.int .i64 k, .slice bI ints.length dI, .slice bR refs.length dR] 39 39
  go_enter Tryz.func75, Tryz.ntmps75
  go_wp2_with fail
  rw [hW.out]
  refine (eqIntS_same aI bI cI dI ints W (haI.below hbW) (hbI.below hbW) hlI).mono ?_
  rintro e w1 ⟨rfl, n1, rfl⟩
  have c0 := (b0.drewN n1).cell 2 _ rfl
  have c1 := (b1.drewN n1).cell 2 _ rfl
  have hb1 : Below w.heap.size w (W.drewN n1) := below_drewN hbW n1
  go_wp2_with fail
  refine (eqIntS_same aR bR cR dR refs (W.drewN n1) (haR.below hb1) (hbR.below hb1) hlR).mono ?_
  rintro e w2 ⟨rfl, n2, rfl⟩
  go_wp2
  go_ret
  exact ⟨rfl, below_drewN hbW (n1 + n2)⟩

def markO (o : ObjV) (k0 : Int) : ObjV := ⟨o.kind, marksI k0 o.ints.length, marksI (k0 + o.ints.length) o.refs.length⟩

end Go.Proofs.YtajcffchopcamaaGreatDoor

/- The walks of laws.markByteS and laws.heldByteS. -/
namespace Go.Proofs.YtajcffchopcamaaGreatDoor
open Go.RowKit

def marks (k0 : Int) (n : Nat) : List Int := (List.range n).map fun i : Nat => (k0 + i) % 256

def marked (k0 : Int) (xs : List Int) (k : Nat) : List Int := marks k0 k ++ xs.drop k
end Go.Proofs.YtajcffchopcamaaGreatDoor

/- The walk of laws.toByteS: a new row with the same bytes. -/
namespace Go.Proofs.YtajcffchopcamaaGreatDoor
open Go.RowKit

end Go.Proofs.YtajcffchopcamaaGreatDoor
