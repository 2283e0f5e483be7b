/- Several texts in one, in their order. -/
import Derived.Test.YtjaojcgfgkppgaaDoorProg
import Derived.Test.YtjaojcgfgkppgaaDoorPiece3
import Derived.Deep.QuietTactic
import Derived.BigQuiet
/- The walk of laws.eqIntS. -/
namespace Go.Proofs.YtjaojcgfgkppgaaDoor
open Go.RowKit

set_option maxHeartbeats 400000 in
/-- Two slices that read alike are alike. -/
theorem eqIntS_same (a b : Option Addr) (ca cb : Nat) (zs : List Int) (w : World) (ha : ReadsI w a zs) (hb : ReadsI w b zs) (hl : zs.length ≤ 1099511627776) :
    Calls Tryd.prog 117 #[.slice a zs.length ca, .slice b zs.length cb] w fun e w' => e = .returned (.bool true) ∧ ∃ n, w' = w.drewN n := by
  rcases ha.cases with rfl | ⟨b1, o1, rfl, hpos, hc1⟩
  · go_enter Tryd.func117, Tryd.ntmps117
    go_wp2
    refine wp_loop_rounds 1 ?_
    rw [rounds_succ]
    go_wp2
    go_ret
    exact ⟨rfl, 0, rfl⟩
  · rcases hb.cases with rfl | ⟨b2, o2, rfl, _, hc2⟩
    · simp at hpos
    · go_enter Tryd.func117, Tryd.ntmps117
      go_wp2
      go_loopw [5] (fun i wr => ∃ k : Nat, k ≤ zs.length ∧ i = .int .i64 k ∧ ∃ n, wr = w.drewN n) (fun i _ => zs.length - (intOf i).toNat)
      case atStart => exact ⟨0, Nat.zero_le _, rfl, 0, rfl⟩
      case round =>
        obtain ⟨k, hk, rfl, n, rfl⟩ := hrel
        by_cases hlt : k < zs.length
        · have h1 := hc1 k hlt
          have h2 := hc2 k hlt
          clear hc1 hc2
          generalize zs.getD k 0 = z at *
          go_wp2
          go_quiet (fail)
          go_wp2
          go_roundw
          case rel => exact ⟨k + 1, by omega, by go_num, _, rfl⟩
          case measure => simp [intOf]; omega
        · go_wp2
          go_ret
          exact ⟨rfl, n, rfl⟩
end Go.Proofs.YtjaojcgfgkppgaaDoor

/- The walks of laws.markIntS and laws.heldIntS. -/
namespace Go.Proofs.YtjaojcgfgkppgaaDoor
open Go.RowKit

def marksI (k0 : Int) (n : Nat) : List Int := (List.range n).map fun i : Nat => k0 + i

theorem marksI_len (k0 : Int) (n : Nat) : (marksI k0 n).length = n := by simp [marksI]
theorem marksI_at (k0 : Int) (n i : Nat) (h : i < n) : (marksI k0 n).getD i 0 = k0 + i := by
  simp [marksI, List.getD, h]
theorem marksI_succ (k0 : Int) (n : Nat) : marksI k0 (n + 1) = marksI k0 n ++ [k0 + n] := by
  simp [marksI, List.range_succ]

def markedI (k0 : Int) (xs : List Int) (k : Nat) : List Int := marksI k0 k ++ xs.drop k
theorem markedI_set (k0 : Int) (xs : List Int) (k : Nat) (h : k < xs.length) : (markedI k0 xs k).set k (k0 + k) = markedI k0 xs (k + 1) := by
  unfold markedI
  rw [List.set_append, if_neg (by rw [marksI_len]; omega), marksI_len, Nat.sub_self, marksI_succ, List.drop_eq_getElem_cons h, List.set_cons_zero]
  simp
theorem markedI_set_map (k0 : Int) (xs : List Int) (k : Nat) (h : k < xs.length) : ((markedI k0 xs k).map (Value.int .i64)).set k (.int .i64 (k0 + k)) = (markedI k0 xs (k + 1)).map (Value.int .i64) := by
  rw [← markedI_set k0 xs k h, List.map_set]
theorem markedI_all (k0 : Int) (xs : List Int) : markedI k0 xs xs.length = marksI k0 xs.length := by simp [markedI]

set_option maxHeartbeats 400000 in
theorem markIntS_any (base : Nat) (a : Option Addr) (cap : Nat) (k0 : Int) (xs : List Int) (w : World)
    (hown : w.ownsRow base 3 1 (.slice a xs.length cap) xs.length (xs.map (Value.int .i64))) (h0 : 0 ≤ k0) (hl : k0 + xs.length ≤ 4611686018427387904) :
    Calls Tryd.prog 119 #[.slice a xs.length cap, .int .i64 k0] w fun e w' => e = .returned (.int .i64 (k0 + xs.length)) ∧
      w'.ownsRow base 3 1 (.slice a xs.length cap) xs.length ((marksI k0 xs.length).map (Value.int .i64)) ∧ w.grownBy w' (Value.slice a xs.length cap).ownBlock := by
  have hlen := hown.1
  rcases hown.2 with ⟨hv, h00⟩ | ⟨g, cap', cur, hv, hg, hgg, hr⟩
  · simp only [Value.slice.injEq] at hv
    obtain ⟨rfl, h00', rfl⟩ := hv
    obtain rfl := List.length_eq_zero_iff.1 h00
    go_enter Tryd.func119, Tryd.ntmps119
    go_wp2
    refine wp_loop_rounds 1 ?_
    rw [rounds_succ]
    go_wp2
    go_ret
    exact ⟨by simp, World.ownsRow_nil _ _ _ _, World.grownBy.refl _ _⟩
  · simp only [Value.slice.injEq] at hv
    obtain ⟨rfl, _, rfl⟩ := hv
    clear hgg hr hlen
    have hM : w.ownsRow base 3 1 (.slice (some ⟨g, 0, none⟩) xs.length cap) xs.length ((markedI k0 xs 0).map (Value.int .i64)) := by simpa [markedI, marksI] using hown
    clear hown
    go_enter Tryd.func119, Tryd.ntmps119
    go_wp2
    go_loopw [1, 5] (fun kk i wr => ∃ k : Nat, k ≤ xs.length ∧ i = .int .i64 k ∧ kk = .int .i64 (k0 + k) ∧ wr.ownsRow base 3 1 (.slice (some ⟨g, 0, none⟩) xs.length cap) xs.length ((markedI k0 xs k).map (Value.int .i64)) ∧ w.grownBy wr (some g))
      (fun _ i _ => xs.length - (intOf i).toNat)
    case atStart => exact ⟨0, Nat.zero_le _, rfl, by simp, hM, World.grownBy.refl _ _⟩
    case round =>
      obtain ⟨k, hk, rfl, rfl, hown, hgr⟩ := hrel
      clear hM
      by_cases hlt : k < xs.length
      · have hfz := hown.frozenAt k
        obtain ⟨u, hct⟩ := own_cell hown k hlt
        have HS := hown.stored k (.int .i64 (k0 + k))
        rw [markedI_set_map k0 xs k hlt] at HS
        have HSS : Hid (_ ∧ _) := HS
        clear HS hown
        go_wp2
        go_roundw
        case rel => exact ⟨k + 1, by omega, by go_num, by go_num, HSS.out.1, grownBy_trans hgr HSS.out.2⟩
        case measure => simp [intOf]; omega
      · have HE : Hid (wr.ownsRow base 3 1 (.slice (some ⟨g, 0, none⟩) xs.length cap) xs.length ((marksI k0 xs.length).map (Value.int .i64)) ∧ k = xs.length) := by
          have e : k = xs.length := by omega
          rw [e, markedI_all] at hown
          exact ⟨hown, e⟩
        go_wp2
        go_ret
        exact ⟨ret_int (by have := HE.out.2; omega), HE.out.1, hgr⟩

theorem markIntS_own (lo hi : Nat) (a : Option Addr) (cap : Nat) (k0 : Int) (xs : List Int) (w : World) (ho : OwnI w lo hi a cap xs) (h0 : 0 ≤ k0) (hl : k0 + xs.length ≤ 4611686018427387904) :
    Calls Tryd.prog 119 #[.slice a xs.length cap, .int .i64 k0] w fun e w' => e = .returned (.int .i64 (k0 + xs.length)) ∧ OwnI w' lo hi a cap (marksI k0 xs.length) ∧ Within lo hi w w' := by
  refine (markIntS_any lo a cap k0 xs w ho.1 h0 hl).mono ?_
  rintro e w' ⟨rfl, h1, h2⟩
  refine ⟨rfl, ⟨?_, Nat.le_trans ho.2.1 h2.size, ?_⟩, Within.of_grown h2 (fun k hk => ho.lt k hk)⟩
  · rw [marksI_len]; exact h1
  · rw [marksI_len]; exact ho.2.2

end Go.Proofs.YtjaojcgfgkppgaaDoor

/- The walks of laws.eqObj, markObj, heldObj. -/
namespace Go.Proofs.YtjaojcgfgkppgaaDoor
open Go.RowKit

set_option maxHeartbeats 400000 in
set_option maxRecDepth 100000 in
theorem eqObj_same (o : ObjV) (aI : Option Addr) (cI : Nat) (aR : Option Addr) (cR : Nat) (bI : Option Addr) (dI : Nat) (bR : Option Addr) (dR : Nat) (w : World) (ha : ReadsO w aI cI aR cR o) (hb : ReadsO w bI dI bR dR o) (hlI : o.ints.length ≤ 1099511627776) (hlR : o.refs.length ≤ 1099511627776) :
    Calls Tryd.prog 97 #[.agg #[.int .i64 o.kind, .slice aI o.ints.length cI, .slice aR o.refs.length cR], .agg #[.int .i64 o.kind, .slice bI o.ints.length dI, .slice bR o.refs.length dR]] w fun e w' => e = .returned (.bool true) ∧ Below w.heap.size w w' := by
  obtain ⟨k, ints, refs⟩ := o
  obtain ⟨haI, haR, _, _⟩ := ha
  obtain ⟨hbI, hbR, _, _⟩ := hb
  simp only at *
  obtain ⟨W, hW, b0, b1, hbW, hsW⟩ := boxes2 w [.int .i64 k, .slice aI ints.length cI, .slice aR refs.length cR] [.int .i64 k, .slice bI ints.length dI, .slice bR refs.length dR] 26 26
  go_enter Tryd.func97, Tryd.ntmps97
  go_wp2_with fail
  rw [hW.out]
  refine (eqIntS_same aI bI cI dI ints W (haI.below hbW) (hbI.below hbW) hlI).mono ?_
  rintro e w1 ⟨rfl, n1, rfl⟩
  have c0 := (b0.drewN n1).cell 2 _ rfl
  have c1 := (b1.drewN n1).cell 2 _ rfl
  have hb1 : Below w.heap.size w (W.drewN n1) := below_drewN hbW n1
  go_wp2_with fail
  refine (eqIntS_same aR bR cR dR refs (W.drewN n1) (haR.below hb1) (hbR.below hb1) hlR).mono ?_
  rintro e w2 ⟨rfl, n2, rfl⟩
  go_wp2
  go_ret
  exact ⟨rfl, below_drewN hbW (n1 + n2)⟩

def markO (o : ObjV) (k0 : Int) : ObjV := ⟨o.kind, marksI k0 o.ints.length, marksI (k0 + o.ints.length) o.refs.length⟩

set_option maxHeartbeats 400000 in
set_option maxRecDepth 100000 in
theorem markObj_own (o : ObjV) (lo hi : Nat) (aI : Option Addr) (cI : Nat) (aR : Option Addr) (cR : Nat) (k0 : Int) (w : World) (ho : OwnO w lo hi aI cI aR cR o) (h0 : 0 ≤ k0) (hlI : o.ints.length ≤ 1099511627776) (hlR : o.refs.length ≤ 1099511627776) (hk : k0 ≤ 1099511627776) :
    Calls Tryd.prog 100 #[.agg #[.int .i64 o.kind, .slice aI o.ints.length cI, .slice aR o.refs.length cR], .int .i64 k0] w fun e w' => e = .returned (.int .i64 (k0 + o.ints.length + o.refs.length)) ∧ OwnO w' lo hi aI cI aR cR (markO o k0) ∧ Within lo hi w w' := by
  obtain ⟨k, ints, refs⟩ := o
  obtain ⟨hI, hR, hap⟩ := ho
  simp only at *
  obtain ⟨W, hW, b0, hbW, hsW⟩ := boxes1 w [.int .i64 k, .slice aI ints.length cI, .slice aR refs.length cR] 26
  have hI' := hI.below hbW
  have hR' := hR.below hbW
  go_enter Tryd.func100, Tryd.ntmps100
  go_wp2_with fail
  rw [hW.out]
  refine (markIntS_any lo aI cI k0 ints W hI'.1 h0 (by omega)).mono ?_
  rintro e w1 ⟨rfl, h1, h2⟩
  have hR1 := hR'.kept h2 (fun k hk e => hap k e hk)
  have b1 := b0.block (h2.block _ (by omega) (fun e => by have h3 := (hI.lt _ e.symm).2; have := hI.2.1; omega))
  have c2 := b1.cell 2 _ rfl
  have hI1 : OwnI w1 lo hi aI cI (marksI k0 ints.length) := ⟨by rw [marksI_len]; exact h1, Nat.le_trans hI'.2.1 h2.size, by rw [marksI_len]; exact hI.2.2⟩
  go_wp2_with fail
  refine (markIntS_any lo aR cR (k0 + ints.length) refs w1 hR1.1 (by omega) (by omega)).mono ?_
  rintro e w2 ⟨rfl, h3, h4⟩
  have hI2 := hI1.kept h4 (fun k hk e => by rw [marksI_len] at hk; exact hap k hk e)
  have hR2 : OwnI w2 lo hi aR cR (marksI (k0 + ints.length) refs.length) := ⟨by rw [marksI_len]; exact h3, Nat.le_trans hR1.2.1 h4.size, by rw [marksI_len]; exact hR.2.2⟩
  go_wp2
  go_ret
  refine ⟨rfl, ⟨hI2, hR2, ?_⟩, ((Within.of_below hbW).trans (Within.of_grown h2 (fun j hj => hI.lt j hj))).trans (Within.of_grown h4 (fun j hj => hR.lt j hj))⟩
  simp only [markO, marksI_len]
  exact hap

end Go.Proofs.YtjaojcgfgkppgaaDoor
