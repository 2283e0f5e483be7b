/- The walks of laws.eqObj, markObj, heldObj. -/
import Derived.Test.YtelagcpkbcdpdaaObjV
import Derived.Test.YtelagcpkbcdpdaaEqI
import Derived.Test.YtelagcpkbcdpdaaMarkI
namespace Go.Proofs.Ytelagcpkbcdpdaa
open Go.RowKit

set_option maxHeartbeats 400000 in
set_option maxRecDepth 100000 in
theorem eqObj_same (o : ObjV) (aI : Option Addr) (cI : Nat) (aR : Option Addr) (cR : Nat) (bI : Option Addr) (dI : Nat) (bR : Option Addr) (dR : Nat) (w : World) (ha : ReadsO w aI cI aR cR o) (hb : ReadsO w bI dI bR dR o) (hlI : o.ints.length ≤ 1099511627776) (hlR : o.refs.length ≤ 1099511627776) :
    Calls Try.prog 80 #[.agg #[.int .i64 o.kind, .slice aI o.ints.length cI, .slice aR o.refs.length cR], .agg #[.int .i64 o.kind, .slice bI o.ints.length dI, .slice bR o.refs.length dR]] w fun e w' => e = .returned (.bool true) ∧ Below w.heap.size w w' := by
  obtain ⟨k, ints, refs⟩ := o
  obtain ⟨haI, haR, _, _⟩ := ha
  obtain ⟨hbI, hbR, _, _⟩ := hb
  simp only at *
  obtain ⟨W, hW, b0, b1, hbW, hsW⟩ := boxes2 w [.int .i64 k, .slice aI ints.length cI, .slice aR refs.length cR] [.int .i64 k, .slice bI ints.length dI, .slice bR refs.length dR] 31 31
  go_enter Try.func80, Try.ntmps80
  go_wp2_with fail
  rw [hW.out]
  refine (eqIntS_same aI bI cI dI ints W (haI.below hbW) (hbI.below hbW) hlI).mono ?_
  rintro e w1 ⟨rfl, n1, rfl⟩
  have c0 := (b0.drewN n1).cell 2 _ rfl
  have c1 := (b1.drewN n1).cell 2 _ rfl
  have hb1 : Below w.heap.size w (W.drewN n1) := below_drewN hbW n1
  go_wp2_with fail
  refine (eqIntS_same aR bR cR dR refs (W.drewN n1) (haR.below hb1) (hbR.below hb1) hlR).mono ?_
  rintro e w2 ⟨rfl, n2, rfl⟩
  go_wp2
  go_ret
  exact ⟨rfl, below_drewN hbW (n1 + n2)⟩

def markO (o : ObjV) (k0 : Int) : ObjV := ⟨o.kind, marksI k0 o.ints.length, marksI (k0 + o.ints.length) o.refs.length⟩

set_option maxHeartbeats 400000 in
set_option maxRecDepth 100000 in
theorem markObj_own (o : ObjV) (lo hi : Nat) (aI : Option Addr) (cI : Nat) (aR : Option Addr) (cR : Nat) (k0 : Int) (w : World) (ho : OwnO w lo hi aI cI aR cR o) (h0 : 0 ≤ k0) (hlI : o.ints.length ≤ 1099511627776) (hlR : o.refs.length ≤ 1099511627776) (hk : k0 ≤ 1099511627776) :
    Calls Try.prog 81 #[.agg #[.int .i64 o.kind, .slice aI o.ints.length cI, .slice aR o.refs.length cR], .int .i64 k0] w fun e w' => e = .returned (.int .i64 (k0 + o.ints.length + o.refs.length)) ∧ OwnO w' lo hi aI cI aR cR (markO o k0) ∧ Within lo hi w w' := by
  obtain ⟨k, ints, refs⟩ := o
  obtain ⟨hI, hR, hap⟩ := ho
  simp only at *
  obtain ⟨W, hW, b0, hbW, hsW⟩ := boxes1 w [.int .i64 k, .slice aI ints.length cI, .slice aR refs.length cR] 31
  have hI' := hI.below hbW
  have hR' := hR.below hbW
  go_enter Try.func81, Try.ntmps81
  go_wp2_with fail
  rw [hW.out]
  refine (markIntS_any lo aI cI k0 ints W hI'.1 h0 (by omega)).mono ?_
  rintro e w1 ⟨rfl, h1, h2⟩
  have hR1 := hR'.kept h2 (fun k hk e => hap k e hk)
  have b1 := b0.block (h2.block _ (by omega) (fun e => by have h3 := (hI.lt _ e.symm).2; have := hI.2.1; omega))
  have c2 := b1.cell 2 _ rfl
  have hI1 : OwnI w1 lo hi aI cI (marksI k0 ints.length) := ⟨by rw [marksI_len]; exact h1, Nat.le_trans hI'.2.1 h2.size, by rw [marksI_len]; exact hI.2.2⟩
  go_wp2_with fail
  refine (markIntS_any lo aR cR (k0 + ints.length) refs w1 hR1.1 (by omega) (by omega)).mono ?_
  rintro e w2 ⟨rfl, h3, h4⟩
  have hI2 := hI1.kept h4 (fun k hk e => by rw [marksI_len] at hk; exact hap k hk e)
  have hR2 : OwnI w2 lo hi aR cR (marksI (k0 + ints.length) refs.length) := ⟨by rw [marksI_len]; exact h3, Nat.le_trans hR1.2.1 h4.size, by rw [marksI_len]; exact hR.2.2⟩
  go_wp2
  go_ret
  refine ⟨rfl, ⟨hI2, hR2, ?_⟩, ((Within.of_below hbW).trans (Within.of_grown h2 (fun j hj => hI.lt j hj))).trans (Within.of_grown h4 (fun j hj => hR.lt j hj))⟩
  simp only [markO, marksI_len]
  exact hap

set_option maxHeartbeats 400000 in
set_option maxRecDepth 100000 in
theorem heldObj_own (o : ObjV) (lo hi : Nat) (aI : Option Addr) (cI : Nat) (aR : Option Addr) (cR : Nat) (k0 : Int) (w : World) (ho : OwnO w lo hi aI cI aR cR (markO o k0)) (h0 : 0 ≤ k0) (hlI : o.ints.length ≤ 1099511627776) (hlR : o.refs.length ≤ 1099511627776) (hk : k0 ≤ 1099511627776) :
    Calls Try.prog 82 #[.agg #[.int .i64 o.kind, .slice aI o.ints.length cI, .slice aR o.refs.length cR], .int .i64 k0] w fun e w' => e = .returned (.int .i64 (k0 + o.ints.length + o.refs.length)) ∧ Below w.heap.size w w' := by
  obtain ⟨k, ints, refs⟩ := o
  obtain ⟨hI, hR, hap⟩ := ho
  simp only [markO] at *
  obtain ⟨W, hW, b0, hbW, hsW⟩ := boxes1 w [.int .i64 k, .slice aI ints.length cI, .slice aR refs.length cR] 31
  have hI' := hI.below hbW
  have hR' := hR.below hbW
  have c2 := b0.cell 2 _ rfl
  go_enter Try.func82, Try.ntmps82
  go_wp2_with fail
  rw [hW.out]
  refine (heldIntS_own lo hi aI cI k0 ints.length W hI' h0 (by omega)).mono ?_
  rintro e w1 ⟨rfl, rfl⟩
  go_wp2_with fail
  refine (heldIntS_own lo hi aR cR (k0 + ints.length) refs.length w1 hR' (by omega) (by omega)).mono ?_
  rintro e w2 ⟨rfl, rfl⟩
  go_wp2
  go_ret
  exact ⟨rfl, hbW⟩
end Go.Proofs.Ytelagcpkbcdpdaa
