/- The walk of laws.FnExactObjText. -/
import Derived.Test.YtdibmepjbabnnacDoorObjTextSpec
import Derived.Test.YtdibmepjbabnnacDoorObjText
import Derived.Test.YtdibmepjbabnnacDoorObjLaw
import Derived.Test.YtdibmepjbabnnacDoorOpenObj
import Derived.Test.YtdibmepjbabnnacDoorSzObj
import Derived.Deep.RegionHeld3
namespace Go.Proofs.YtdibmepjbabnnacDoor
open Go.RowKit

set_option maxHeartbeats 1000000 in
set_option maxRecDepth 100000 in
theorem lawObjText_walk (o : ObjV) (aI : Option Addr) (cI : Nat) (aR : Option Addr) (cR : Nat) (w : World) (he : EnvT w) (hr : ReadsO w aI cI aR cR o) (hnI : o.ints.length ≤ maxLen) (hnR : o.refs.length ≤ maxLen) :
    Calls Tryd.prog 4 #[.agg #[.int .i64 o.kind, .slice aI o.ints.length cI, .slice aR o.refs.length cR]] w fun e w' => e = .returned (.bool true) ∧ Below w.heap.size w w' := by
  simp only [maxLen] at hnI hnR
  obtain ⟨W, hW, b0, hbW, hsW⟩ := boxes1 w [.int .i64 o.kind, .slice aI o.ints.length cI, .slice aR o.refs.length cR] 34
  have hrW := hr.below hbW
  have HSZ : Hid (_ ∨ _) := szObj_cases o
  go_enter Tryd.func4, Tryd.ntmps4
  go_wp2_with fail
  rw [hW.out]
  refine (szObj_any o aI cI aR cR 1048576 W (by omega) (by omega) (by omega)).mono ?_
  rintro e w1 ⟨rfl, hb1⟩
  have B1 : Below w.heap.size w w1 := hbW.trans (hb1.mono hbW.size)
  have b1 := b0.below hb1 b0.lt
  rcases HSZ.out with hs | ⟨hs, hl1, hl2⟩
  · generalize szObjOf o 1048576 = left at *
    go_wp2
    go_ret
    exact ⟨rfl, B1⟩
  generalize szObjOf o 1048576 = left at *
  have hlt : w.heap.size < w1.heap.size := b1.lt
  have hkeep : ∀ w', Below (w.heap.size + 1) w1 w' → w'.cell? ⟨w.heap.size, 0, none⟩ = some (.int .i64 o.kind) ∧ w'.cell? ⟨w.heap.size, 1, none⟩ = some (.slice aI o.ints.length cI) ∧ w'.cell? ⟨w.heap.size, 2, none⟩ = some (.slice aR o.refs.length cR) :=
    fun w' hh => ⟨(b1.below hh (by omega)).cell 0 _ rfl, (b1.below hh (by omega)).cell 1 _ rfl, (b1.below hh (by omega)).cell 2 _ rfl⟩
  obtain ⟨x0, x1, x2⟩ := hkeep w1 (Below.refl _ _)
  have hr1 := hr.below B1
  go_wp2_with fail
  refine (toObj_own o aI cI aR cR w1 hr1 (by omega) (by omega)).mono ?_
  rintro e w2 ⟨pI, dI, pR, dR, rfl, ho2, hb2⟩
  have B2 : Below w.heap.size w w2 := B1.trans (hb2.mono B1.size)
  go_wp2_with fail
  refine (specObjText_any o pI dI pR dR w2 ho2.reads (by omega) (by omega)).mono ?_
  rintro e w3 ⟨rfl, hb3⟩
  have K3 : Below w1.heap.size w1 w3 := hb2.trans (hb3.mono hb2.size)
  have hr3 := hr1.below K3
  obtain ⟨y0, y1, y2⟩ := hkeep w3 (K3.mono (by omega))
  go_wp2_with fail
  refine (toObj_own o aI cI aR cR w3 hr3 (by omega) (by omega)).mono ?_
  rintro e w4 ⟨qI, eI, qR, eR, rfl, ho4, hb4⟩
  have K4 : Below w1.heap.size w1 w4 := K3.trans (hb4.mono K3.size)
  go_wp2_with fail
  obtain ⟨W5, hW5, bX, hbW5, hsW5⟩ := boxes1 w4 [.int .i64 o.kind, .slice qI o.ints.length eI, .slice qR o.refs.length eR] 25
  rw [hW5.out]
  clear hW5
  have heW : EnvT W5 := he.keep (B1.trans ((K4.trans (hbW5.mono K4.size)).mono B1.size))
  refine (implObjText_any o qI eI qR eR W5 heW (ho4.reads.below hbW5) (by omega) (by omega)).mono ?_
  rintro e w6 ⟨rfl, hb6⟩
  have K6 : Below w4.heap.size w4 w6 := hbW5.trans (hb6.mono hbW5.size)
  have K16 : Below w1.heap.size w1 w6 := K4.trans (K6.mono K4.size)
  have bX6 := bX.below hb6 bX.lt
  have hX6 := bX6.lt
  have hkX : ∀ w', Below (w4.heap.size + 1) w6 w' → w'.cell? ⟨w4.heap.size, 0, none⟩ = some (.int .i64 o.kind) ∧ w'.cell? ⟨w4.heap.size, 1, none⟩ = some (.slice qI o.ints.length eI) ∧ w'.cell? ⟨w4.heap.size, 2, none⟩ = some (.slice qR o.refs.length eR) :=
    fun w' hh => ⟨(bX6.below hh (by omega)).cell 0 _ rfl, (bX6.below hh (by omega)).cell 1 _ rfl, (bX6.below hh (by omega)).cell 2 _ rfl⟩
  have hkA : ∀ w', Below w6.heap.size w6 w' → w'.cell? ⟨w.heap.size, 0, none⟩ = some (.int .i64 o.kind) ∧ w'.cell? ⟨w.heap.size, 1, none⟩ = some (.slice aI o.ints.length cI) ∧ w'.cell? ⟨w.heap.size, 2, none⟩ = some (.slice aR o.refs.length cR) :=
    fun w' hh => hkeep w' ((K16.mono (by omega)).trans (hh.mono (by have := K16.size; omega)))
  have hk : ∀ w', Below w6.heap.size w6 w' → (w'.cell? ⟨w.heap.size, 0, none⟩ = some (.int .i64 o.kind) ∧ w'.cell? ⟨w.heap.size, 1, none⟩ = some (.slice aI o.ints.length cI) ∧ w'.cell? ⟨w.heap.size, 2, none⟩ = some (.slice aR o.refs.length cR)) ∧ (w'.cell? ⟨w4.heap.size, 0, none⟩ = some (.int .i64 o.kind) ∧ w'.cell? ⟨w4.heap.size, 1, none⟩ = some (.slice qI o.ints.length eI) ∧ w'.cell? ⟨w4.heap.size, 2, none⟩ = some (.slice qR o.refs.length eR)) :=
    fun w' hh => ⟨hkA w' hh, hkX w' (hh.mono (by omega))⟩
  have hr6 := hr1.below K16
  have ho46 := ho4.below K6
  clear hkeep hkX hkA
  generalize strOf (textObjOf o) = B at *
  go_wp2_with fail
  have hh := hk w6 (Below.refl _ _)
  go_region_held3 (fun w' => (w'.cell? ⟨w.heap.size, 0, none⟩ = some (.int .i64 o.kind) ∧ w'.cell? ⟨w.heap.size, 1, none⟩ = some (.slice aI o.ints.length cI) ∧ w'.cell? ⟨w.heap.size, 2, none⟩ = some (.slice aR o.refs.length cR)) ∧ (w'.cell? ⟨w4.heap.size, 0, none⟩ = some (.int .i64 o.kind) ∧ w'.cell? ⟨w4.heap.size, 1, none⟩ = some (.slice qI o.ints.length eI) ∧ w'.cell? ⟨w4.heap.size, 2, none⟩ = some (.slice qR o.refs.length eR)))
    (first | exact hk _ hw8 | exact hk _ hw7 | go_keep)
    (first
    | (go_at_call 16; refine (toObj_own o aI cI aR cR _ hr6.drew (by omega) (by omega)).mono ?_; rintro e w7 ⟨zI, fI, zR, fR, rfl, ho7, hb7⟩; have hw7 : Below w6.heap.size w6 w7 := (Below.refl _ _).drew.trans hb7)
    | (go_at_call 9; refine (eqObj_same o qI eI qR eR zI fI zR fR w7 (ho46.below hw7).reads ho7.reads (by omega) (by omega)).mono ?_; rintro e w8 ⟨rfl, hb8⟩; have hw8 : Below w6.heap.size w6 w8 := hw7.trans (hb8.mono hw7.size)))
  go_wp2
  go_ret
  exact ⟨rfl, B1.trans ((K16.trans (hw8.mono K16.size)).mono B1.size)⟩
end Go.Proofs.YtdibmepjbabnnacDoor
