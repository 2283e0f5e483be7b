/- The walk of laws.FnExactSameObj. -/
import Derived.Test.YtdibmepjbabnnacSameSpec
import Derived.Test.YtdibmepjbabnnacSameObj
import Derived.Test.YtdibmepjbabnnacObjLaw
import Derived.Test.YtdibmepjbabnnacOpenObj
import Derived.Test.YtdibmepjbabnnacSzObj
import Derived.Deep.RegionHeld3
namespace Go.Proofs.Ytdibmepjbabnnac
open Go.RowKit

theorem szObj_left (o : ObjV) (left : Int) (h : 0 ≤ left ∧ left ≤ 1048576) : szObjOf o left < 0 ∨ (0 ≤ szObjOf o left ∧ szObjOf o left ≤ 1048576 ∧ o.ints.length ≤ 1048576 ∧ o.refs.length ≤ 1048576) := by
  unfold szObjOf
  split
  · exact .inl (by omega)
  · split
    · exact .inl (by omega)
    · exact .inr ⟨by omega, by omega, by omega, by omega⟩

set_option maxHeartbeats 2000000 in
set_option maxRecDepth 100000 in
theorem lawSameObj_walk (o : ObjV) (aI : Option Addr) (cI : Nat) (aR : Option Addr) (cR : Nat) (p : ObjV) (bI : Option Addr) (dI : Nat) (bR : Option Addr) (dR : Nat) (w : World) (hr : ReadsO w aI cI aR cR o) (hp : ReadsO w bI dI bR dR p) (hnI : o.ints.length ≤ maxLen) (hnR : o.refs.length ≤ maxLen) (hmI : p.ints.length ≤ maxLen) (hmR : p.refs.length ≤ maxLen) :
    Calls Try.prog 3 #[.agg #[.int .i64 o.kind, .slice aI o.ints.length cI, .slice aR o.refs.length cR], .agg #[.int .i64 p.kind, .slice bI p.ints.length dI, .slice bR p.refs.length dR]] w fun e w' => e = .returned (.bool true) ∧ Below w.heap.size w w' := by
  simp only [maxLen] at hnI hnR hmI hmR
  obtain ⟨W, hW, b0, c0, hbW, hsW⟩ := boxes2 w [.int .i64 o.kind, .slice aI o.ints.length cI, .slice aR o.refs.length cR] [.int .i64 p.kind, .slice bI p.ints.length dI, .slice bR p.refs.length dR] 24 24
  have HSZ : Hid (_ ∨ _) := szObj_left o 1048576 (by omega)
  go_enter Try.func3, Try.ntmps3
  go_wp2_with fail
  rw [hW.out]
  refine (szObj_any o aI cI aR cR 1048576 W (by omega) (by omega) (by omega)).mono ?_
  rintro e w1 ⟨rfl, hb1⟩
  have hs1 := hb1.size
  have B1 : Below w.heap.size w w1 := hbW.trans (hb1.mono hbW.size)
  have b1 := b0.below hb1 b0.lt
  have c1 := c0.below hb1 c0.lt
  rcases HSZ.out with hs | ⟨hs, hs', hl1, hl2⟩
  · generalize szObjOf o 1048576 = left at *
    go_wp2
    go_ret
    exact ⟨rfl, B1⟩
  generalize szObjOf o 1048576 = left at *
  have HSP : Hid (_ ∨ _) := szObj_left p left ⟨hs, hs'⟩
  have y0 := c1.cell 0 _ rfl
  have y1 := c1.cell 1 _ rfl
  have y2 := c1.cell 2 _ rfl
  go_wp2_with fail
  refine (szObj_any p bI dI bR dR left w1 (by omega) (by omega) (by omega)).mono ?_
  rintro e w2 ⟨rfl, hb2⟩
  have hs2 := hb2.size
  have B2 : Below w.heap.size w w2 := B1.trans (hb2.mono B1.size)
  have b2 := b1.below hb2 b1.lt
  have c2 := c1.below hb2 c1.lt
  rcases HSP.out with hq | ⟨hq, _, hl3, hl4⟩
  · generalize szObjOf p left = left2 at *
    go_wp2
    go_ret
    exact ⟨rfl, B2⟩
  generalize szObjOf p left = left2 at *
  clear b0 c0 b1 c1 y0 y1 y2 HSZ HSP
  -- both boxes: kept as long as nothing below w.heap.size + 2 is written
  have hA : ∀ w', Below (w.heap.size + 2) w2 w' → (w'.cell? ⟨w.heap.size, 0, none⟩ = some (.int .i64 o.kind) ∧ w'.cell? ⟨w.heap.size, 1, none⟩ = some (.slice aI o.ints.length cI) ∧ w'.cell? ⟨w.heap.size, 2, none⟩ = some (.slice aR o.refs.length cR)) ∧ (w'.cell? ⟨w.heap.size + 1, 0, none⟩ = some (.int .i64 p.kind) ∧ w'.cell? ⟨w.heap.size + 1, 1, none⟩ = some (.slice bI p.ints.length dI) ∧ w'.cell? ⟨w.heap.size + 1, 2, none⟩ = some (.slice bR p.refs.length dR)) :=
    fun w' hh => ⟨⟨(b2.below hh (by omega)).cell 0 _ rfl, (b2.below hh (by omega)).cell 1 _ rfl, (b2.below hh (by omega)).cell 2 _ rfl⟩, ⟨(c2.below hh (by omega)).cell 0 _ rfl, (c2.below hh (by omega)).cell 1 _ rfl, (c2.below hh (by omega)).cell 2 _ rfl⟩⟩
  have hR1 : ∀ w', Below (w.heap.size + 2) w2 w' → ReadsO w' aI cI aR cR o := fun w' hh => hr.below (B2.trans (hh.mono (by omega)))
  have hR2 : ∀ w', Below (w.heap.size + 2) w2 w' → ReadsO w' bI dI bR dR p := fun w' hh => hp.below (B2.trans (hh.mono (by omega)))
  have hsz : w.heap.size + 2 ≤ w2.heap.size := by omega
  have hk0 : ∀ w', Below w2.heap.size w2 w' → _ := fun w' hh => hA w' (hh.mono hsz)
  have hh := hk0 w2 (Below.refl _ _)
  go_wp2_with fail
  go_region_held3 (fun w' => (w'.cell? ⟨w.heap.size, 0, none⟩ = some (.int .i64 o.kind) ∧ w'.cell? ⟨w.heap.size, 1, none⟩ = some (.slice aI o.ints.length cI) ∧ w'.cell? ⟨w.heap.size, 2, none⟩ = some (.slice aR o.refs.length cR)) ∧ (w'.cell? ⟨w.heap.size + 1, 0, none⟩ = some (.int .i64 p.kind) ∧ w'.cell? ⟨w.heap.size + 1, 1, none⟩ = some (.slice bI p.ints.length dI) ∧ w'.cell? ⟨w.heap.size + 1, 2, none⟩ = some (.slice bR p.refs.length dR)))
    (first | exact hk0 _ hw5 | exact hk0 _ hw4 | exact hk0 _ hw3 | go_keep)
    (first
    | (go_at_call_of 6 (Value.agg #[.int .i64 o.kind, .slice aI o.ints.length cI, .slice aR o.refs.length cR]); refine (toObj_own o aI cI aR cR w2.drew (hR1 _ (Below.refl _ _).drew) (by omega) (by omega)).mono ?_; rintro e w3 ⟨qI, eI, qR, eR, rfl, ho3, hb3⟩; have hw3 : Below w2.heap.size w2 w3 := (Below.refl _ _).drew.trans hb3)
    | (go_at_call_of 6 (Value.agg #[.int .i64 p.kind, .slice bI p.ints.length dI, .slice bR p.refs.length dR]); refine (toObj_own p bI dI bR dR w3 (hR2 _ (hw3.mono hsz)) (by omega) (by omega)).mono ?_; rintro e w4 ⟨rI, fI, rR, fR, rfl, ho4, hb4⟩; have hw4 : Below w2.heap.size w2 w4 := hw3.trans (hb4.mono hw3.size))
    | (go_at_call 5; refine (specSameObj_any o p qI eI qR eR rI fI rR fR w4 (ho3.below hb4).reads ho4.reads (by omega) (by omega) (by omega) (by omega)).mono ?_; rintro e w5 ⟨rfl, hb5⟩; have hw5 : Below w2.heap.size w2 w5 := hw4.trans (hb5.mono hw4.size)))
  have K5 : Below (w.heap.size + 2) w2 w5 := hw5.mono hsz
  have hs5 := hw5.size
  obtain ⟨⟨g0, g1, g2⟩, _⟩ := hA w5 K5
  clear hh hk0 ho3 hb3 hw3 ho4 hb4 hw4
  generalize HD0 : sameO o p = D at *
  have HD : Hid (sameO o p = D) := HD0
  clear HD0
  go_wp2_with fail
  refine (toObj_own o aI cI aR cR w5 (hR1 _ K5) (by omega) (by omega)).mono ?_
  rintro e w6 ⟨xI, kI, xR, kR, rfl, ho6, hb6⟩
  obtain ⟨W7, hW7, bX, hbW7, hsW7⟩ := boxes1 w6 [.int .i64 o.kind, .slice xI o.ints.length kI, .slice xR o.refs.length kR] 27
  have hs6 := hb6.size
  have N57 : Below w5.heap.size w5 W7 := hb6.trans (hbW7.mono hs6)
  have K7 : Below (w.heap.size + 2) w2 W7 := K5.trans (N57.mono (by omega))
  obtain ⟨_, ⟨j0, j1, j2⟩⟩ := hA W7 K7
  have W7e := hW7.out
  go_wp2_with fail
  refine (toObj_own p bI dI bR dR W7 (hR2 _ K7) (by omega) (by omega)).mono ?_
  rintro e w8 ⟨uI, lI, uR, lR, rfl, ho8, hb8⟩
  clear W7e
  obtain ⟨W9, hW9, bY, hbW9, hsW9⟩ := boxes1 w8 [.int .i64 p.kind, .slice uI p.ints.length lI, .slice uR p.refs.length lR] 27
  have hs8 := hb8.size
  have N79 : Below W7.heap.size W7 W9 := hb8.trans (hbW9.mono hs8)
  have K9 : Below (w.heap.size + 2) w2 W9 := K7.trans (N79.mono (by have := K7.size; omega))
  have bX9 := bX.below N79 bX.lt
  have ox9 := (ho6.below hbW7).below N79
  have oy9 := ho8.below hbW9
  have m0 := bX9.cell 0 _ rfl
  have m1 := bX9.cell 1 _ rfl
  have m2 := bX9.cell 2 _ rfl
  have r0 := bY.cell 0 _ rfl
  have r1 := bY.cell 1 _ rfl
  have r2 := bY.cell 2 _ rfl
  have W9e := hW9.out
  go_wp2_with fail
  refine (implSameObj_any o p xI kI xR kR uI lI uR lR W9 ox9.reads oy9.reads (by omega) (by omega) (by omega) (by omega)).mono ?_
  rintro e w10 ⟨rfl, hb10⟩
  clear W9e
  rw [HD.out]
  have K10 : Below (w.heap.size + 2) w2 w10 := K9.trans (hb10.mono (by have := K9.size; omega))
  have bX10 := bX9.below hb10 bX9.lt
  have bY10 := bY.below hb10 bY.lt
  have ox10 := ox9.below hb10
  have oy10 := oy9.below hb10
  clear m0 m1 m2 r0 r1 r2 g0 g1 g2 j0 j1 j2 ho6 hb6 ho8 hb8 ox9 oy9 bX bX9 bY
  have hk1 : ∀ w', Below w10.heap.size w10 w' → (w'.cell? ⟨w.heap.size, 0, none⟩ = some (.int .i64 o.kind) ∧ w'.cell? ⟨w.heap.size, 1, none⟩ = some (.slice aI o.ints.length cI) ∧ w'.cell? ⟨w.heap.size, 2, none⟩ = some (.slice aR o.refs.length cR)) ∧ (w'.cell? ⟨w.heap.size + 1, 0, none⟩ = some (.int .i64 p.kind) ∧ w'.cell? ⟨w.heap.size + 1, 1, none⟩ = some (.slice bI p.ints.length dI) ∧ w'.cell? ⟨w.heap.size + 1, 2, none⟩ = some (.slice bR p.refs.length dR)) ∧ (w'.cell? ⟨w6.heap.size, 0, none⟩ = some (.int .i64 o.kind) ∧ w'.cell? ⟨w6.heap.size, 1, none⟩ = some (.slice xI o.ints.length kI) ∧ w'.cell? ⟨w6.heap.size, 2, none⟩ = some (.slice xR o.refs.length kR)) :=
    fun w' hh => ⟨(hA w' (K10.trans (hh.mono (by have := K10.size; omega)))).1, (hA w' (K10.trans (hh.mono (by have := K10.size; omega)))).2, ⟨(bX10.below hh bX10.lt).cell 0 _ rfl, (bX10.below hh bX10.lt).cell 1 _ rfl, (bX10.below hh bX10.lt).cell 2 _ rfl⟩⟩
  have hh1 := hk1 w10 (Below.refl _ _)
  go_wp2_with fail
  go_region_held3 (fun w' => (w'.cell? ⟨w.heap.size, 0, none⟩ = some (.int .i64 o.kind) ∧ w'.cell? ⟨w.heap.size, 1, none⟩ = some (.slice aI o.ints.length cI) ∧ w'.cell? ⟨w.heap.size, 2, none⟩ = some (.slice aR o.refs.length cR)) ∧ (w'.cell? ⟨w.heap.size + 1, 0, none⟩ = some (.int .i64 p.kind) ∧ w'.cell? ⟨w.heap.size + 1, 1, none⟩ = some (.slice bI p.ints.length dI) ∧ w'.cell? ⟨w.heap.size + 1, 2, none⟩ = some (.slice bR p.refs.length dR)) ∧ (w'.cell? ⟨w6.heap.size, 0, none⟩ = some (.int .i64 o.kind) ∧ w'.cell? ⟨w6.heap.size, 1, none⟩ = some (.slice xI o.ints.length kI) ∧ w'.cell? ⟨w6.heap.size, 2, none⟩ = some (.slice xR o.refs.length kR)))
    (first | exact hk1 _ hw12 | exact hk1 _ hw11 | go_keep)
    (first
    | (go_at_call 6; refine (toObj_own o aI cI aR cR w10.drew (hR1 _ (K10.trans ((Below.refl _ _).drew.mono (by have := K10.size; omega)))) (by omega) (by omega)).mono ?_; rintro e w11 ⟨zpI, vpI, zpR, vpR, rfl, hop, hbp⟩; have hw11 : Below w10.heap.size w10 w11 := (Below.refl _ _).drew.trans hbp)
    | (go_at_call 8; refine (eqObj_same o xI kI xR kR zpI vpI zpR vpR w11 (ox10.below hw11).reads hop.reads (by omega) (by omega)).mono ?_; rintro e w12 ⟨rfl, hcp⟩; have hw12 : Below w10.heap.size w10 w12 := hw11.trans (hcp.mono hw11.size)))
  have K12 : Below (w.heap.size + 2) w2 w12 := K10.trans (hw12.mono (by have := K10.size; omega))
  have bY12 := bY10.below hw12 bY10.lt
  have oy12 := oy10.below hw12
  clear hk1 hh1 hop hbp hw11 hcp
  have hk2 : ∀ w', Below w12.heap.size w12 w' → (w'.cell? ⟨w.heap.size, 0, none⟩ = some (.int .i64 o.kind) ∧ w'.cell? ⟨w.heap.size, 1, none⟩ = some (.slice aI o.ints.length cI) ∧ w'.cell? ⟨w.heap.size, 2, none⟩ = some (.slice aR o.refs.length cR)) ∧ (w'.cell? ⟨w.heap.size + 1, 0, none⟩ = some (.int .i64 p.kind) ∧ w'.cell? ⟨w.heap.size + 1, 1, none⟩ = some (.slice bI p.ints.length dI) ∧ w'.cell? ⟨w.heap.size + 1, 2, none⟩ = some (.slice bR p.refs.length dR)) ∧ (w'.cell? ⟨w8.heap.size, 0, none⟩ = some (.int .i64 p.kind) ∧ w'.cell? ⟨w8.heap.size, 1, none⟩ = some (.slice uI p.ints.length lI) ∧ w'.cell? ⟨w8.heap.size, 2, none⟩ = some (.slice uR p.refs.length lR)) :=
    fun w' hh => ⟨(hA w' (K12.trans (hh.mono (by have := K12.size; omega)))).1, (hA w' (K12.trans (hh.mono (by have := K12.size; omega)))).2, ⟨(bY12.below hh bY12.lt).cell 0 _ rfl, (bY12.below hh bY12.lt).cell 1 _ rfl, (bY12.below hh bY12.lt).cell 2 _ rfl⟩⟩
  have hh2 := hk2 w12 (Below.refl _ _)
  go_wp2_with fail
  go_region_held3 (fun w' => (w'.cell? ⟨w.heap.size, 0, none⟩ = some (.int .i64 o.kind) ∧ w'.cell? ⟨w.heap.size, 1, none⟩ = some (.slice aI o.ints.length cI) ∧ w'.cell? ⟨w.heap.size, 2, none⟩ = some (.slice aR o.refs.length cR)) ∧ (w'.cell? ⟨w.heap.size + 1, 0, none⟩ = some (.int .i64 p.kind) ∧ w'.cell? ⟨w.heap.size + 1, 1, none⟩ = some (.slice bI p.ints.length dI) ∧ w'.cell? ⟨w.heap.size + 1, 2, none⟩ = some (.slice bR p.refs.length dR)) ∧ (w'.cell? ⟨w8.heap.size, 0, none⟩ = some (.int .i64 p.kind) ∧ w'.cell? ⟨w8.heap.size, 1, none⟩ = some (.slice uI p.ints.length lI) ∧ w'.cell? ⟨w8.heap.size, 2, none⟩ = some (.slice uR p.refs.length lR)))
    (first | exact hk2 _ hw14 | exact hk2 _ hw13 | go_keep)
    (first
    | (go_at_call 6; refine (toObj_own p bI dI bR dR w12.drew (hR2 _ (K12.trans ((Below.refl _ _).drew.mono (by have := K12.size; omega)))) (by omega) (by omega)).mono ?_; rintro e w13 ⟨zqI, vqI, zqR, vqR, rfl, hoq, hbq⟩; have hw13 : Below w12.heap.size w12 w13 := (Below.refl _ _).drew.trans hbq)
    | (go_at_call 8; refine (eqObj_same p uI lI uR lR zqI vqI zqR vqR w13 (oy12.below hw13).reads hoq.reads (by omega) (by omega)).mono ?_; rintro e w14 ⟨rfl, hcq⟩; have hw14 : Below w12.heap.size w12 w14 := hw13.trans (hcq.mono hw13.size)))
  go_wp2
  go_ret
  exact ⟨rfl, B2.trans ((K12.trans (hw14.mono (by have := K12.size; omega))).mono (by omega))⟩
end Go.Proofs.Ytdibmepjbabnnac
