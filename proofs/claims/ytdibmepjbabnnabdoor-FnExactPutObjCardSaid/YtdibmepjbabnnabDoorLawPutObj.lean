/- The walk of laws.FnExactPutObj. -/
import Derived.Test.YtdibmepjbabnnabDoorPutObjSpec
import Derived.Test.YtdibmepjbabnnabDoorPutObj
import Derived.Test.YtdibmepjbabnnabDoorObjLaw
import Derived.Test.YtdibmepjbabnnabDoorOpenObj
import Derived.Test.YtdibmepjbabnnabDoorHeldR
import Derived.Test.YtdibmepjbabnnabDoorSzObj
import Derived.Deep.RegionHeld3
namespace Go.Proofs.YtdibmepjbabnnabDoor
open Go.RowKit

theorem putObj_len (o : ObjV) (h1 : o.ints.length ≤ 1048576) (h2 : o.refs.length ≤ 1048576) : (putObjOf o).length ≤ 1000000000 := by
  unfold putObjOf
  split
  · have := putList_len o.ints
    have := putList_len o.refs
    have := (putOf_len o.kind).2
    rw [List.length_append, List.length_append]; omega
  · simp

set_option maxHeartbeats 2000000 in
set_option maxRecDepth 100000 in
theorem lawPutObj_walk (o : ObjV) (aI : Option Addr) (cI : Nat) (aR : Option Addr) (cR : Nat) (w : World) (hg : ErrT w) (hr : ReadsO w aI cI aR cR o) (hnI : o.ints.length ≤ maxLen) (hnR : o.refs.length ≤ maxLen) :
    Calls Tryd.prog 4 #[.agg #[.int .i64 o.kind, .slice aI o.ints.length cI, .slice aR o.refs.length cR]] w fun e w' => e = .returned (.bool true) ∧ Below w.heap.size w w' := by
  simp only [maxLen] at hnI hnR
  obtain ⟨W, hW, b0, hbW, hsW⟩ := boxes1 w [.int .i64 o.kind, .slice aI o.ints.length cI, .slice aR o.refs.length cR] 24
  have HSZ : Hid (_ ∨ _) := szObj_cases o
  have HPL : Hid (_ → _ → _) := putObj_len o
  go_enter Tryd.func4, Tryd.ntmps4
  go_wp2_with fail
  rw [hW.out]
  refine (szObj_any o aI cI aR cR 1048576 W (by omega) (by omega) (by omega)).mono ?_
  rintro e w1 ⟨rfl, hb1⟩
  have hs1 := hb1.size
  have B1 : Below w.heap.size w w1 := hbW.trans (hb1.mono hbW.size)
  have b1 := b0.below hb1 b0.lt
  rcases HSZ.out with hs | ⟨hs, hl1, hl2⟩
  · generalize szObjOf o 1048576 = left at *
    go_wp2
    go_ret
    exact ⟨rfl, B1⟩
  generalize szObjOf o 1048576 = left at *
  have hpl := HPL.out hl1 hl2
  -- box A: kept as long as nothing below w.heap.size + 1 is written
  have hA : ∀ w', Below (w.heap.size + 1) w1 w' → w'.cell? ⟨w.heap.size, 0, none⟩ = some (.int .i64 o.kind) ∧ w'.cell? ⟨w.heap.size, 1, none⟩ = some (.slice aI o.ints.length cI) ∧ w'.cell? ⟨w.heap.size, 2, none⟩ = some (.slice aR o.refs.length cR) :=
    fun w' hh => ⟨(b1.below hh (by omega)).cell 0 _ rfl, (b1.below hh (by omega)).cell 1 _ rfl, (b1.below hh (by omega)).cell 2 _ rfl⟩
  have hRd : ∀ w', Below (w.heap.size + 1) w1 w' → ReadsO w' aI cI aR cR o := fun w' hh => hr.below (B1.trans (hh.mono (by omega)))
  have hgB : ∀ w', Below (w.heap.size + 1) w1 w' → ErrT w' := fun w' hh => hg.keep (B1.trans (hh.mono (by omega)))
  obtain ⟨x0, x1, x2⟩ := hA w1 (Below.refl _ _)
  go_wp2_with fail
  refine (toObj_own o aI cI aR cR w1 (hRd w1 (Below.refl _ _)) (by omega) (by omega)).mono ?_
  rintro e w2 ⟨pI, dI, pR, dR, rfl, ho2, hb2⟩
  go_wp2_with fail
  refine (specPutObj_any o pI dI pR dR w2 ho2.reads (by omega) (by omega)).mono ?_
  rintro e w3 ⟨aw, cw, yw, rfl, HYW, how, hb3⟩
  have ow3 := how.spanned
  have hs2 := hb2.size
  have hs3 := hb3.size
  have K3 : Below w1.heap.size w1 w3 := hb2.trans (hb3.mono hb2.size)
  have K3' : Below (w.heap.size + 1) w1 w3 := K3.mono (by omega)
  obtain ⟨y0, y1, y2⟩ := hA w3 K3'
  have hywl : yw.length ≤ 1000000000 := by rw [HYW.out]; exact hpl
  go_wp2_with fail
  refine (toObj_own o aI cI aR cR w3 (hRd w3 K3') (by omega) (by omega)).mono ?_
  rintro e w4 ⟨qI, eI, qR, eR, rfl, ho4, hb4⟩
  have hs4 := hb4.size
  go_wp2_with fail
  obtain ⟨W5, hW5, bX, hbW5, hsW5⟩ := boxes1 w4 [.int .i64 o.kind, .slice qI o.ints.length eI, .slice qR o.refs.length eR] 27
  rw [hW5.out]
  clear hW5
  refine (implPutObj_any o qI eI qR eR W5 (hgB W5 (K3'.trans ((hb4.trans (hbW5.mono hs4)).mono (by omega)))) (ho4.reads.below hbW5) (by omega) (by omega)).mono ?_
  rintro e w6 ⟨ag, cg, yg, rfl, HYG, hog, hb6⟩
  obtain rfl : yg = yw := by rw [HYG.out, HYW.out]
  clear HYG
  have hs6 := hb6.size
  have og6 := hog.spanned
  have N36 : Below w3.heap.size w3 w6 := (hb4.trans (hbW5.mono hs4)).trans (hb6.mono (by omega))
  have ow6 := ow3.below N36
  have ox6 : OwnO w6 w3.heap.size w4.heap.size qI eI qR eR o := (ho4.below hbW5).below hb6
  have bX6 := bX.below hb6 bX.lt
  have K6 : Below (w.heap.size + 1) w1 w6 := K3'.trans (N36.mono (by omega))
  go_wp2_with fail
  refine (eqByteS_same ag aw cg cw yg w6 og6.reads ow6.reads (by omega)).mono ?_
  rintro e w7 ⟨rfl, n7, rfl⟩
  have N67 : Below w6.heap.size w6 (w6.drewN n7) := below_drewN (Below.refl _ _) n7
  have og7 := og6.below N67
  have ow7 := ow6.below N67
  have ox7 := ox6.below N67
  have bX7 := bX6.below N67 bX6.lt
  have K7 : Below (w.heap.size + 1) w1 (w6.drewN n7) := K6.trans (N67.mono (by omega))
  have hs7 : w6.heap.size ≤ (w6.drewN n7).heap.size := N67.size
  generalize w6.drewN n7 = w7 at *
  clear og6 ow6 ox6 bX6 hog how ho4 ho2 bX
  have hk : ∀ w', Below w7.heap.size w7 w' → (w'.cell? ⟨w.heap.size, 0, none⟩ = some (.int .i64 o.kind) ∧ w'.cell? ⟨w.heap.size, 1, none⟩ = some (.slice aI o.ints.length cI) ∧ w'.cell? ⟨w.heap.size, 2, none⟩ = some (.slice aR o.refs.length cR)) ∧ (w'.cell? ⟨w4.heap.size, 0, none⟩ = some (.int .i64 o.kind) ∧ w'.cell? ⟨w4.heap.size, 1, none⟩ = some (.slice qI o.ints.length eI) ∧ w'.cell? ⟨w4.heap.size, 2, none⟩ = some (.slice qR o.refs.length eR)) :=
    fun w' hh => ⟨hA w' (K7.trans (hh.mono (by omega))), ⟨(bX7.below hh bX7.lt).cell 0 _ rfl, (bX7.below hh bX7.lt).cell 1 _ rfl, (bX7.below hh bX7.lt).cell 2 _ rfl⟩⟩
  have hr7 := hRd w7 K7
  have hh := hk w7 (Below.refl _ _)
  go_wp2_with fail
  go_region_held3 (fun w' => (w'.cell? ⟨w.heap.size, 0, none⟩ = some (.int .i64 o.kind) ∧ w'.cell? ⟨w.heap.size, 1, none⟩ = some (.slice aI o.ints.length cI) ∧ w'.cell? ⟨w.heap.size, 2, none⟩ = some (.slice aR o.refs.length cR)) ∧ (w'.cell? ⟨w4.heap.size, 0, none⟩ = some (.int .i64 o.kind) ∧ w'.cell? ⟨w4.heap.size, 1, none⟩ = some (.slice qI o.ints.length eI) ∧ w'.cell? ⟨w4.heap.size, 2, none⟩ = some (.slice qR o.refs.length eR)))
    (first | exact hk _ hw9 | exact hk _ hw8 | go_keep)
    (first
    | (go_at_call 7; refine (toObj_own o aI cI aR cR _ hr7.drew (by omega) (by omega)).mono ?_; rintro e w8 ⟨zI, fI, zR, fR, rfl, ho8, hb8⟩; have hw8 : Below w7.heap.size w7 w8 := (Below.refl _ _).drew.trans hb8)
    | (go_at_call 9; refine (eqObj_same o qI eI qR eR zI fI zR fR w8 (ox7.below hw8).reads ho8.reads (by omega) (by omega)).mono ?_; rintro e w9 ⟨rfl, hb9⟩; have hw9 : Below w7.heap.size w7 w9 := hw8.trans (hb9.mono hw8.size)))
  have og9 := og7.below hw9
  have ow9 := ow7.below hw9
  have ox9 := ox7.below hw9
  have bX9 := bX7.below hw9 bX7.lt
  have K9 : Below (w.heap.size + 1) w1 w9 := K7.trans (hw9.mono (by omega))
  have hs9 := hw9.size
  clear hk hh og7 ow7 ox7 bX7 ho8 hb8 hw8 hb9 hr7
  have z0 := bX9.cell 0 _ rfl
  have z1 := bX9.cell 1 _ rfl
  have z2 := bX9.cell 2 _ rfl
  go_wp2_with fail
  refine (markObj_own o w3.heap.size w4.heap.size qI eI qR eR 1 w9 ox9 (by omega) (by omega) (by omega) (by omega)).mono ?_
  rintro e w10 ⟨rfl, ox10, hw10⟩
  have og10 : OwnR w10 W5.heap.size w6.heap.size ag cg yg := og9.within hw10 (.inr (by omega))
  have ow10 : OwnR w10 w2.heap.size w3.heap.size aw cw yg := ow9.within hw10 (.inl (Nat.le_refl _))
  have K10 : Below (w.heap.size + 1) w1 w10 := K9.trans (hw10.below (by omega) (by omega))
  have hs10 := hw10.size
  clear og9 ow9 ox9
  go_wp2_with fail
  refine (eqByteS_same ag aw cg cw yg w10 og10.reads ow10.reads (by omega)).mono ?_
  rintro e w11 ⟨rfl, n11, rfl⟩
  have N11 : Below w10.heap.size w10 (w10.drewN n11) := below_drewN (Below.refl _ _) n11
  have og11 := og10.below N11
  have ow11 := ow10.below N11
  have K11 : Below (w.heap.size + 1) w1 (w10.drewN n11) := K10.trans (N11.mono (by omega))
  have hs11 : w10.heap.size ≤ (w10.drewN n11).heap.size := N11.size
  generalize w10.drewN n11 = w11 at *
  go_wp2_with fail
  refine (markByteS_r W5.heap.size w6.heap.size ag cg 1 yg w11 og11 (by omega) (by omega)).mono ?_
  rintro e w12 ⟨mg, rfl, hmg, omg, hw12⟩
  have ow12 : OwnR w12 w2.heap.size w3.heap.size aw cw yg := ow11.within hw12 (.inl (by omega))
  have K12 : Below (w.heap.size + 1) w1 w12 := K11.trans (hw12.below (by omega) (by omega))
  have hs12 := hw12.size
  go_wp2_with fail
  refine (heldByteS_r W5.heap.size w6.heap.size ag cg 1 yg.length mg w12 omg hmg (by omega) (by omega)).mono ?_
  rintro e w12' ⟨rfl, rfl⟩
  obtain ⟨v0, v1, v2⟩ := hA _ K12
  go_wp2_with fail
  refine (toObj_own o aI cI aR cR _ (hRd _ K12) (by omega) (by omega)).mono ?_
  rintro e w13 ⟨rI, gI, rR, gR, rfl, ho13, hb13⟩
  go_wp2_with fail
  refine (implPutObj_any o rI gI rR gR w13 (hgB _ (K12.trans (hb13.mono (by have := K12.size; omega)))) ho13.reads (by omega) (by omega)).mono ?_
  rintro e w14 ⟨ah, ch, yh, rfl, HYH, hoh, hb14⟩
  obtain rfl : yh = yg := by rw [HYH.out, HYW.out]
  have N14 : Below w12'.heap.size w12' w14 := hb13.trans (hb14.mono hb13.size)
  have ow14 := ow12.below N14
  have omg14 := omg.below N14
  have K14 : Below (w.heap.size + 1) w1 w14 := K12.trans (N14.mono (by omega))
  go_wp2_with fail
  refine (eqByteS_same ah aw ch cw yh w14 hoh.reads ow14.reads (by omega)).mono ?_
  rintro e w15 ⟨rfl, n15, rfl⟩
  go_wp2_with fail
  refine (heldByteS_r W5.heap.size w6.heap.size ag cg 1 yh.length mg (w14.drewN n15) (omg14.below (below_drewN (Below.refl _ _) n15)) hmg (by omega) (by omega)).mono ?_
  rintro e w16 ⟨rfl, rfl⟩
  go_wp2
  go_ret
  exact ⟨rfl, below_drewN (B1.trans (K14.mono (by omega))) n15⟩
end Go.Proofs.YtdibmepjbabnnabDoor
