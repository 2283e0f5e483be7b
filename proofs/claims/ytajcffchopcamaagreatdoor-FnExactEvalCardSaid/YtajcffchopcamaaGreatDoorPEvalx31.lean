/- Several texts in one, in their order. -/
import Derived.Test.YtajcffchopcamaaGreatDoorPEvalx28
import Derived.Test.YtajcffchopcamaaGreatDoorPEvalx29
import Derived.Test.YtajcffchopcamaaGreatDoorPEvalx30
import Derived.Deep.RegionHeld3
import Derived.Test.YtajcffchopcamaaGreatDoorRows
import Derived.Test.YtajcffchopcamaaGreatDoorPEvalx24
import Derived.LaidLaws
import Derived.LaidHandle
import Derived.Stop.Joined
import Derived.ChangeVars
/- The walk of laws.FnExactEval. -/
namespace Go.Proofs.YtajcffchopcamaaGreatDoor
open Go.RowKit

theorem evalV_len (vs : List SlotV) (x : Int) (T : List StepV) : (evalV vs x T).length ≤ 32 := by
  unfold evalV
  split
  · exact reachTo_len _ 32
  · simp

set_option maxHeartbeats 1000000 in
set_option maxRecDepth 100000 in
theorem szPath_at (x : Int) (T : List StepV) (a : Option Addr) (c : Nat) (L : Int) (w : World) (hn : T.length ≤ 9223372036854775807) (hL : 0 ≤ L ∧ L ≤ 1048576) :
    Calls Tryz.prog 16 #[.agg #[.int .i64 x, .slice a T.length c], .int .i64 L] w fun e w' => ∃ left : Int, e = .returned (.int .i64 left) ∧ (left < 0 ∨ (0 ≤ left ∧ T.length ≤ 1048576)) ∧ Below w.heap.size w w' := by
  obtain ⟨W, hW, b0, hbW, hsW⟩ := boxes1 w [.int .i64 x, .slice a T.length c] 48
  have c1 := b0.cell 1 _ rfl
  clear b0 hsW
  obtain ⟨hL0, hL1⟩ := hL
  by_cases h : L - T.length < 0
  · have C : ∀ u, Calls Tryz.prog 45 #[.slice a T.length c, .int .i64 L] u fun e w' => e = .returned (.int .i64 (-1)) ∧ w' = u := fun u => by
      go_enter Tryz.func45, Tryz.ntmps45
      go_wp2
      go_ret
      exact ⟨rfl, rfl⟩
    go_enter Tryz.func16, Tryz.ntmps16
    go_wp2_with fail
    rw [hW.out]
    refine (C W).mono ?_
    rintro e w' ⟨rfl, rfl⟩
    go_wp2
    go_ret
    exact ⟨-1, rfl, .inl (by omega), hbW⟩
  · have C : ∀ u, Calls Tryz.prog 45 #[.slice a T.length c, .int .i64 L] u fun e w' => e = .returned (.int .i64 (L - T.length)) ∧ w' = u := fun u => by
      go_enter Tryz.func45, Tryz.ntmps45
      go_wp2
      go_ret
      exact ⟨rfl, rfl⟩
    go_enter Tryz.func16, Tryz.ntmps16
    go_wp2_with fail
    rw [hW.out]
    refine (C W).mono ?_
    rintro e w' ⟨rfl, rfl⟩
    go_wp2
    go_ret
    exact ⟨L - T.length, rfl, .inr ⟨by omega, by omega⟩, hbW⟩

set_option maxHeartbeats 4000000 in
set_option maxRecDepth 100000 in
theorem lawEval_walk (a : Option Addr) (c : Nat) (ss : List SlotA) (p : PathA) (w : World) (hg : ErrT w) (hr : ReadsVw w a ss) (hin : ∀ s ∈ ss, InSlot w s) (hlen : ss.length ≤ maxLen) (hp : InPath w p) :
    Calls Tryz.prog 4 #[.slice a ss.length c, .agg #[.int .i64 p.frm, .slice p.a p.steps.length p.c]] w fun e w' => e = .returned (.bool true) ∧ Below w.heap.size w w' := by
  have hsm : ∀ r ∈ ss, r.short 9223372036854775807 := fun r hr => ⟨Nat.le_trans (hin r hr).lI (by simp [maxLen]), Nat.le_trans (hin r hr).lR (by simp [maxLen])⟩
  have hn : ss.length ≤ 9223372036854775807 := by simp only [maxLen] at hlen; omega
  obtain ⟨x, T, aT, cT⟩ := p
  obtain ⟨hT, hTlen, _, _⟩ := hp
  simp only at *
  have hTn : T.length ≤ 9223372036854775807 := by simp only [maxLen] at hTlen; omega
  obtain ⟨W, hW, bP, hbW, hsW⟩ := boxes1 w [.int .i64 x, .slice aT T.length cT] 48
  have HBP : Hid (∀ u, Below W.heap.size W u → u.cell? ⟨w.heap.size, 0, none⟩ = some (.int .i64 x) ∧ u.cell? ⟨w.heap.size, 1, none⟩ = some (.slice aT T.length cT)) := fun u hu => ⟨(bP.below hu bP.lt).cell 0 _ rfl, (bP.below hu bP.lt).cell 1 _ rfl⟩
  have HRV : Hid (∀ u, Below W.heap.size W u → ReadsVw u a ss) := fun u hu => (hr.below hbW).below hu
  have HRT : Hid (∀ u, Below W.heap.size W u → ReadsPh u aT T) := fun u hu => (hT.below hbW).below hu
  have HEND : Hid (∀ u, Below W.heap.size W u → Below w.heap.size w u) := fun u hu => hbW.trans (hu.mono hbW.size)
  have HERR : Hid (∀ u, Below W.heap.size W u → ErrT u) := fun u hu => hg.keep (hbW.trans (hu.mono hbW.size))
  clear hlen hin hTlen hr hT hg bP hsW hbW
  go_enter Tryz.func4, Tryz.ntmps4
  go_upto_region 1 with fail
  rw [hW.out]
  clear hW
  go_wp2_with fail
  refine (szSlotS_any a c ss 1048576 W (HRV.out W (Below.refl _ _)) hn hsm (by omega)).mono ?_
  rintro e w1 ⟨left, rfl, hcase, hb1⟩
  rcases hcase with hs | ⟨hs, hs2, hl, hsh⟩
  · go_wp2
    go_ret
    exact ⟨rfl, HEND.out _ hb1⟩
  have hzn : ¬ left < 0 := by omega
  have hfit : Fit ss := Fit.of_short hsh
  clear hsm hn
  obtain ⟨p0, p1⟩ := HBP.out w1 hb1
  go_wp2_with fail
  refine (szPath_at x T aT cT left w1 hTn ⟨hs, by omega⟩).mono ?_
  rintro e w1' ⟨left2, rfl, hcase, hb1'⟩
  have K1 : Below W.heap.size W w1' := hb1.trans (hb1'.mono hb1.size)
  clear p0 p1 hb1 hb1'
  rcases hcase with ht | ⟨ht, hTl⟩
  · go_wp2
    go_ret
    exact ⟨rfl, HEND.out _ K1⟩
  have hzn2 : ¬ left2 < 0 := by omega
  have hTw : T.length ≤ 1099511627776 := by omega
  go_wp2_with fail
  have hh := HBP.out w1' K1
  go_region_held3 (fun u => u.cell? ⟨w.heap.size, 0, none⟩ = some (.int .i64 x) ∧ u.cell? ⟨w.heap.size, 1, none⟩ = some (.slice aT T.length cT))
    (first | exact HBP.out _ K3 | exact HBP.out _ K2p | exact HBP.out _ K2 | go_keep)
    (first
    | (go_at_call 17; refine (toSlotS_any a c ss _ (HRV.out _ K1.drew) hl hsh).mono ?_; rintro e w2 ⟨a2, c2, s2, rfl, he2, ho2, hb2⟩; have K2 : Below W.heap.size W w2 := K1.drew.trans (hb2.mono K1.drew.size))
    | (go_at_call 18; refine (toPath_own ⟨x, T, aT, cT⟩ w2 (HRT.out w2 K2) hTw).mono ?_; rintro e w2p ⟨a2p, c2p, rfl, ho2p, hb2p⟩; have K2p : Below W.heap.size W w2p := K2.trans (hb2p.mono K2.size); have ho2b := ho2.below hb2p)
    | (go_at_call 11; refine (specEval_any a2 c2 s2 x T a2p c2p w2p ho2b.reads (hfit.of_vs he2.out) ho2p.reads hTw).mono ?_; rintro e w3 hans; rw [vsOf, he2.out] at hans; obtain ⟨RV, HRVV⟩ : ∃ RV, Hid (evalV (ss.map SlotA.v) x T = RV) := ⟨_, rfl⟩; have hRl : RV.length ≤ 32 := (by rw [← HRVV.out]; exact evalV_len _ _ _); rw [HRVV.out] at hans; obtain ⟨a3, c3, rfl, ho3, hb3⟩ := hans; have K3 : Below W.heap.size W w3 := K2p.trans (hb3.mono K2p.size))
    | fail)
  clear ho2 ho2b ho2p he2 K2 K2p hh
  have z1 := hb3.size
  have z0 := K3.size
  go_wp2_with fail
  refine (toSlotS_any a c ss w3 (HRV.out w3 K3) hl hsh).mono ?_
  rintro e w4 ⟨a4, c4, s4, rfl, he4, ho4, hb4⟩
  have K4 : Below W.heap.size W w4 := K3.trans (hb4.mono K3.size)
  have hl4 : Hid (s4.length ≤ 1048576 ∧ ∀ r ∈ s4, r.short 1048576) := ⟨by rw [mapVw_len he4.out]; exact hl, short_of_vs hsh he4.out⟩
  replace ho3 := ho3.below hb4
  have z2 := hb4.size
  obtain ⟨p0, p1⟩ := HBP.out w4 K4
  go_wp2_with fail
  refine (toPath_own ⟨x, T, aT, cT⟩ w4 (HRT.out w4 K4) hTw).mono ?_
  rintro e w4p ⟨a4p, c4p, rfl, ho4p, hb4p⟩
  have K4p : Below W.heap.size W w4p := K4.trans (hb4p.mono K4.size)
  replace ho3 := ho3.below hb4p
  replace ho4 := ho4.below hb4p
  have z3 := hb4p.size
  clear p0 p1 K3 K4 hb3 hb2 hb2p hb4 hb4p
  obtain ⟨W5, hW5, bX, hbW5, hsW5⟩ := boxes1 w4p [.int .i64 x, .slice a4p T.length c4p] 27
  have K5 : Below W.heap.size W W5 := K4p.trans (hbW5.mono K4p.size)
  replace ho3 := ho3.below hbW5
  replace ho4 := ho4.below hbW5
  replace ho4p := ho4p.below hbW5
  have z4 : w4p.heap.size < W5.heap.size := bX.lt
  clear hsW5 hbW5 K4p
  go_upto_region 11 with fail
  rw [hW5.out]
  clear hW5
  have q0 := bX.cell 0 _ rfl
  have q1 := bX.cell 1 _ rfl
  go_wp2_with fail
  refine (implEval_any a4 c4 s4 x T a4p c4p W5 (HERR.out W5 K5) ho4.reads (by have := hl4.out.1; omega) (hfit.of_vs he4.out) ho4p.reads hTw).mono ?_
  rintro e w6 hans
  rw [vsOf, he4.out, HRVV.out] at hans
  obtain ⟨a5, c5, rfl, ho5, hb6⟩ := hans
  have K6 : Below W.heap.size W w6 := K5.trans (hb6.mono K5.size)
  replace ho3 := ho3.below hb6
  replace ho4 := ho4.below hb6
  replace ho4p := ho4p.below hb6
  replace bX := bX.below hb6 bX.lt
  have z5 := hb6.size
  have HBB : Hid (∀ x : Int, (x != x) = false) := fun x => by simp
  clear hb6 K5 q0 q1
  go_wp2_with fail
  refine (eqIntS_same a5 a3 c5 c3 RV w6 ho5.reads ho3.reads (by omega)).mono ?_
  rintro e w7 ⟨rfl, nq7, hq7⟩
  have d7 : Below w6.heap.size w6 w7 := by rw [hq7]; exact below_drewN (Below.refl _ _) nq7
  have K7 : Below W.heap.size W w7 := K6.trans (d7.mono K6.size)
  replace ho3 := ho3.below d7
  replace ho4 := ho4.below d7
  replace ho4p := ho4p.below d7
  replace ho5 := ho5.below d7
  replace bX := bX.below d7 bX.lt
  have z6 := d7.size
  clear hq7 d7 K6
  go_wp2_with fail
  refine (toSlotS_any a c ss w7 (HRV.out w7 K7) hl hsh).mono ?_
  rintro e w8 ⟨a8, c8, s8, rfl, he8, ho8, hb8⟩
  have K8 : Below W.heap.size W w8 := K7.trans (hb8.mono K7.size)
  replace ho3 := ho3.below hb8
  replace ho4 := ho4.below hb8
  replace ho4p := ho4p.below hb8
  replace ho5 := ho5.below hb8
  replace bX := bX.below hb8 bX.lt
  have z7 := hb8.size
  go_wp2_with fail
  refine (eqSlotS_same a4 a8 c4 c8 s4 s8 (he8.out.trans he4.out.symm) w8 ho4.reads ho8.reads (by have := hl4.out.1; omega) (short_mono hl4.out.2 (by decide))).mono ?_
  rintro e w9 ⟨rfl, hb9⟩
  have K9 : Below W.heap.size W w9 := K8.trans (hb9.mono K8.size)
  replace ho3 := ho3.below hb9
  replace ho4 := ho4.below hb9
  replace ho4p := ho4p.below hb9
  replace ho5 := ho5.below hb9
  replace bX := bX.below hb9 bX.lt
  have z8 := hb9.size
  clear ho8 he8 hb8 hb9 K7 K8
  have hlx := bX.lt
  have hk9 : ∀ u, Below w9.heap.size w9 u → (u.cell? ⟨w.heap.size, 0, none⟩ = some (.int .i64 x) ∧ u.cell? ⟨w.heap.size, 1, none⟩ = some (.slice aT T.length cT)) ∧ (u.cell? ⟨w4p.heap.size, 0, none⟩ = some (.int .i64 x) ∧ u.cell? ⟨w4p.heap.size, 1, none⟩ = some (.slice a4p T.length c4p)) := fun u hu => ⟨HBP.out u (K9.trans (hu.mono K9.size)), (bX.below hu hlx).cell 0 _ rfl, (bX.below hu hlx).cell 1 _ rfl⟩
  have HK9 : Hid (∀ u, Below w9.heap.size w9 u → (u.cell? ⟨w.heap.size, 0, none⟩ = some (.int .i64 x) ∧ u.cell? ⟨w.heap.size, 1, none⟩ = some (.slice aT T.length cT)) ∧ (u.cell? ⟨w4p.heap.size, 0, none⟩ = some (.int .i64 x) ∧ u.cell? ⟨w4p.heap.size, 1, none⟩ = some (.slice a4p T.length c4p))) := hk9
  clear hk9
  go_wp2_with fail
  have hh := HK9.out w9 (Below.refl _ _)
  go_region_held3 (fun u => (u.cell? ⟨w.heap.size, 0, none⟩ = some (.int .i64 x) ∧ u.cell? ⟨w.heap.size, 1, none⟩ = some (.slice aT T.length cT)) ∧ (u.cell? ⟨w4p.heap.size, 0, none⟩ = some (.int .i64 x) ∧ u.cell? ⟨w4p.heap.size, 1, none⟩ = some (.slice a4p T.length c4p)))
    (first | exact HK9.out _ hw11 | exact HK9.out _ hw10 | go_keep)
    (first
    | (go_at_call 18; refine (toPath_own ⟨x, T, aT, cT⟩ _ (HRT.out _ K9.drew) hTw).mono ?_; rintro e w10 ⟨z1', f1', rfl, ho10, hb10⟩; have hw10 : Below w9.heap.size w9 w10 := (Below.refl _ _).drew.trans hb10)
    | (go_at_call 21; refine (eqPath_same x T a4p z1' c4p f1' w10 (ho4p.below hw10).reads ho10.reads hTw).mono ?_; rintro e w11 ⟨rfl, hb11⟩; have hw11 : Below w9.heap.size w9 w11 := hw10.trans (hb11.mono hw10.size))
    | fail)
  clear ho10 hb10 hb11 hh HK9 hw10
  have K11 : Below W.heap.size W w11 := K9.trans (hw11.mono K9.size)
  replace ho3 := ho3.below hw11
  replace ho4 := ho4.below hw11
  replace ho4p := ho4p.below hw11
  replace ho5 := ho5.below hw11
  replace bX := bX.below hw11 bX.lt
  have z9 := hw11.size
  clear hw11 K9
  have hcn : Hid (countVs s4 ≤ 1048576 * 2097154) := by
    have h1 := countVs_short s4 hl4.out.2
    have h2 := hl4.out.1
    have h3 : s4.length * 2097154 ≤ 1048576 * 2097154 := Nat.mul_le_mul_right _ h2
    exact Nat.le_trans h1 h3
  go_wp2_with fail
  refine (markSlotS_touch w3.heap.size w4.heap.size a4 c4 1 s4 w11 ho4 (short_mono hl4.out.2 (by decide)) (by omega) (by have := hcn.out; omega)).mono ?_
  rintro e w12 ⟨rfl, ho12, ht12⟩
  have hw12 : Within w3.heap.size w4.heap.size w11 w12 := ht12.within (fun k hk => ho4.blocks_lt k hk)
  have K12 : Below W.heap.size W w12 := K11.trans (hw12.below (by have := K11.size; omega) (by omega))
  replace ho3 := ho3.within hw12 (.inl (Nat.le_refl _))
  replace ho4p := ho4p.within hw12 (.inr (Nat.le_refl _))
  replace ho5 := ho5.within hw12 (.inr (by omega))
  replace bX := bX.within hw12 (by omega)
  have z10 := hw12.size
  have hcn2 : Hid ((1 + (countVs s4 : Int)) + 2 * T.length ≤ 4611686018427387904) := by rw [Hid]; have := hcn.out; omega
  have hkk0 : (0 : Int) ≤ 1 + (countVs s4 : Int) := by omega
  clear ho12 ht12 hw12 ho4 K11 hcn
  generalize 1 + (countVs s4 : Int) = kk at *
  have q0 := bX.cell 0 _ rfl
  have q1 := bX.cell 1 _ rfl
  go_wp2_with fail
  refine (markPath_touch x T a4p c4p w4.heap.size w4p.heap.size kk w12 ho4p hkk0 hcn2.out).mono ?_
  rintro e w13 ⟨rfl, ho13, ht13⟩
  have hw13 : Within w4.heap.size w4p.heap.size w12 w13 := ht13.within (fun k hk => ho4p.lt k (Option.mem_toList.1 hk))
  have K13 : Below W.heap.size W w13 := K12.trans (hw13.below (by omega) (by omega))
  replace ho3 := ho3.within hw13 (.inl (by omega))
  replace ho5 := ho5.within hw13 (.inr (by omega))
  have z11 := hw13.size
  have hkn : ¬ (kk + 2 * (T.length : Int)) < 0 := by omega
  clear ho13 ht13 hw13 ho4p K12 hcn2 q0 q1 bX
  generalize kk + 2 * (T.length : Int) = k2 at *
  go_wp2_with fail
  refine (eqIntS_same a5 a3 c5 c3 RV w13 ho5.reads ho3.reads (by omega)).mono ?_
  rintro e w14 ⟨rfl, nq14, hq14⟩
  have d14 : Below w13.heap.size w13 w14 := by rw [hq14]; exact below_drewN (Below.refl _ _) nq14
  have K14 : Below W.heap.size W w14 := K13.trans (d14.mono K13.size)
  replace ho3 := ho3.below d14
  replace ho5 := ho5.below d14
  have z12 := d14.size
  clear hq14 d14 K13
  go_wp2_with fail
  refine (markIntS_touchV W5.heap.size w6.heap.size a5 c5 1 RV w14 ho5 (by omega) (by omega)).mono ?_
  rintro e w15 ⟨rfl, ho15, ht15⟩
  have hw15 : Within W5.heap.size w6.heap.size w14 w15 := ht15.within (fun k hk => ho5.lt k (Option.mem_toList.1 hk))
  have K15 : Below W.heap.size W w15 := K14.trans (hw15.below (by omega) (by omega))
  replace ho3 := ho3.within hw15 (.inl (by omega))
  have z13 := hw15.size
  clear ht15 hw15 ho5 K14
  go_wp2_with fail
  refine (heldIntS_any a5 c5 1 RV.length w15 ho15.reads (by omega) (by omega)).mono ?_
  rintro e w16 ⟨rfl, rfl⟩
  have hqn : ¬ (1 + (RV.length : Int)) < 0 := by omega
  have hqq := HBB.out (1 + (RV.length : Int))
  go_wp2_with fail
  have hh := HBP.out w16 K15
  go_region_held3 (fun u => u.cell? ⟨w.heap.size, 0, none⟩ = some (.int .i64 x) ∧ u.cell? ⟨w.heap.size, 1, none⟩ = some (.slice aT T.length cT))
    (first | exact HBP.out _ K19 | exact HBP.out _ K18 | exact HBP.out _ K17 | go_keep)
    (first
    | (go_at_call 17; refine (toSlotS_any a c ss _ (HRV.out _ K15.drew) hl hsh).mono ?_; rintro e w17 ⟨a17, c17, s17, rfl, he17, ho17, hb17⟩; have K17 : Below W.heap.size W w17 := K15.drew.trans (hb17.mono K15.drew.size))
    | (go_at_call 18; refine (toPath_own ⟨x, T, aT, cT⟩ w17 (HRT.out w17 K17) hTw).mono ?_; rintro e w18 ⟨a18, c18, rfl, ho18, hb18⟩; have K18 : Below W.heap.size W w18 := K17.trans (hb18.mono K17.size); have ho17b := ho17.below hb18)
    | (go_at_call 9; refine (implEval_any a17 c17 s17 x T a18 c18 w18 (HERR.out w18 K18) ho17b.reads (by rw [mapVw_len he17.out]; omega) (hfit.of_vs he17.out) ho18.reads hTw).mono ?_; rintro e w19 hans; rw [vsOf, he17.out, HRVV.out] at hans; obtain ⟨a19, c19, rfl, ho19, hb19⟩ := hans; have K19 : Below W.heap.size W w19 := K18.trans (hb19.mono K18.size))
    | fail)
  have K16d : Below w16.heap.size w16 w19 := ((Below.refl _ _).drew.trans hb17).trans ((hb18.trans (hb19.mono hb18.size)).mono hb17.size)
  replace ho3 := ho3.below K16d
  replace ho15 := ho15.below K16d
  clear ho17 ho17b ho18 hb17 hb18 hb19 K17 K18 K15 K16d hh he17
  go_wp2_with fail
  refine (eqIntS_same a19 a3 c19 c3 RV w19 ho19.reads ho3.reads (by omega)).mono ?_
  rintro e w20 ⟨rfl, nq20, hq20⟩
  have d20 : Below w19.heap.size w19 w20 := by rw [hq20]; exact below_drewN (Below.refl _ _) nq20
  have K20 : Below W.heap.size W w20 := K19.trans (d20.mono K19.size)
  replace ho15 := ho15.below d20
  clear hq20 d20 K19 ho3 ho19
  go_wp2_with fail
  refine (heldIntS_any a5 c5 1 RV.length w20 ho15.reads (by omega) (by omega)).mono ?_
  rintro e w21 ⟨rfl, rfl⟩
  go_wp2
  go_ret
  exact ⟨rfl, HEND.out _ K20⟩
end Go.Proofs.YtajcffchopcamaaGreatDoor

/- What the row's condition on errors.errorType gives a walk; a world that meets it. -/
namespace Go.Proofs.YtajcffchopcamaaGreatDoor
open Go.ChangeShapes Go.WideShapes Go.RowKit

theorem Tryz.et : Tryz.prog.globalNamed "errors.errorType" = some 6 := by kernel_rfl
theorem Tryz.rt : (Tryz.prog.cutTypes.find? (·.1 == "internal/reflectlite.rtype")).map (·.2) = some 216 := by kernel_rfl
theorem Tryz.oneRow : ((List.range 257).filter fun t => Tryz.prog.rowNamed t [101, 114, 114, 111, 114]) = [127] := by kernel_rfl
theorem Tryz.typesSize : Tryz.prog.types.size = 257 := by kernel_rfl

theorem errT_of_handles {W : World} {laid : List (String × DataW Unit)} (hm : ("errors.errorType", Rows.laid_errors_errorType) ∈ laid) (h : handlesMet Tryz.prog laid W) : ErrT W := by
  obtain ⟨name, u, ty, e1, e2, e3, e4, e5⟩ := h _ hm
  have en : name = [101, 114, 114, 111, 114] := (Option.some.inj e1).symm
  subst en
  obtain rfl := Option.some.inj (Tryz.rt.symm.trans e2)
  have hm : ty ∈ (List.range 257).filter fun t => Tryz.prog.rowNamed t [101, 114, 114, 111, 114] := List.mem_filter.2 ⟨List.mem_range.2 (by rw [← Tryz.typesSize]; exact e3), e4⟩
  rw [Tryz.oneRow] at hm
  obtain rfl := List.mem_singleton.1 hm
  have hh : typeHandle Tryz.prog 127 = .pointer (some ⟨7, 127, none⟩) := by kernel_rfl
  rw [hh] at e5
  unfold ErrT
  simpa using World.var?_cell Tryz.et e5 0

/-- The one listed variable. -/
def laid1 : List (String × DataW Unit) := [("errors.errorType", Rows.laid_errors_errorType)]
theorem errT_of_laid1 {W : World} (h : laidMetH Tryz.prog laid1 W) : ErrT W := by
  have h' : laidMet Tryz.prog [] W ∧ handlesMet Tryz.prog laid1 W := h
  exact errT_of_handles (List.mem_singleton.2 rfl) h'.2
end Go.Proofs.YtajcffchopcamaaGreatDoor
