/- Several texts in one, in their order. -/
import Derived.Test.YtgbpnepipknjnaaDoorPMarkx15
import Derived.Test.YtgbpnepipknjnaaDoorPMarkx13
import Derived.Test.YtgbpnepipknjnaaDoorRows
import Derived.Test.YtgbpnepipknjnaaDoorPMarkx14
import Derived.LaidLaws
import Derived.LaidHandle
import Derived.Stop.Joined
import Derived.ChangeVars
/- The walk of laws.FnExactMark. -/
namespace Go.Proofs.YtgbpnepipknjnaaDoor
open Go.RowKit

theorem markV_len (vs : List SlotV) (root most : Int) : (markV vs root most).1.length ≤ 32 := by
  unfold markV
  split
  · rename_i h
    simp only [Bool.and_eq_true] at h
    have h1 : 1 ≤ root ∧ root ≤ 31 := by simpa [inB] using h.2.1
    have h2 : 1 ≤ most ∧ most ≤ 40 := by simpa [inB] using h.2.2
    have := runM_len (viewB_rng h.1) (most := most.toNat) (root := root) (by omega) (by omega)
    simp only
    omega
  · simp
theorem countVs_short (ss : List SlotA) (hl : ∀ r ∈ ss, r.short 1048576) : countVs ss ≤ ss.length * 2097154 := by
  induction ss with
  | nil => simp [countVs]
  | cons s r ih =>
    have h1 := hl s (by simp)
    have h2 := ih (fun x hx => hl x (by simp [hx]))
    simp only [countVs, countV1, List.length_cons]
    have := h1.1
    have := h1.2
    omega

set_option maxHeartbeats 2000000 in
set_option maxRecDepth 100000 in
theorem lawMark_walk (a : Option Addr) (c : Nat) (ss : List SlotA) (root most : Int) (w : World) (hg : ErrT w) (hr : ReadsVw w a ss) (hin : ∀ s ∈ ss, InSlot w s) (hlen : ss.length ≤ maxLen) :
    Calls Tryd.prog 7 #[.slice a ss.length c, .int .i64 root, .int .i64 most] w fun e w' => e = .returned (.bool true) ∧ Below w.heap.size w w' := by
  have hsm : ∀ r ∈ ss, r.short 9223372036854775807 := fun r hr => ⟨Nat.le_trans (hin r hr).lI (by simp [maxLen]), Nat.le_trans (hin r hr).lR (by simp [maxLen])⟩
  have hn : ss.length ≤ 9223372036854775807 := by simp only [maxLen] at hlen; omega
  clear hlen hin
  go_enter Tryd.func7, Tryd.ntmps7
  go_wp2_with fail
  refine (szSlotS_any a c ss 1048576 w hr hn hsm (by omega)).mono ?_
  rintro e w1 ⟨left, rfl, hcase, hb1⟩
  rcases hcase with hs | ⟨hs, _, hl, hsh⟩
  · go_wp2
    go_ret
    exact ⟨rfl, hb1⟩
  have hzn : ¬ left < 0 := by omega
  have hfit : Fit ss := Fit.of_short hsh
  have hr1 := hr.below hb1
  clear hsm hn hs
  go_wp2_with fail
  refine (toSlotS_any a c ss w1 hr1 hl hsh).mono ?_
  rintro e w2 ⟨a2, c2, s2, rfl, he2, ho2, hb2⟩
  go_wp2_with fail
  refine (specMark_any a2 c2 s2 root most w2 ho2.reads (hfit.of_vs he2.out)).mono ?_
  rintro e w3 hans
  rw [vsOf, he2.out] at hans
  obtain ⟨RV, HRV⟩ : ∃ RV, Hid (markV (ss.map SlotA.v) root most = RV) := ⟨_, rfl⟩
  have hRl : RV.1.length ≤ 32 := by rw [← HRV.out]; exact markV_len _ _ _
  rw [HRV.out] at hans
  obtain ⟨a3, c3, rfl, ho3, hb3⟩ := hans
  have K3 : Below w1.heap.size w1 w3 := hb2.trans (hb3.mono hb2.size)
  go_wp2_with fail
  refine (toSlotS_any a c ss w3 (hr1.below K3) hl hsh).mono ?_
  rintro e w4 ⟨a4, c4, s4, rfl, he4, ho4, hb4⟩
  have K4 : Below w1.heap.size w1 w4 := K3.trans (hb4.mono K3.size)
  have hl4 : Hid (s4.length ≤ 1048576 ∧ ∀ r ∈ s4, r.short 1048576) := ⟨by rw [mapVw_len he4.out]; exact hl, short_of_vs hsh he4.out⟩
  have hB4 : Below w.heap.size w w4 := hb1.trans (K4.mono hb1.size)
  have ho34 := (ho3.below hb4).widen (Nat.le_refl _) (Nat.le_refl _) hb4.size
  go_wp2_with fail
  refine (implMark_any a4 c4 s4 root most w4 (hg.keep hB4) ho4.reads (by have := hl4.out.1; omega) (hfit.of_vs he4.out)).mono ?_
  rintro e w5 hans
  rw [vsOf, he4.out, HRV.out] at hans
  obtain ⟨a5, c5, rfl, ho5, hb5⟩ := hans
  have K5 : Below w1.heap.size w1 w5 := K4.trans (hb5.mono K4.size)
  have z1 := hb2.size
  have z2 := hb3.size
  have z3 := hb4.size
  have z4 := hb5.size
  replace ho3 := ho34.below hb5
  replace ho4 := ho4.below hb5
  have HBB : Hid (∀ x : Int, (x != x) = false) := fun x => by simp
  clear ho2 hb2 hb3 hb4 hb5 K3 K4 he2 ho34 hB4
  go_wp2_with fail
  refine (eqBoolS_same a5 a3 c5 c3 RV.1 w5 ho5.reads ho3.reads (by omega)).mono ?_
  rintro e w6 ⟨rfl, nq6, hq6⟩
  have d6 : Below w5.heap.size w5 w6 := by rw [hq6]; exact below_drewN (Below.refl _ _) nq6
  have K6 : Below w1.heap.size w1 w6 := K5.trans (d6.mono K5.size)
  replace ho3 := ho3.below d6
  replace ho4 := ho4.below d6
  replace ho5 := ho5.below d6
  have z5 := d6.size
  have hxx := HBB.out RV.2
  clear hq6 d6 K5
  go_wp2_with fail
  refine (toSlotS_any a c ss w6 (hr1.below K6) hl hsh).mono ?_
  rintro e w7 ⟨a7, c7, s7, rfl, he7, ho7, hb7⟩
  have K7 : Below w1.heap.size w1 w7 := K6.trans (hb7.mono K6.size)
  replace ho3 := ho3.below hb7
  replace ho4 := ho4.below hb7
  replace ho5 := ho5.below hb7
  have z6 := hb7.size
  go_wp2_with fail
  refine (eqSlotS_same a4 a7 c4 c7 s4 s7 (he7.out.trans he4.out.symm) w7 ho4.reads ho7.reads (by have := hl4.out.1; omega) (short_mono hl4.out.2 (by decide))).mono ?_
  rintro e w8 ⟨rfl, hb8⟩
  have K8 : Below w1.heap.size w1 w8 := K7.trans (hb8.mono K7.size)
  replace ho3 := ho3.below hb8
  replace ho4 := ho4.below hb8
  replace ho5 := ho5.below hb8
  have z7 := hb8.size
  have hcn : Hid (countVs s4 ≤ 1048576 * 2097154) := by
    have h1 := countVs_short s4 hl4.out.2
    have h2 := hl4.out.1
    have h3 : s4.length * 2097154 ≤ 1048576 * 2097154 := Nat.mul_le_mul_right _ h2
    exact Nat.le_trans h1 h3
  clear ho7 hb7 hb8 K6 K7
  go_wp2_with fail
  refine (markSlotS_touch w3.heap.size w4.heap.size a4 c4 1 s4 w8 ho4 (short_mono hl4.out.2 (by decide)) (by omega) (by have := hcn.out; omega)).mono ?_
  rintro e w9 ⟨rfl, ho9, ht9⟩
  have hw9 : Within w3.heap.size w4.heap.size w8 w9 := ht9.within (fun k hk => ho4.blocks_lt k hk)
  have K9 : Below w1.heap.size w1 w9 := K8.trans (hw9.below (by omega) (by omega))
  replace ho3 := ho3.within hw9 (.inl (Nat.le_refl _))
  replace ho5 := ho5.within hw9 (.inr (Nat.le_refl _))
  have z8 := hw9.size
  have hkn : ¬ (1 + (countVs s4 : Int)) < 0 := by omega
  clear ho9 ht9 hw9 ho4 K8 hcn
  generalize 1 + (countVs s4 : Int) = kk at *
  go_wp2_with fail
  refine (eqBoolS_same a5 a3 c5 c3 RV.1 w9 ho5.reads ho3.reads (by omega)).mono ?_
  rintro e w10 ⟨rfl, nq10, hq10⟩
  have d10 : Below w9.heap.size w9 w10 := by rw [hq10]; exact below_drewN (Below.refl _ _) nq10
  have K10 : Below w1.heap.size w1 w10 := K9.trans (d10.mono K9.size)
  replace ho3 := ho3.below d10
  replace ho5 := ho5.below d10
  have z9 := d10.size
  clear hq10 d10 K9
  go_wp2_with fail
  refine (markBoolS_touch w4.heap.size w5.heap.size a5 c5 1 RV.1 w10 ho5 (by omega) (by omega)).mono ?_
  rintro e w11 ⟨rfl, ho11, ht11⟩
  have hw11 : Within w4.heap.size w5.heap.size w10 w11 := ht11.within (fun k hk => ho5.lt k (Option.mem_toList.1 hk))
  have K11 : Below w1.heap.size w1 w11 := K10.trans (hw11.below (by omega) (by omega))
  replace ho3 := ho3.within hw11 (.inl (by omega))
  have z10 := hw11.size
  clear ht11 hw11 ho5 K10
  go_wp2_with fail
  refine (heldBoolS_any a5 c5 1 RV.1.length w11 ho11.reads (by omega) (by omega)).mono ?_
  rintro e w12 ⟨rfl, rfl⟩
  have hqn : ¬ (1 + (RV.1.length : Int)) < 0 := by omega
  have hqq := HBB.out (1 + (RV.1.length : Int))
  go_wp2_with fail
  refine (toSlotS_any a c ss w12 (hr1.below K11) hl hsh).mono ?_
  rintro e w13 ⟨a13, c13, s13, rfl, he13, ho13, hb13⟩
  have K13 : Below w1.heap.size w1 w13 := K11.trans (hb13.mono K11.size)
  replace ho3 := ho3.below hb13
  replace ho11 := ho11.below hb13
  have z11 := hb13.size
  have hB13 : Below w.heap.size w w13 := hb1.trans (K13.mono hb1.size)
  clear hb13 K11
  go_wp2_with fail
  refine (implMark_any a13 c13 s13 root most w13 (hg.keep hB13) ho13.reads (by rw [mapVw_len he13.out]; omega) (hfit.of_vs he13.out)).mono ?_
  rintro e w14 hans
  rw [vsOf, he13.out, HRV.out] at hans
  obtain ⟨a14, c14, rfl, ho14, hb14⟩ := hans
  have K14 : Below w1.heap.size w1 w14 := K13.trans (hb14.mono K13.size)
  replace ho3 := ho3.below hb14
  replace ho11 := ho11.below hb14
  clear hb14 K13 hB13 ho13
  go_wp2_with fail
  refine (eqBoolS_same a14 a3 c14 c3 RV.1 w14 ho14.reads ho3.reads (by omega)).mono ?_
  rintro e w15 ⟨rfl, nq15, hq15⟩
  have d15 : Below w14.heap.size w14 w15 := by rw [hq15]; exact below_drewN (Below.refl _ _) nq15
  have K15 : Below w1.heap.size w1 w15 := K14.trans (d15.mono K14.size)
  replace ho11 := ho11.below d15
  clear hq15 d15 K14 ho3 ho14
  go_wp2_with fail
  refine (heldBoolS_any a5 c5 1 RV.1.length w15 ho11.reads (by omega) (by omega)).mono ?_
  rintro e w16 ⟨rfl, rfl⟩
  go_wp2
  go_ret
  exact ⟨rfl, hb1.trans (K15.mono hb1.size)⟩
end Go.Proofs.YtgbpnepipknjnaaDoor

/- What the row's condition on errors.errorType gives a walk; a world that meets it. -/
namespace Go.Proofs.YtgbpnepipknjnaaDoor
open Go.ChangeShapes Go.WideShapes Go.RowKit

theorem Tryd.et : Tryd.prog.globalNamed "errors.errorType" = some 0 := by kernel_rfl
theorem Tryd.rt : (Tryd.prog.cutTypes.find? (·.1 == "internal/reflectlite.rtype")).map (·.2) = some 144 := by kernel_rfl
theorem Tryd.oneRow : ((List.range 186).filter fun t => Tryd.prog.rowNamed t [101, 114, 114, 111, 114]) = [102] := by kernel_rfl
theorem Tryd.typesSize : Tryd.prog.types.size = 186 := by kernel_rfl

theorem errT_of_handles {W : World} {laid : List (String × DataW Unit)} (hm : ("errors.errorType", Rows.laid_errors_errorType) ∈ laid) (h : handlesMet Tryd.prog laid W) : ErrT W := by
  obtain ⟨name, u, ty, e1, e2, e3, e4, e5⟩ := h _ hm
  have en : name = [101, 114, 114, 111, 114] := (Option.some.inj e1).symm
  subst en
  obtain rfl := Option.some.inj (Tryd.rt.symm.trans e2)
  have hm : ty ∈ (List.range 186).filter fun t => Tryd.prog.rowNamed t [101, 114, 114, 111, 114] := List.mem_filter.2 ⟨List.mem_range.2 (by rw [← Tryd.typesSize]; exact e3), e4⟩
  rw [Tryd.oneRow] at hm
  obtain rfl := List.mem_singleton.1 hm
  have hh : typeHandle Tryd.prog 102 = .pointer (some ⟨1, 102, none⟩) := by kernel_rfl
  rw [hh] at e5
  unfold ErrT
  simpa using World.var?_cell Tryd.et e5 0

/-- The one listed variable. -/
def laid1 : List (String × DataW Unit) := [("errors.errorType", Rows.laid_errors_errorType)]
theorem errT_of_laid1 {W : World} (h : laidMetH Tryd.prog laid1 W) : ErrT W := by
  have h' : laidMet Tryd.prog [] W ∧ handlesMet Tryd.prog laid1 W := h
  exact errT_of_handles (List.mem_singleton.2 rfl) h'.2
end Go.Proofs.YtgbpnepipknjnaaDoor
