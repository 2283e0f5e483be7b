/- Several texts in one, in their order. -/
import Derived.Test.YtajcffchopcamaaGreatDoorPEvalx24
import Derived.Test.YtajcffchopcamaaGreatDoorPEvalx25
import Derived.Deep.RegionHeld3
/- The walk of spec.l12Comes. -/
namespace Go.Proofs.YtajcffchopcamaaGreatDoor
open Go.RowKit

theorem view_obj {w0 : World} {b off : Nat} {ss : List SlotA} (hr : ReadsVw w0 (some ⟨b, off, none⟩) ss) (h32 : ss.length = 32) (k : Nat) (hk : k < 32) :
    ∃ aI cI aR cR, ∀ u, Below w0.heap.size w0 u → u.cell? ⟨b, off + k * 4 + 1, none⟩ = some (.int .i64 (kindM (vsOf ss) k)) ∧ u.cell? ⟨b, off + k * 4 + 2, none⟩ = some (.slice aI (intsM (vsOf ss) k).length cI) ∧ u.cell? ⟨b, off + k * 4 + 3, none⟩ = some (.slice aR (refsM (vsOf ss) k).length cR) ∧ ReadsI u aI (intsM (vsOf ss) k) ∧ ReadsI u aR (refsM (vsOf ss) k) := by
  refine ⟨(ss.getD k zeroS).aI, (ss.getD k zeroS).cI, (ss.getD k zeroS).aR, (ss.getD k zeroS).cR, fun u hu => ?_⟩
  obtain ⟨b', off', e, hc⟩ := (hr.below hu) (by intro e; rw [e] at h32; simp at h32)
  simp only [Option.some.injEq, Addr.mk.injEq, and_true] at e
  obtain ⟨rfl, rfl⟩ := e
  obtain ⟨h1, h2⟩ := hc k (by omega)
  rw [refsM, kindM, intsM, Int.toNat_natCast, vsOf_at]
  exact ⟨h1 1 _ rfl, h1 2 _ rfl, h1 3 _ rfl, h2.ints, h2.refs⟩
theorem slotB_ints {s : SlotV} (h : slotB s = true) : s.o.ints.length ≤ 5 := by
  unfold slotB at h
  split at h
  · exact (okB_bd h).2.1
  · simp only [Bool.and_eq_true, decide_eq_true_eq] at h
    omega
theorem viewB_ints {vs : List SlotV} (h : viewB vs = true) (i : Int) : (intsM vs i).length ≤ 5 := slotB_ints (viewB_slot h i.toNat)

/-- The marks that are made lie in a row of their own. -/
structure CmI (w0 : World) (g lo hi : Nat) (w wr : World) (A : List Bool) : Prop where
  own : OwnBl wr lo hi (some ⟨g, 0, none⟩) 32 A
  bel : Below w0.heap.size w0 wr
  tch : Touch [g] w wr
  len : A.length = 32
theorem CmI.cell {w0 : World} {g lo hi : Nat} {w wr : World} {A : List Bool} (h : CmI w0 g lo hi w wr A) (k : Nat) (hk : k < 32) : wr.cell? ⟨g, k, none⟩ = some (.bool (A.getD k false)) := bl_cell h.own (by rw [h.len]; exact hk)
theorem CmI.mark {w0 : World} {g lo hi : Nat} {w wr : World} {A : List Bool} (h : CmI w0 g lo hi w wr A) (hg : w0.heap.size ≤ g) (i : Nat) (x : Bool) : ∃ W, Hid (wr.setCell ⟨g, i, none⟩ (.bool x) = W) ∧ Hid (CmI w0 g lo hi w W (A.set i x)) := by
  obtain ⟨W, hW, h1, h2, h3⟩ := h.own.stored i x
  refine ⟨W, hW, h1, h.bel.grown h2 h.bel.size (fun k hk => by cases hk; exact hg), h.tch.trans (Touch.of_grown h2 (fun k hk => by cases hk; simp)), by rw [List.length_set]; exact h.len⟩
theorem CmI.below {w0 : World} {g lo hi : Nat} {w wr u : World} {A : List Bool} (h : CmI w0 g lo hi w wr A) (hu : Below wr.heap.size wr u) : CmI w0 g lo hi w u A :=
  ⟨h.own.below hu, h.bel.trans (hu.mono h.bel.size), h.tch.trans (Touch.of_below hu), h.len⟩

theorem setAll_app (A : List Bool) (l m : List Int) : setAll A (l ++ m) = setAll (setAll A l) m := by simp [setAll, List.foldl_append]
theorem take_stepE (l : List Int) (n : Nat) (h : n < l.length) : l.take (n + 1) = l.take n ++ [l.getD n 0] := by rw [List.take_add_one]; simp [List.getD, h]

theorem set_sameE (X : List Bool) (n : Nat) (b : Bool) (h : n < X.length) (hb : X.getD n false = b) : X.set n b = X := by
  subst hb
  simp [List.getD, h]

def overS (A : List Bool) (k : Nat) (b : Bool) : List Bool := if b = true then A.set k true else A

/-- What l12Comes answers. -/
def ComesAns (w0 : World) (g lo hi : Nat) (w w' : World) (A : List Bool) (e : Ending) : Prop := (∃ v, e = .returned v) ∧ CmI w0 g lo hi w w' A

set_option maxHeartbeats 4000000 in
set_option maxRecDepth 100000 in
theorem l12Comes_any {w0 : World} (b off c : Nat) (ss : List SlotA) (hr : ReadsVw w0 (some ⟨b, off, none⟩) ss) (h32 : ss.length = 32) (hv : viewB (vsOf ss) = true) (s : StepV) (hs : stepB s = true) (k : Nat) (hk : k < 32)
    (g lo hi : Nat) (A : List Bool) (w : World) (hg : w0.heap.size ≤ g) (hI : CmI w0 g lo hi w w A) :
    Calls Tryz.prog 38 #[.slice (some ⟨b, off, none⟩) 32 c, .int .i64 (k : Int), .agg #[.int .i64 s.kd, .int .i64 s.num], .slice (some ⟨g, 0, none⟩) 32 32] w fun e w' => ComesAns w0 g lo hi w w' (comesS (vsOf ss) s A k) e := by
  have HV : Hid (∀ u, Below w0.heap.size w0 u → ∀ k : Nat, k < 32 → u.cell? ⟨b, off + k * 4, none⟩ = some (.bool ((vsOf ss).getD k noS).has)) := fun u hu k hk => (view_cells hr h32 hu k hk).1
  obtain ⟨aI, cI, aR, cR, hO⟩ := view_obj hr h32 k hk
  have HRG : Hid (∀ r ∈ refsM (vsOf ss) k, 0 ≤ r ∧ r ≤ 31) := viewB_rng hv k
  have HLR := viewB_refs hv k
  have HLI := viewB_ints hv k
  have HHAS : Hid (∀ k : Nat, hasM (vsOf ss) k = ((vsOf ss).getD k noS).has) := fun k => by rw [hasM, Int.toNat_natCast]
  have HRE : Hid (∀ u, Below w0.heap.size w0 u → Calls Tryz.prog 66 #[.slice (some ⟨b, off, none⟩) 32 c, .int .i64 (k : Int)] u fun e w' => ∃ g, e = .returned (.slice (some ⟨g, 0, none⟩) 32 32) ∧ OwnBl w' u.heap.size w'.heap.size (some ⟨g, 0, none⟩) 32 (runM (vsOf ss) 40 k).met ∧ Below u.heap.size u w') := fun u hu => l11Reach_any b off c ss k (by omega) hv u (hr.below hu) h32
  have HRL : Hid ((runM (vsOf ss) 40 k).met.length = 32) := runM_len (viewB_rng hv) (by omega) (by omega)
  clear hr h32 hv
  generalize vsOf ss = vs at *
  have hgw : g < w.heap.size := Nat.lt_of_lt_of_le (hI.own.lt g rfl).2 hI.own.2.1
  have hkI : (k : Int) < 32 := by omega
  obtain ⟨W, hW, b0, b1, hbW, hsW⟩ := boxes2 w [.int .i64 s.kd, .int .i64 s.num] [.int .i64 (kindM vs k), .slice aI (intsM vs k).length cI, .slice aR (refsM vs k).length cR] 44 39
  have HIW : Hid (CmI w0 g lo hi w W A) := hI.below hbW
  have HBX : Hid (∀ u A, CmI w0 g lo hi w u A → True) := fun _ _ _ => trivial
  clear HBX
  have HB0 : Hid (∀ u, Touch [g] W u → Box u w.heap.size [.int .i64 s.kd, .int .i64 s.num] 44 ∧ Box u (w.heap.size + 1) [.int .i64 (kindM vs k), .slice aI (intsM vs k).length cI, .slice aR (refsM vs k).length cR] 39) := fun u hu => ⟨b0.touch hu (by simp; omega), b1.touch hu (by simp; omega)⟩
  have HIW2 : Hid (CmI w0 g lo hi W W A) := ⟨HIW.out.own, HIW.out.bel, Touch.refl _ _, HIW.out.len⟩
  have HEND : Hid (∀ u A', CmI w0 g lo hi W u A' → CmI w0 g lo hi w u A') := fun u A' h => ⟨h.own, h.bel, (Touch.of_below hbW).trans h.tch, h.len⟩
  obtain ⟨o1, o2, o3, -, -⟩ := hO (w.alloc (.cells #[.int .i64 s.kd, .int .i64 s.num] 44)) (hI.bel.alloc hI.bel.size _)
  have HOI : Hid (∀ u, Below w0.heap.size w0 u → ReadsI u aI (intsM vs k) ∧ ReadsI u aR (refsM vs k)) := fun u hu => (hO u hu).2.2.2
  have x0 := b0.cell 0 _ rfl
  have x1 := b0.cell 1 _ rfl
  have y0 := b1.cell 0 _ rfl
  have y1 := b1.cell 1 _ rfl
  have y2 := b1.cell 2 _ rfl
  clear b0 b1 hsW hI HIW hO
  have hkd := stepB_kd hs
  have hsm := hs
  clear hs
  obtain ⟨kd, num⟩ := s
  simp only at *
  rcases hkd with rfl | rfl | rfl | rfl | rfl
  · obtain ⟨m, rfl⟩ : ∃ m : Nat, num = m := ⟨num.toNat, by have := hsm; simp [stepB, inB] at this; omega⟩
    have HF : Hid (comesS vs ⟨1, m⟩ A k = if m < (refsM vs k).length then (if hasM vs ((refsM vs k).getD m 0) = true then setAll A [(refsM vs k).getD m 0] else A) else A) := by
      rw [Hid, comesS, comes_1, Int.toNat_natCast]
      split
      · rw [List.filter_cons]
        split
        · simp
        · simp [setAll_nil]
      · rw [setAll_nil]
    rw [HF.out]
    clear HF HLI HRE HRL hsm
    have hR := (HOI.out W HIW2.out.bel).2
    clear HOI
    generalize refsM vs k = F at *
    by_cases hm : m < F.length
    · rw [if_pos hm]
      obtain ⟨bf, of, rfl, hcf⟩ := hR (by intro e; rw [e] at hm; simp at hm)
      have f0 := hcf m hm
      obtain ⟨y, hye, hy32⟩ : ∃ y : Nat, F.getD m 0 = y ∧ y < 32 := by
        have := HRG.out _ (mem_getDM hm)
        exact ⟨(F.getD m 0).toNat, by omega, by omega⟩
      rw [hye] at f0 ⊢
      rw [HHAS.out y, setAll_one]
      have v0 := HV.out W HIW2.out.bel y hy32
      have hyI : (y : Int) < 32 := by omega
      have hmI : (m : Int) < (F.length : Int) := by omega
      clear HRG HHAS HV hcf hye
      generalize (vs.getD y noS).has = hb at *
      cases hb with
      | false =>
        rw [if_neg (by decide)]
        have HE : Hid (CmI w0 g lo hi w W A) := HEND.out _ _ HIW2.out
        clear HIW2 HEND HB0
        go_enter Tryz.func38, Tryz.ntmps38
        go_upto_region 2 with fail
        rw [hW.out]
        clear hW o1 o2 o3
        go_wp2
        exact bodyPost_end (results_none rfl _ _ _) rfl ⟨⟨_, rfl⟩, HE.out⟩
      | true =>
        rw [if_pos rfl]
        obtain ⟨WF, hWF, HX⟩ := HIW2.out.mark hg y true
        have z0 := HIW2.out.cell y hy32
        have fz := HIW2.out.own.1.frozenAt y
        have HE : Hid (CmI w0 g lo hi w WF (A.set y true)) := HEND.out _ _ HX.out
        clear HX HIW2 HEND HB0
        go_enter Tryz.func38, Tryz.ntmps38
        go_upto_region 2 with fail
        rw [hW.out]
        clear hW o1 o2 o3
        go_wp2
        rw [hWF.out]
        exact bodyPost_end (results_none rfl _ _ _) rfl ⟨⟨_, rfl⟩, HE.out⟩
    · rw [if_neg hm]
      have hmI : ¬ (m : Int) < (F.length : Int) := by omega
      have HE : Hid (CmI w0 g lo hi w W A) := HEND.out _ _ HIW2.out
      clear HIW2 HEND HB0 HRG HHAS HV hR
      go_enter Tryz.func38, Tryz.ntmps38
      go_upto_region 2 with fail
      rw [hW.out]
      clear hW o1 o2 o3
      go_wp2
      exact bodyPost_end (results_none rfl _ _ _) rfl ⟨⟨_, rfl⟩, HE.out⟩
  · have HF : Hid (comesS vs ⟨2, num⟩ A k = setAll A ((refsM vs k).filter (hasM vs))) := by rw [Hid, comesS, comes_2]
    rw [HF.out]
    clear HF HLI HRE HRL hsm
    have HRF : Hid (∀ u, Below w0.heap.size w0 u → ReadsI u aR (refsM vs k)) := fun u hu => (HOI.out u hu).2
    clear HOI
    generalize refsM vs k = F at *
    go_enter Tryz.func38, Tryz.ntmps38
    go_upto_region 2 with fail
    rw [hW.out]
    clear hW o1 o2 o3
    go_wp2_with fail
    clear x0 x1 y0 y1 y2
    go_loopw [9] (fun i wr => ∃ n : Nat, n ≤ F.length ∧ i = .int .i64 n ∧ Hid (CmI w0 g lo hi W wr (setAll A ((F.take n).filter (hasM vs))))) (fun i _ => F.length - (RowKit.intOf i).toNat)
    case atStart => exact ⟨0, Nat.zero_le _, rfl, HIW2.out⟩
    case round =>
      obtain ⟨n, hn, rfl, hJ⟩ := hrel
      clear HIW2
      obtain ⟨-, bo⟩ := HB0.out wr hJ.out.tch
      have y2 := bo.cell 2 _ rfl
      clear bo
      by_cases hlt : n < F.length
      · obtain ⟨bf, of, rfl, hcf⟩ := HRF.out wr hJ.out.bel (by intro e; rw [e] at hlt; simp at hlt)
        have f0 := hcf n hlt
        obtain ⟨y, hye, hy32⟩ : ∃ y : Nat, F.getD n 0 = y ∧ y < 32 := by
          have := HRG.out _ (mem_getDM hlt)
          exact ⟨(F.getD n 0).toNat, by omega, by omega⟩
        have HTS : Hid (setAll A ((F.take (n + 1)).filter (hasM vs)) = if (vs.getD y noS).has = true then (setAll A ((F.take n).filter (hasM vs))).set y true else setAll A ((F.take n).filter (hasM vs))) := by
          rw [Hid, take_stepE F n hlt, hye, List.filter_append, setAll_app, List.filter_cons, HHAS.out y]
          split
          · simp only [List.filter_nil]; rw [setAll_one]
          · simp only [List.filter_nil]; rw [setAll_nil]
        rw [hye] at f0
        have v0 := HV.out wr hJ.out.bel y hy32
        have hyI : (y : Int) < 32 := by omega
        clear hcf hye
        obtain ⟨WF, hWF, HX⟩ := hJ.out.mark hg y true
        have z0 := hJ.out.cell y hy32
        have fz := hJ.out.own.1.frozenAt y
        generalize (vs.getD y noS).has = hb at *
        cases hb with
        | false =>
          have HN : Hid (CmI w0 g lo hi W wr (setAll A ((F.take (n + 1)).filter (hasM vs)))) := by rw [HTS.out, if_neg (by decide)]; exact hJ
          clear HX hWF HTS hJ
          go_wp2
          go_roundw
          case rel => exact ⟨n + 1, by omega, by go_num, HN⟩
          case measure => simp [RowKit.intOf]; omega
        | true =>
          have HN : Hid (CmI w0 g lo hi W WF (setAll A ((F.take (n + 1)).filter (hasM vs)))) := by rw [HTS.out, if_pos rfl]; exact HX
          clear HX HTS hJ
          go_wp2
          rw [hWF.out]
          go_roundw
          case rel => exact ⟨n + 1, by omega, by go_num, HN⟩
          case measure => simp [RowKit.intOf]; omega
      · have HE : Hid (CmI w0 g lo hi w wr (setAll A (F.filter (hasM vs)))) := by
          have := HEND.out _ _ hJ.out
          rw [List.take_of_length_le (by omega)] at this
          exact this
        clear HEND HB0 HRG HHAS HV HRF hJ
        go_wp2
        exact bodyPost_end (results_none rfl _ _ _) rfl ⟨⟨_, rfl⟩, HE.out⟩
  · have HF : Hid (comesS vs ⟨3, num⟩ A k = setAll A (reachTo (runM vs 40 k).met 32)) := by rw [Hid, comesS, comes_3]; rfl
    rw [HF.out]
    clear HF HLI HLR HRG hsm HV HHAS HOI
    have CR := HRE.out W HIW2.out.bel
    clear HRE
    generalize (runM vs 40 k).met = M at *
    go_enter Tryz.func38, Tryz.ntmps38
    go_upto_region 2 with fail
    rw [hW.out]
    clear hW o1 o2 o3
    go_wp2_with fail
    refine CR.mono ?_
    clear CR
    rintro e w2 ⟨g2, rfl, ho2, hb2⟩
    have hg2 : W.heap.size ≤ g2 := (ho2.lt g2 rfl).1
    have hsW' := hbW.size
    have HI2 : Hid (CmI w0 g lo hi w2 w2 A) := ⟨HIW2.out.own.below hb2, HIW2.out.bel.trans (hb2.mono HIW2.out.bel.size), Touch.refl _ _, HIW2.out.len⟩
    have HM : Hid (∀ u A', CmI w0 g lo hi w2 u A' → ∀ n, n < 32 → u.cell? ⟨g2, n, none⟩ = some (.bool (M.getD n false))) := fun u A' h n hn => bl_cell (ho2.touch h.tch (fun q hq => by cases hq; simp; omega)) (by have := HRL.out; omega)
    have HEN2 : Hid (∀ u A', CmI w0 g lo hi w2 u A' → CmI w0 g lo hi w u A') := fun u A' h => HEND.out u A' ⟨h.own, h.bel, (Touch.of_below hb2).trans h.tch, h.len⟩
    clear HIW2 HEND HB0 HRL x0 x1 y0 y1 y2 ho2 hb2 hg2 hsW'
    go_wp2_with fail
    go_loopw [11] (fun i wr => ∃ n : Nat, n ≤ 32 ∧ i = .int .i64 n ∧ Hid (CmI w0 g lo hi w2 wr (setAll A (reachTo M n)))) (fun i _ => 32 - (RowKit.intOf i).toNat)
    case atStart => exact ⟨0, Nat.zero_le _, rfl, HI2.out⟩
    case round =>
      obtain ⟨n, hn, rfl, hJ⟩ := hrel
      clear HI2
      by_cases hlt : n < 32
      · have m0 := HM.out wr _ hJ.out n hlt
        have z0 := hJ.out.cell n hlt
        have fz := hJ.out.own.1.frozenAt n
        have hnI : (n : Int) < 32 := by omega
        have HTS : Hid (setAll A (reachTo M (n + 1)) = if M.getD n false = true then (setAll A (reachTo M n)).set n true else setAll A (reachTo M n)) := by
          rw [Hid, reachTo_step]
          split
          · rw [setAll_app, setAll_one]
          · rfl
        have HSM : Hid (∀ b, (setAll A (reachTo M n)).getD n false = b → (setAll A (reachTo M n)).set n b = setAll A (reachTo M n)) := fun b hb => set_sameE _ n b (by rw [hJ.out.len]; exact hlt) hb
        have HMK : Hid (∀ x, ∃ W, Hid (wr.setCell ⟨g, n, none⟩ (.bool x) = W) ∧ Hid (CmI w0 g lo hi w2 W ((setAll A (reachTo M n)).set n x))) := fun x => hJ.out.mark hg n x
        clear hJ
        generalize setAll A (reachTo M n) = X at *
        obtain ⟨Y, HYE⟩ : ∃ Y, Hid (setAll A (reachTo M (n + 1)) = Y) := ⟨_, rfl⟩
        rw [HYE.out] at HTS
        cases hx : X.getD n false with
        | true =>
          rw [hx] at z0
          have e1 := HSM.out true hx
          have HY : Hid (Y = X.set n true) := by rw [Hid, HTS.out, e1]; split <;> rfl
          obtain ⟨WF, hWF, HX⟩ := HMK.out true
          rw [← HY.out] at HX
          clear HTS HSM HMK HY e1 hx
          go_wp2
          rw [hWF.out]
          go_roundw
          case rel => exact ⟨n + 1, by omega, by go_num, by rw [HYE.out]; exact HX⟩
          case measure => simp [RowKit.intOf]; omega
        | false =>
          rw [hx] at z0
          cases hmn : M.getD n false with
          | true =>
            rw [hmn] at m0
            obtain ⟨WF, hWF, HX⟩ := HMK.out true
            have HY : Hid (Y = X.set n true) := by rw [Hid, HTS.out, hmn, if_pos rfl]
            rw [← HY.out] at HX
            clear HTS HSM HMK HY hx hmn
            go_wp2
            rw [hWF.out]
            go_roundw
            case rel => exact ⟨n + 1, by omega, by go_num, by rw [HYE.out]; exact HX⟩
            case measure => simp [RowKit.intOf]; omega
          | false =>
            rw [hmn] at m0
            obtain ⟨WF, hWF, HX⟩ := HMK.out false
            have HY : Hid (Y = X.set n false) := by rw [Hid, HTS.out, hmn, if_neg (by decide), HSM.out false hx]
            rw [← HY.out] at HX
            clear HTS HSM HMK HY hx hmn
            go_wp2
            rw [hWF.out]
            go_roundw
            case rel => exact ⟨n + 1, by omega, by go_num, by rw [HYE.out]; exact HX⟩
            case measure => simp [RowKit.intOf]; omega
      · have HE : Hid (CmI w0 g lo hi w wr (setAll A (reachTo M 32))) := by
          have := HEN2.out _ _ hJ.out
          rw [show n = 32 from by omega] at this
          exact this
        clear HEN2 HM hJ
        go_wp2
        exact bodyPost_end (results_none rfl _ _ _) rfl ⟨⟨_, rfl⟩, HE.out⟩
  · have HF : Hid (comesS vs ⟨4, num⟩ A k = if kindM vs k = num then A.set k true else A) := by
      rw [Hid, comesS, comes_4]
      split
      · rw [setAll_one]
      · rw [setAll_nil]
    rw [HF.out]
    clear HF HRG HLR HLI HRE HRL HOI
    generalize kindM vs k = kn at *
    by_cases hkn : kn = num
    · subst hkn
      rw [if_pos rfl]
      obtain ⟨WF, hWF, HX⟩ := HIW2.out.mark hg k true
      have z0 := HIW2.out.cell k hk
      have f0 := HIW2.out.own.1.frozenAt k
      have HE : Hid (CmI w0 g lo hi w WF (A.set k true)) := HEND.out _ _ HX.out
      clear HX HIW2 HEND HB0 HV HHAS
      go_enter Tryz.func38, Tryz.ntmps38
      go_upto_region 2 with fail
      rw [hW.out]
      clear hW o1 o2 o3
      go_wp2
      rw [hWF.out]
      exact bodyPost_end (results_none rfl _ _ _) rfl ⟨⟨_, rfl⟩, HE.out⟩
    · rw [if_neg hkn]
      have e1 : (kn == num) = false := by simpa using hkn
      have HE : Hid (CmI w0 g lo hi w W A) := HEND.out _ _ HIW2.out
      clear HIW2 HEND HB0 HV HHAS hkn
      go_enter Tryz.func38, Tryz.ntmps38
      go_upto_region 2 with fail
      rw [hW.out]
      clear hW o1 o2 o3
      go_wp2
      exact bodyPost_end (results_none rfl _ _ _) rfl ⟨⟨_, rfl⟩, HE.out⟩
  · have HF : Hid (comesS vs ⟨5, num⟩ A k = overS A k (overB num (intsM vs k))) := by
      rw [Hid, comesS, comes_5, overS]
      split
      · rw [setAll_one]
      · rw [setAll_nil]
    rw [HF.out]
    clear HF HLR HRE HRL hsm HRG HV HHAS
    have HRF : Hid (∀ u, Below w0.heap.size w0 u → ReadsI u aI (intsM vs k)) := fun u hu => (HOI.out u hu).1
    clear HOI
    generalize intsM vs k = F at *
    have HLA : A.length = 32 := HIW2.out.len
    go_enter Tryz.func38, Tryz.ntmps38
    go_upto_region 2 with fail
    rw [hW.out]
    clear hW o1 o2 o3
    go_wp2_with fail
    clear x0 x1 y0 y1 y2
    go_loopw [12] (fun i wr => ∃ n : Nat, n ≤ F.length ∧ i = .int .i64 n ∧ Hid (CmI w0 g lo hi W wr (overS A k (overB num (F.take n))))) (fun i _ => F.length - (RowKit.intOf i).toNat)
    case atStart => exact ⟨0, Nat.zero_le _, rfl, HIW2.out⟩
    case round =>
      obtain ⟨n, hn, rfl, hJ⟩ := hrel
      clear HIW2
      obtain ⟨bs, bo⟩ := HB0.out wr hJ.out.tch
      have x1 := bs.cell 1 _ rfl
      have y1 := bo.cell 1 _ rfl
      clear bo bs
      by_cases hlt : n < F.length
      · obtain ⟨bf, of, rfl, hcf⟩ := HRF.out wr hJ.out.bel (by intro e; rw [e] at hlt; simp at hlt)
        have f0 := hcf n hlt
        have HTS : Hid (overB num (F.take (n + 1)) = (overB num (F.take n) || decide (num < F.getD n 0))) := by
          rw [Hid, take_stepE F n hlt, overB, overB, List.any_append]
          simp
        have HQ : Hid (∀ q, CmI w0 g lo hi W (wr.drewN q) (overS A k (overB num (F.take n)))) := fun q => hJ.out.below (below_drewN (Below.refl _ _) q)
        clear hcf hJ
        generalize F.getD n 0 = z at *
        by_cases hz : num < z
        · have hz' : z > num := hz
          have HS1 : Hid ((overS A k (overB num (F.take n))).set k true = overS A k (overB num (F.take (n + 1)))) := by
            rw [Hid, HTS.out, decide_eq_true hz, Bool.or_true, overS, overS, if_pos rfl]
            split
            · rw [List.set_set]
            · rfl
          clear HTS
          go_wp2_with fail
          go_quiet (fail)
          have HD := HQ.out nq
          obtain ⟨WF, hWF, HX⟩ := HD.mark hg k true
          have z0 := HD.cell k hk
          have fz := HD.own.1.frozenAt k
          have HN : Hid (CmI w0 g lo hi W WF (overS A k (overB num (F.take (n + 1))))) := by rw [← HS1.out]; exact HX
          clear HX HQ HD HS1
          generalize wr.drewN nq = wd at *
          go_wp2
          rw [hWF.out]
          go_roundw
          case rel => exact ⟨n + 1, by omega, by go_num, HN⟩
          case measure => simp [RowKit.intOf]; omega
        · have hz' : ¬ z > num := hz
          have HN : Hid (∀ q, CmI w0 g lo hi W (wr.drewN q) (overS A k (overB num (F.take (n + 1))))) := by
            rw [HTS.out, decide_eq_false hz, Bool.or_false]; exact HQ
          clear HTS HQ
          go_wp2_with fail
          go_quiet (fail)
          have HD : Hid (_) := HN.out nq
          generalize wr.drewN nq = wd at *
          clear HN
          go_wp2
          go_roundw
          case rel => exact ⟨n + 1, by omega, by go_num, HD⟩
          case measure => simp [RowKit.intOf]; omega
      · have HE : Hid (CmI w0 g lo hi w wr (overS A k (overB num F))) := by
          have := HEND.out _ _ hJ.out
          rw [List.take_of_length_le (by omega)] at this
          exact this
        clear HEND HB0 HRF hJ
        go_wp2
        exact bodyPost_end (results_none rfl _ _ _) rfl ⟨⟨_, rfl⟩, HE.out⟩
end Go.Proofs.YtajcffchopcamaaGreatDoor

/- The walk of (impl.walk).there. -/
namespace Go.Proofs.YtajcffchopcamaaGreatDoor
open Go.RowKit

/-- A view that is right, at its place in the first world. -/
structure VwI (w0 : World) (b off : Nat) (vs : List SlotV) : Prop where
  has : ∀ u, Below w0.heap.size w0 u → ∀ k : Nat, k < 32 → u.cell? ⟨b, off + k * 4, none⟩ = some (.bool (vs.getD k noS).has)
  obj : ∀ k : Nat, k < 32 → ∃ aI cI aR cR, ∀ u, Below w0.heap.size w0 u → u.cell? ⟨b, off + k * 4 + 1, none⟩ = some (.int .i64 (kindM vs k)) ∧ u.cell? ⟨b, off + k * 4 + 2, none⟩ = some (.slice aI (intsM vs k).length cI) ∧ u.cell? ⟨b, off + k * 4 + 3, none⟩ = some (.slice aR (refsM vs k).length cR) ∧ ReadsI u aI (intsM vs k) ∧ ReadsI u aR (refsM vs k)
  rng : RngM vs
  refs : ∀ k, (refsM vs k).length ≤ 5
  ints : ∀ k, (intsM vs k).length ≤ 5
theorem vwI_of {w0 : World} {b off : Nat} {ss : List SlotA} (hr : ReadsVw w0 (some ⟨b, off, none⟩) ss) (h32 : ss.length = 32) (hv : viewB (vsOf ss) = true) : VwI w0 b off (vsOf ss) :=
  ⟨fun _ hu k hk => (view_cells hr h32 hu k hk).1, fun k hk => view_obj hr h32 k hk, viewB_rng hv, viewB_refs hv, viewB_ints hv⟩
theorem VwI.below {w0 w1 : World} {b off : Nat} {vs : List SlotV} (h : VwI w0 b off vs) (hb : Below w0.heap.size w0 w1) : VwI w1 b off vs :=
  ⟨fun u hu k hk => h.has u (hb.trans (hu.mono hb.size)) k hk, fun k hk => by
    obtain ⟨aI, cI, aR, cR, ho⟩ := h.obj k hk
    exact ⟨aI, cI, aR, cR, fun u hu => ho u (hb.trans (hu.mono hb.size))⟩, h.rng, h.refs, h.ints⟩

/-- Those of a list that are there, of its first n. -/
def hasTo (vs : List SlotV) (l : List Int) (n : Nat) : List Int := (l.take n).filter (hasM vs)
theorem hasTo_step (vs : List SlotV) (l : List Int) {n y : Nat} (h : n < l.length) (hy : l.getD n 0 = y) : hasTo vs l (n + 1) = if (vs.getD y noS).has = true then hasTo vs l n ++ [(y : Int)] else hasTo vs l n := by
  unfold hasTo
  rw [take_stepE l n h, hy, List.filter_append, List.filter_cons, List.filter_nil]
  have e : hasM vs (y : Int) = (vs.getD y noS).has := by rw [hasM, Int.toNat_natCast]
  rw [e]
  split <;> simp
theorem hasTo_len (vs : List SlotV) (l : List Int) (n : Nat) : (hasTo vs l n).length ≤ n := by
  unfold hasTo
  refine Nat.le_trans (List.length_filter_le _ _) ?_
  rw [List.length_take]
  omega

set_option maxHeartbeats 2000000 in
set_option maxRecDepth 100000 in
theorem there_any (b off c : Nat) (vs : List SlotV) (l : List Int) (al : Option Addr) (cl : Nat) (w : World) (hv : VwI w b off vs) (hr : ReadsI w al l) (hl : ∀ r ∈ l, 0 ≤ r ∧ r ≤ 31) (hn : l.length ≤ 1000) :
    Calls Tryz.prog 34 #[.agg #[.slice (some ⟨b, off, none⟩) 32 c], .slice al l.length cl] w fun e w' => ReachAns w (l.filter (hasM vs)) e w' := by
  obtain ⟨V, HVV, b0, hbV, hoV⟩ : ∃ V, Hid ((w.alloc (.cells #[.slice (some ⟨b, off, none⟩) 32 c] 70)).alloc (.cells #[] 3) = V) ∧ Box V w.heap.size [.slice (some ⟨b, off, none⟩) 32 c] 70 ∧ Below w.heap.size w V ∧ OwnI V (w.heap.size + 1) V.heap.size (some ⟨w.heap.size + 1, 0, none⟩) 0 [] := by
    obtain ⟨U, hU, b, hb, hs⟩ := boxes1 w [.slice (some ⟨b, off, none⟩) 32 c] 70
    have ha := (Below.refl U.heap.size U).alloc (Nat.le_refl _) (.cells #[] 3)
    have hsU : U.heap.size = w.heap.size + 1 := hs
    have h1 := ownI_lit0 U
    rw [hsU] at h1
    refine ⟨U.alloc (.cells #[] 3), ?_, b.below ha b.lt, hb.trans (ha.mono hb.size), h1.widen (by omega) (by simp; omega) (Nat.le_refl _)⟩
    rw [Hid, hU.out]
  have hszV : w.heap.size < V.heap.size := b0.lt
  have HV : Hid (∀ u, Below w.heap.size w u → ∀ k : Nat, k < 32 → u.cell? ⟨b, off + k * 4, none⟩ = some (.bool (vs.getD k noS).has)) := hv.has
  have HRD : Hid (∀ u, Below w.heap.size w u → ReadsI u al l) := fun u hu => hr.below hu
  have HFIN : Hid (l.filter (hasM vs) = hasTo vs l l.length) := by rw [Hid, hasTo, List.take_length]
  have HS0 : Hid (OwnI V (w.heap.size + 1) V.heap.size (some ⟨w.heap.size + 1, 0, none⟩) 0 (hasTo vs l 0) ∧ Box V w.heap.size [.slice (some ⟨b, off, none⟩) 32 c] 70 ∧ Below w.heap.size w V) := ⟨hoV, b0, hbV⟩
  rw [HFIN.out]
  have HRG : Hid (∀ r ∈ l, 0 ≤ r ∧ r ≤ 31) := hl
  clear hv hr hoV b0 HFIN hl hbV
  go_enter Tryz.func34, Tryz.ntmps34
  go_upto_region 2 with fail
  rw [HVV.out]
  clear HVV
  go_wp2_with fail
  go_loopw [5, 11] (fun v5 i wr => ∃ (n : Nat) (a : Option Addr) (c' : Nat), n ≤ l.length ∧ (hasTo vs l n).length ≤ n ∧ i = .int .i64 n ∧ v5 = .slice a (hasTo vs l n).length c' ∧ Hid (OwnI wr (w.heap.size + 1) wr.heap.size a c' (hasTo vs l n) ∧ Box wr w.heap.size [.slice (some ⟨b, off, none⟩) 32 c] 70 ∧ Below w.heap.size w wr)) (fun _ i _ => l.length - (RowKit.intOf i).toNat)
  case atStart => exact ⟨0, _, _, by omega, by simp [hasTo], rfl, rfl, HS0⟩
  case round =>
    obtain ⟨n, a, c5, hn', hln, rfl, rfl, hI⟩ := hrel
    clear HS0
    by_cases hlt : n < l.length
    · obtain ⟨bl, ol, rfl, hcl⟩ := HRD.out wr hI.out.2.2 (by intro e; rw [e] at hlt; simp at hlt)
      have f0 := hcl n hlt
      obtain ⟨y, hye, hy32⟩ : ∃ y : Nat, l.getD n 0 = y ∧ y < 32 := by
        have := HRG.out _ (mem_getDM hlt)
        exact ⟨(l.getD n 0).toNat, by omega, by omega⟩
      have HST : Hid (_ = _) := hasTo_step vs l hlt hye
      rw [hye] at f0
      have v0 := HV.out wr hI.out.2.2 y hy32
      have x0 := hI.out.2.1.cell 0 _ rfl
      have hyI : (y : Int) < 32 := by omega
      have hnI : (n : Int) < (l.length : Int) := by omega
      have HLN2 : Hid (_) := hasTo_len vs l (n + 1)
      clear hcl hye
      generalize (vs.getD y noS).has = mt at *
      obtain ⟨R, HRR⟩ : ∃ R, Hid (hasTo vs l n = R) := ⟨_, rfl⟩
      rw [HRR.out] at hI hln HST ⊢
      cases mt with
      | false =>
        have HQ : Hid (hasTo vs l (n + 1) = R) := HST.out
        clear HST HRR
        go_wp2_with fail
        go_roundw
        case rel => exact ⟨n + 1, a, c5, by omega, by rw [HQ.out]; omega, by go_num, by rw [HQ.out], by rw [HQ.out]; exact hI⟩
        case measure => simp [RowKit.intOf]; omega
      | true =>
        have HQ : Hid (hasTo vs l (n + 1) = R ++ [(y : Int)]) := HST.out
        have hlo := hI.out.2.1.lt
        have ha := (Below.refl wr.heap.size wr).alloc (Nat.le_refl _) (.cells #[.int .i64 (y : Int)] 3)
        have ho := hI.out.1.below ha
        clear HST HRR
        go_wp2_with (first | (at_builtin; refine append_intsM rfl _ _ rfl (w.heap.size + 1) wr.heap.size a c5 R rfl ho _ _ [(y : Int)] rfl (readsI_one wr y _) (fun h => by cases h) (by simp; omega) (by simp; omega) ?_; intro a4 c4 y4 w4 hy4 ho4 hg4 hk4) | fail)
        have HN : Hid (hasTo vs l (n + 1) = y4 ∧ OwnI w4 (w.heap.size + 1) w4.heap.size a4 c4 y4 ∧ Box w4 w.heap.size [.slice (some ⟨b, off, none⟩) 32 c] 70 ∧ Below w.heap.size w w4) := by
          obtain ⟨i1, i2, i4⟩ := hI.out
          have hm := i2.below ha i2.lt
          refine ⟨by rw [HQ.out, hy4.out], ho4, hm.block (hg4.block _ hm.lt (fun e => ?_)), (i4.trans (ha.mono i4.size)).grown hg4 (Nat.le_trans i4.size ha.size) (fun j hj => by have := (i1.1.lt j hj).1; omega)⟩
          have := (i1.1.lt _ e.symm).1
          omega
        clear ho4 hg4 hk4 hy4 ho hI HQ ha
        go_roundw
        case rel => exact ⟨n + 1, a4, c4, by omega, HLN2.out, by go_num, by rw [HN.out.1], by rw [HN.out.1]; exact HN.out.2⟩
        case measure => simp [RowKit.intOf]; omega
    · obtain rfl : n = l.length := by omega
      have HQ : Hid (ReachAns w (hasTo vs l l.length) (.returned (.slice a (hasTo vs l l.length).length c5)) wr) := ⟨a, c5, rfl, hI.out.1.widen (by omega) (Nat.le_refl _) (Nat.le_refl _), hI.out.2.2⟩
      clear hI
      go_wp2_with fail
      go_ret
      exact HQ.out
end Go.Proofs.YtajcffchopcamaaGreatDoor

/- The walks of (impl.walk).over$1, slices.IndexFunc, slices.ContainsFunc at it, and impl.onlyIf. -/
namespace Go.Proofs.YtajcffchopcamaaGreatDoor
open Go.RowKit

set_option maxHeartbeats 400000 in
theorem onlyIf_any (is : Bool) (k : Int) (w : World) : Calls Tryz.prog 110 #[.bool is, .int .i64 k] w fun e w' => ReachAns w (if is = true then [k] else []) e w' := by
  cases is with
  | false =>
    have HA : Hid (ReachAns w [] (.returned (.slice none 0 0)) w) := ⟨none, 0, rfl, ownI_nil _ _ _ (Nat.le_refl _), Below.refl _ _⟩
    rw [if_neg (by decide)]
    go_enter Tryz.func110, Tryz.ntmps110
    go_wp2
    go_ret
    exact HA.out
  | true =>
    rw [if_pos rfl]
    have HA : Hid (ReachAns w [k] (.returned (.slice (some ⟨w.heap.size, 0, none⟩) 1 1)) (w.alloc (.cells #[.int .i64 k] 3))) := by
      refine ⟨_, _, rfl, ⟨?_, Nat.le_refl _, fun j hj => by cases hj; simp⟩, (Below.refl _ _).alloc (Nat.le_refl _) _⟩
      exact World.ownsRow_lit w #[.int .i64 k] 1 (Nat.le_refl _) (by simp [maxLen]) rfl
    go_enter Tryz.func110, Tryz.ntmps110
    go_wp2
    go_ret
    exact HA.out

set_option maxHeartbeats 400000 in
theorem over1_any (z n : Int) (B : Nat) (w : World) (h : w.cell? ⟨B, 0, none⟩ = some (.int .i64 n)) : Calls Tryz.prog 111 #[.int .i64 z, .pointer (some ⟨B, 0, none⟩)] w fun e w' => e = .returned (.bool (decide (n < z))) ∧ w' = w := by
  by_cases hz : n < z
  · have hz' : z > n := hz
    rw [decide_eq_true hz]
    go_enter Tryz.func111, Tryz.ntmps111
    go_wp2
    go_ret
    exact ⟨rfl, rfl⟩
  · have hz' : ¬ z > n := hz
    rw [decide_eq_false hz]
    go_enter Tryz.func111, Tryz.ntmps111
    go_wp2
    go_ret
    exact ⟨rfl, rfl⟩

theorem overB_step (n : Int) (l : List Int) (k : Nat) (h : k < l.length) : overB n (l.take (k + 1)) = (overB n (l.take k) || decide (n < l.getD k 0)) := by
  rw [take_stepE l k h, overB, overB, List.any_append]
  simp
theorem overB_hit (n : Int) (l : List Int) (k : Nat) (h : k < l.length) (hz : n < l.getD k 0) : overB n l = true := by
  rw [overB, List.any_eq_true]
  exact ⟨l.getD k 0, mem_getDM h, decide_eq_true hz⟩

set_option maxHeartbeats 1000000 in
set_option maxRecDepth 100000 in
theorem indexFunc_any (n : Int) (B : Nat) (l : List Int) (a : Option Addr) (c : Nat) (w : World) (hr : ReadsI w a l) (hl : l.length ≤ 1000) (h : w.cell? ⟨B, 0, none⟩ = some (.int .i64 n)) :
    Calls Tryz.prog 115 #[.slice a l.length c, .func (.func 111) #[] #[.pointer (some ⟨B, 0, none⟩)]] w fun e w' => (∃ d : Int, e = .returned (.int .i64 d) ∧ decide (0 ≤ d) = overB n l) ∧ w' = w := by
  have HC : Hid (∀ z, Calls Tryz.prog 111 #[.int .i64 z, .pointer (some ⟨B, 0, none⟩)] w fun e w' => e = .returned (.bool (decide (n < z))) ∧ w' = w) := fun z => over1_any z n B w h
  have HHIT : Hid (∀ k, k < l.length → n < l.getD k 0 → overB n l = true) := fun k hk hz => overB_hit n l k hk hz
  have HSTEP : Hid (∀ k, k < l.length → overB n (l.take (k + 1)) = (overB n (l.take k) || decide (n < l.getD k 0))) := fun k hk => overB_step n l k hk
  have HEND : Hid (overB n (l.take l.length) = overB n l) := by rw [Hid, List.take_length]
  clear h
  obtain ⟨R, HR⟩ : ∃ R, Hid (overB n l = R) := ⟨_, rfl⟩
  rw [HR.out] at HHIT HEND ⊢
  go_enter Tryz.func115, Tryz.ntmps115
  go_wp2_with fail
  go_loopw [8] (fun i wr => ∃ k : Nat, k ≤ l.length ∧ i = .int .i64 k ∧ Hid (overB n (l.take k) = false) ∧ wr = w) (fun i _ => l.length - (RowKit.intOf i).toNat)
  case atStart => exact ⟨0, Nat.zero_le _, rfl, rfl, rfl⟩
  case round =>
    obtain ⟨k, hk, rfl, hno, rfl⟩ := hrel
    by_cases hlt : k < l.length
    · obtain ⟨b, off, rfl, hcell⟩ := hr (by intro e; rw [e] at hlt; simp at hlt)
      have f0 := hcell k hlt
      have HS1 : Hid (_ = _) := HSTEP.out k hlt
      have HH1 : Hid (n < l.getD k 0 → R = true) := fun hz => HHIT.out k hlt hz
      have C := HC.out (l.getD k 0)
      clear hcell
      generalize l.getD k 0 = z at *
      by_cases hz : n < z
      · have HT : Hid (decide (0 ≤ (k : Int)) = R) := by rw [Hid, HH1.out hz]; simp
        rw [decide_eq_true hz] at C
        clear HS1 HH1 HC HHIT HSTEP HEND hno
        go_wp2_with fail
        refine C.mono ?_
        rintro e w' ⟨rfl, rfl⟩
        go_wp2
        go_ret
        exact ⟨⟨k, rfl, HT.out⟩, rfl⟩
      · have HN : Hid (overB n (l.take (k + 1)) = false) := by rw [Hid, HS1.out, hno.out, decide_eq_false hz]; rfl
        rw [decide_eq_false hz] at C
        clear HS1 HH1 hno
        go_wp2_with fail
        refine C.mono ?_
        rintro e w' ⟨rfl, rfl⟩
        clear C f0
        go_wp2
        go_roundw
        case rel => exact ⟨k + 1, by omega, by go_num, HN, by trivial⟩
        case measure => simp [RowKit.intOf]; omega
    · have HT : Hid (decide ((0 : Int) ≤ -1) = R) := by
        have e := HEND.out
        rw [show l.length = k from by omega, hno.out] at e
        rw [Hid, ← e]
        rfl
      clear HC HHIT HSTEP HEND hno
      go_wp2
      go_ret
      exact ⟨⟨-1, rfl, HT.out⟩, rfl⟩

set_option maxHeartbeats 400000 in
theorem containsFunc_any (n : Int) (B : Nat) (l : List Int) (a : Option Addr) (c : Nat) (w : World) (hr : ReadsI w a l) (hl : l.length ≤ 1000) (h : w.cell? ⟨B, 0, none⟩ = some (.int .i64 n)) :
    Calls Tryz.prog 95 #[.slice a l.length c, .func (.func 111) #[] #[.pointer (some ⟨B, 0, none⟩)]] w fun e w' => e = .returned (.bool (overB n l)) ∧ w' = w := by
  have C := indexFunc_any n B l a c w hr hl h
  generalize overB n l = R at *
  go_enter Tryz.func95, Tryz.ntmps95
  go_wp2_with fail
  refine C.mono ?_
  rintro e w' ⟨⟨d, rfl, hd⟩, rfl⟩
  have HD : Hid (_ = _) := hd
  clear hd C
  by_cases h0 : 0 ≤ d
  · go_wp2
    go_ret
    exact ⟨ret_bool (by first | exact HD.out | (rw [← HD.out, decide_eq_true h0])), rfl⟩
  · go_wp2
    go_ret
    exact ⟨ret_bool (by first | exact HD.out | (rw [← HD.out]; simp; omega)), rfl⟩
end Go.Proofs.YtajcffchopcamaaGreatDoor

/- The walks of the ways of a path's steps: (impl.walk).nth, all, deep, ofKind, over. -/
namespace Go.Proofs.YtajcffchopcamaaGreatDoor
open Go.RowKit

set_option maxHeartbeats 2000000 in
set_option maxRecDepth 100000 in
theorem ofKind_any (b off c : Nat) (vs : List SlotV) (k : Nat) (hk : k < 32) (n : Int) (w : World) (hv : VwI w b off vs) :
    Calls Tryz.prog 87 #[.agg #[.slice (some ⟨b, off, none⟩) 32 c], .int .i64 (k : Int), .int .i64 n] w fun e w' => ReachAns w (comesL vs ⟨4, n⟩ k) e w' := by
  obtain ⟨W, hW, b0, hbW, hsW⟩ := boxes1 w [.slice (some ⟨b, off, none⟩) 32 c] 70
  have q0 := b0.cell 0 _ rfl
  obtain ⟨aI, cI, aR, cR, hO⟩ := hv.obj k hk
  obtain ⟨o1, -, -, -, -⟩ := hO W hbW
  have hkI : (k : Int) < 32 := by omega
  rw [comes_4]
  have C : ∀ is : Bool, Calls Tryz.prog 110 #[.bool is, .int .i64 (k : Int)] W fun e w' => ReachAns W (if is = true then [(k : Int)] else []) e w' := fun is => onlyIf_any is k W
  have HOUT : Hid (∀ R e w', ReachAns W R e w' → ReachAns w R e w') := fun R e w' ⟨a, c, h1, h2, h3⟩ => ⟨a, c, h1, h2.widen hbW.size (Nat.le_refl _) (Nat.le_refl _), hbW.trans (h3.mono hbW.size)⟩
  clear b0 hsW hv hO
  generalize kindM vs k = kn at *
  by_cases hkn : kn = n
  · subst hkn
    rw [if_pos rfl]
    have CT := C true
    rw [if_pos rfl] at CT
    clear C
    go_enter Tryz.func87, Tryz.ntmps87
    go_upto_region 1 with fail
    rw [hW.out]
    clear hW
    go_wp2_with fail
    refine CT.mono ?_
    rintro e w1 hA
    obtain ⟨a, c', rfl, h2, h3⟩ := HOUT.out _ _ _ hA
    clear HOUT hA CT
    go_wp2
    go_ret
    exact ⟨a, c', rfl, h2, h3⟩
  · rw [if_neg hkn]
    have CT := C false
    rw [if_neg (by decide)] at CT
    have e1 : (kn == n) = false := by simpa using hkn
    clear C hkn
    go_enter Tryz.func87, Tryz.ntmps87
    go_upto_region 1 with fail
    rw [hW.out]
    clear hW
    go_wp2_with fail
    refine CT.mono ?_
    rintro e w1 hA
    obtain ⟨a, c', rfl, h2, h3⟩ := HOUT.out _ _ _ hA
    clear HOUT hA CT
    go_wp2
    go_ret
    exact ⟨a, c', rfl, h2, h3⟩

set_option maxHeartbeats 2000000 in
set_option maxRecDepth 100000 in
theorem over_any (b off c : Nat) (vs : List SlotV) (k : Nat) (hk : k < 32) (n : Int) (w : World) (hv : VwI w b off vs) :
    Calls Tryz.prog 88 #[.agg #[.slice (some ⟨b, off, none⟩) 32 c], .int .i64 (k : Int), .int .i64 n] w fun e w' => ReachAns w (comesL vs ⟨5, n⟩ k) e w' := by
  obtain ⟨W, hW, b0, b1, hbW, hsW⟩ := boxes2 w [.slice (some ⟨b, off, none⟩) 32 c] [.int .i64 n] 70 3
  have q0 := b0.cell 0 _ rfl
  obtain ⟨aI, cI, aR, cR, hO⟩ := hv.obj k hk
  obtain ⟨-, o2, -, hI, -⟩ := hO W hbW
  have hkI : (k : Int) < 32 := by omega
  rw [comes_5]
  have CF := containsFunc_any n (w.heap.size + 1) (intsM vs k) aI cI W hI (by have := hv.ints k; omega) (b1.cell 0 _ rfl)
  have C := onlyIf_any (overB n (intsM vs k)) k W
  have HOUT : Hid (∀ R e w', ReachAns W R e w' → ReachAns w R e w') := fun R e w' ⟨a, c, h1, h2, h3⟩ => ⟨a, c, h1, h2.widen hbW.size (Nat.le_refl _) (Nat.le_refl _), hbW.trans (h3.mono hbW.size)⟩
  clear b0 b1 hsW hv hO hI
  generalize (if overB n (intsM vs k) = true then [(k : Int)] else []) = RR at *
  generalize overB n (intsM vs k) = B at *
  generalize (intsM vs k).length = ln at *
  go_enter Tryz.func88, Tryz.ntmps88
  go_upto_region 1 with fail
  rw [hW.out]
  clear hW
  go_wp2_with fail
  refine CF.mono ?_
  rintro e w1 ⟨rfl, rfl⟩
  clear CF
  go_wp2_with fail
  refine C.mono ?_
  rintro e w2 hA
  obtain ⟨a, c', rfl, h2, h3⟩ := HOUT.out _ _ _ hA
  clear HOUT hA C
  go_wp2
  go_ret
  exact ⟨a, c', rfl, h2, h3⟩

set_option maxHeartbeats 2000000 in
set_option maxRecDepth 100000 in
theorem deep_any (b off c : Nat) (vs : List SlotV) (k : Nat) (n : Int) (w : World) (hR : ∀ u, Below w.heap.size w u → Calls Tryz.prog 13 #[.slice (some ⟨b, off, none⟩) 32 c, .int .i64 (k : Int)] u fun e w' => ReachAns u (reachL (runM vs 40 k).met) e w') :
    Calls Tryz.prog 86 #[.agg #[.slice (some ⟨b, off, none⟩) 32 c], .int .i64 (k : Int), .int .i64 n] w fun e w' => ReachAns w (comesL vs ⟨3, n⟩ k) e w' := by
  obtain ⟨W, hW, b0, hbW, hsW⟩ := boxes1 w [.slice (some ⟨b, off, none⟩) 32 c] 70
  have q0 := b0.cell 0 _ rfl
  rw [comes_3]
  have C := hR W hbW
  have HOUT : Hid (∀ R e w', ReachAns W R e w' → ReachAns w R e w') := fun R e w' ⟨a, c, h1, h2, h3⟩ => ⟨a, c, h1, h2.widen hbW.size (Nat.le_refl _) (Nat.le_refl _), hbW.trans (h3.mono hbW.size)⟩
  clear b0 hsW hR
  generalize reachL (runM vs 40 k).met = RR at *
  go_enter Tryz.func86, Tryz.ntmps86
  go_upto_region 1 with fail
  rw [hW.out]
  clear hW
  go_wp2_with fail
  refine C.mono ?_
  rintro e w2 hA
  obtain ⟨a, c', rfl, h2, h3⟩ := HOUT.out _ _ _ hA
  clear HOUT hA C
  go_wp2
  go_ret
  exact ⟨a, c', rfl, h2, h3⟩

set_option maxHeartbeats 2000000 in
set_option maxRecDepth 100000 in
theorem all_any (b off c : Nat) (vs : List SlotV) (k : Nat) (hk : k < 32) (n : Int) (w : World) (hv : VwI w b off vs) :
    Calls Tryz.prog 85 #[.agg #[.slice (some ⟨b, off, none⟩) 32 c], .int .i64 (k : Int), .int .i64 n] w fun e w' => ReachAns w (comesL vs ⟨2, n⟩ k) e w' := by
  obtain ⟨W, hW, b0, hbW, hsW⟩ := boxes1 w [.slice (some ⟨b, off, none⟩) 32 c] 70
  obtain ⟨aI, cI, aR, cR, hO⟩ := hv.obj k hk
  have hkI : (k : Int) < 32 := by omega
  rw [comes_2]
  have HC : Hid (∀ u, Below W.heap.size W u → Calls Tryz.prog 34 #[.agg #[.slice (some ⟨b, off, none⟩) 32 c], .slice aR (refsM vs k).length cR] u fun e w' => ReachAns u ((refsM vs k).filter (hasM vs)) e w') := fun u hu => there_any b off c vs (refsM vs k) aR cR u (hv.below (hbW.trans (hu.mono hbW.size))) (hO u (hbW.trans (hu.mono hbW.size))).2.2.2.2 (hv.rng k) (by have := hv.refs k; omega)
  have HOUT : Hid (∀ u R e w', Below W.heap.size W u → ReachAns u R e w' → ReachAns w R e w') := fun u R e w' hu ⟨a, c, h1, h2, h3⟩ => ⟨a, c, h1, h2.widen (Nat.le_trans hbW.size hu.size) (Nat.le_refl _) (Nat.le_refl _), (hbW.trans (hu.mono hbW.size)).trans (h3.mono (Nat.le_trans hbW.size hu.size))⟩
  have HK : Hid (∀ u, Below W.heap.size W u → u.cell? ⟨w.heap.size, 0, none⟩ = some (.slice (some ⟨b, off, none⟩) 32 c) ∧ u.cell? ⟨b, off + k * 4 + 3, none⟩ = some (.slice aR (refsM vs k).length cR)) := fun u hu => ⟨(b0.below hu b0.lt).cell 0 _ rfl, (hO u (hbW.trans (hu.mono hbW.size))).2.2.1⟩
  clear b0 hsW hv hO
  generalize (refsM vs k).filter (hasM vs) = RR at *
  generalize (refsM vs k).length = ln at *
  go_enter Tryz.func85, Tryz.ntmps85
  go_upto_region 1 with fail
  rw [hW.out]
  clear hW
  have hh := HK.out W (Below.refl _ _)
  go_region_held3 (fun u => u.cell? ⟨w.heap.size, 0, none⟩ = some (.slice (some ⟨b, off, none⟩) 32 c) ∧ u.cell? ⟨b, off + k * 4 + 3, none⟩ = some (.slice aR ln cR))
    (first | exact HK.out _ hw1 | go_keep)
    (first
    | (go_at_call 34; refine (HC.out _ ((Below.refl _ _).drew)).mono ?_; rintro e w1 ⟨a, c', rfl, h2, h3⟩; have hw1 : Below W.heap.size W w1 := (Below.refl _ _).drew.trans h3)
    | fail)
  obtain ⟨a', c'', e', h2', h3'⟩ := HOUT.out _ _ _ _ ((Below.refl _ _).drew) ⟨a, c', rfl, h2, h3⟩
  go_wp2
  go_ret
  exact ⟨a', c'', e', h2', h3'⟩

set_option maxHeartbeats 2000000 in
set_option maxRecDepth 100000 in
theorem nth_any (b off c : Nat) (vs : List SlotV) (k : Nat) (hk : k < 32) (m : Nat) (w : World) (hv : VwI w b off vs) :
    Calls Tryz.prog 84 #[.agg #[.slice (some ⟨b, off, none⟩) 32 c], .int .i64 (k : Int), .int .i64 (m : Int)] w fun e w' => ReachAns w (comesL vs ⟨1, m⟩ k) e w' := by
  obtain ⟨W, hW, b0, hbW, hsW⟩ := boxes1 w [.slice (some ⟨b, off, none⟩) 32 c] 70
  have q0 := b0.cell 0 _ rfl
  obtain ⟨aI, cI, aR, cR, hO⟩ := hv.obj k hk
  obtain ⟨-, -, o3, -, hR⟩ := hO W hbW
  have hkI : (k : Int) < 32 := by omega
  rw [comes_1, Int.toNat_natCast]
  have hL5 := hv.refs k
  by_cases hm : m < (refsM vs k).length
  · rw [if_pos hm]
    obtain ⟨bf, of, rfl, hcf⟩ := hR (by intro e; rw [e] at hm; simp at hm)
    have f0 := hcf m hm
    have hrr := hv.rng k _ (mem_getDM hm)
    have HC : Hid (∀ u, Below W.heap.size W u → ∀ g, ReadsI u (some ⟨g, 0, none⟩) [(refsM vs k).getD m 0] → Calls Tryz.prog 34 #[.agg #[.slice (some ⟨b, off, none⟩) 32 c], .slice (some ⟨g, 0, none⟩) 1 1] u fun e w' => ReachAns u ([(refsM vs k).getD m 0].filter (hasM vs)) e w') := fun u hu g hg => there_any b off c vs [(refsM vs k).getD m 0] (some ⟨g, 0, none⟩) 1 u (hv.below (hbW.trans (hu.mono hbW.size))) hg (fun r hr => by simp at hr; rw [hr]; simpa [List.getD] using hrr) (by simp)
    have HOUT : Hid (∀ u R e w', Below W.heap.size W u → ReachAns u R e w' → ReachAns w R e w') := fun u R e w' hu ⟨a, c, h1, h2, h3⟩ => ⟨a, c, h1, h2.widen (Nat.le_trans hbW.size hu.size) (Nat.le_refl _) (Nat.le_refl _), (hbW.trans (hu.mono hbW.size)).trans (h3.mono (Nat.le_trans hbW.size hu.size))⟩
    have HK : Hid (∀ u, Below W.heap.size W u → u.cell? ⟨w.heap.size, 0, none⟩ = some (.slice (some ⟨b, off, none⟩) 32 c) ∧ u.cell? ⟨bf, of + m, none⟩ = some (.int .i64 ((refsM vs k).getD m 0))) := fun u hu => by
      refine ⟨(b0.below hu b0.lt).cell 0 _ rfl, ?_⟩
      rw [hu.cell (p := ⟨bf, of + m, none⟩) (block_lt f0)]
      exact f0
    clear b0 hsW hv hO hR hcf f0 hrr
    have hmI : (m : Int) < ((refsM vs k).length : Int) := by omega
    have hmN : ¬ (m : Int) ≥ ((refsM vs k).length : Int) := by omega
    generalize (refsM vs k).getD m 0 = y at *
    generalize (refsM vs k).length = ln at *
    generalize [y].filter (hasM vs) = RR at *
    go_enter Tryz.func84, Tryz.ntmps84
    go_upto_region 1 with fail
    rw [hW.out]
    clear hW
    go_wp2_with fail
    have HBD : Hid (Below W.heap.size W (W.alloc (.cells #[.int .i64 y] 3)).drew) := ((Below.refl _ _).alloc (Nat.le_refl _) _).drew
    have HRD : Hid (ReadsI (W.alloc (.cells #[.int .i64 y] 3)).drew (some ⟨W.heap.size, 0, none⟩) [y]) := (readsI_one W y _).below ((Below.refl _ _).drew)
    have hh := HK.out W (Below.refl _ _)
    go_region_held3 (fun u => u.cell? ⟨w.heap.size, 0, none⟩ = some (.slice (some ⟨b, off, none⟩) 32 c) ∧ u.cell? ⟨bf, of + m, none⟩ = some (.int .i64 y))
      (first | exact HK.out _ hw1 | go_keep)
      (first
      | (go_at_call 34; refine (HC.out _ HBD.out _ HRD.out).mono ?_; rintro e w1 ⟨a, c', rfl, h2, h3⟩; have hw1 : Below W.heap.size W w1 := HBD.out.trans (h3.mono HBD.out.size))
      | fail)
    obtain ⟨a', c'', e', h2', h3'⟩ := HOUT.out _ _ _ _ HBD.out ⟨a, c', rfl, h2, h3⟩
    go_wp2
    go_ret
    exact ⟨a', c'', e', h2', h3'⟩
  · rw [if_neg hm]
    have hmN : (m : Int) ≥ ((refsM vs k).length : Int) := by omega
    have HA : Hid (ReachAns w [] (.returned (.slice none 0 0)) W) := ⟨none, 0, rfl, ownI_nil _ _ _ (Nat.le_refl _), hbW⟩
    clear b0 hsW hv hO hR
    generalize (refsM vs k).length = ln at *
    go_enter Tryz.func84, Tryz.ntmps84
    go_upto_region 1 with fail
    rw [hW.out]
    clear hW
    go_wp2
    go_ret
    exact HA.out
end Go.Proofs.YtajcffchopcamaaGreatDoor
