/- Several texts in one, in their order. -/
import Derived.Test.YtajcffchopcamaaGreatDoorPFnPathsx14
import Derived.Test.YtajcffchopcamaaGreatDoorPFnPathsx16
import Derived.Test.YtajcffchopcamaaGreatDoorPFnPathsx23
import Derived.Test.YtajcffchopcamaaGreatDoorPFnPathsx22
/- The walks of spec.l11Reach, Reach. -/
namespace Go.Proofs.YtajcffchopcamaaGreatDoor
open Go.RowKit

set_option maxHeartbeats 8000000 in
set_option maxRecDepth 100000 in
theorem l11Reach_any (b off c : Nat) (ss : List SlotA) (rn : Nat) (hrn : rn ≤ 31) (hv : viewB (vsOf ss) = true) (w : World) (hr : ReadsVw w (some ⟨b, off, none⟩) ss) (h32 : ss.length = 32) :
    Calls Tryz.prog 66 #[.slice (some ⟨b, off, none⟩) 32 c, .int .i64 (rn : Int)] w fun e w' => ∃ g, e = .returned (.slice (some ⟨g, 0, none⟩) 32 32) ∧ OwnBl w' w.heap.size w'.heap.size (some ⟨g, 0, none⟩) 32 (runM (vsOf ss) 40 rn).met ∧ Below w.heap.size w w' := by
  obtain ⟨i0, hi, hz0, hz1, hz2⟩ := info_parts Tryz.infoBool
  have HV : Hid (∀ u, Below w.heap.size w u → ∀ k : Nat, k < 32 → u.cell? ⟨b, off + k * 4, none⟩ = some (.bool ((vsOf ss).getD k noS).has)) := fun u hu k hk => (view_cells hr h32 hu k hk).1
  have HF : Hid (∀ k : Nat, k < 32 → ∃ aR cR, ∀ u, Below w.heap.size w u → u.cell? ⟨b, off + k * 4 + 3, none⟩ = some (.slice aR (refsM (vsOf ss) k).length cR) ∧ ReadsI u aR (refsM (vsOf ss) k)) := fun k hk => view_refs hr h32 k hk
  have HRG : Hid (RngM (vsOf ss)) := viewB_rng hv
  have HLN : Hid (∀ i, (refsM (vsOf ss) i).length ≤ 5) := viewB_refs hv
  have HHAS : Hid (∀ k : Nat, hasM (vsOf ss) k = ((vsOf ss).getD k noS).has) := fun k => by rw [hasM, Int.toNat_natCast]
  clear hr h32 hv
  generalize vsOf ss = vs at *
  have HRUN : Hid (∀ S Q k, Bfs vs rn S Q k → ¬ k < Q.length → S = (runM vs 40 rn).met) := fun S Q k h hk => bfs_run HRG.out (by omega) h hk
  generalize (runM vs 40 rn).met = FM at *
  have hrI : (rn : Int) < 32 := by omega
  go_enter Tryz.func66, Tryz.ntmps66
  go_upto_region 2 with (first | (at_make; refine wpList_make_full _ rfl _ _ 73 rfl w.heap.size 4 i0 (.bool false) 1 Tryz.underlying73 hi hz0 hz1 _ _ _ _ 32 rfl rfl rfl rfl (by rw [hz2]; omega) (by simp [maxLen]) (Nat.le_refl _) ?_; intro w3 hown3 hgrow3) | fail)
  have hB3 : Below w.heap.size w w3 := (Below.refl _ _).grown hgrow3 (Nat.le_refl _) (fun k h => by cases h)
  have hg3 : w.heap.size < w3.heap.size := (hown3.lt _ rfl).2
  have ho3 : OwnBl w3 w.heap.size w3.heap.size (some ⟨w.heap.size, 0, none⟩) 32 (List.replicate 32 false) := by
    refine ⟨?_, Nat.le_refl _, fun k hk => by cases hk; exact hg3⟩
    have := hown3
    rw [madeB] at this
    exact this
  obtain ⟨V, HVV⟩ : ∃ V, Hid (w3.alloc (.cells #[] 3) = V) := ⟨_, rfl⟩
  have HS0 : Hid (SpI w V w.heap.size (some ⟨w3.heap.size, 0, none⟩) 0 (List.replicate 32 false) []) := by
    have ha := (Below.refl w3.heap.size w3).alloc (Nat.le_refl _) (.cells #[] 3)
    have h1 := ownI_lit0 w3
    rw [HVV.out] at ha h1
    refine ⟨(ho3.below ha).widen (Nat.le_refl _) ha.size (Nat.le_refl _), h1.widen (by have := hB3.size; omega) (by rw [← HVV.out]; simp) (Nat.le_refl _), fun k hk => by cases hk; show w3.heap.size ≠ w.heap.size; omega, hB3.trans (ha.mono hB3.size)⟩
  have v0 := HV.out V HS0.out.bel rn (by omega)
  clear hown3 hgrow3 ho3 hB3
  go_upto_region 3 with fail
  rw [HVV.out]
  clear HVV
  obtain ⟨g, hg⟩ : ∃ g, Hid (w.heap.size = g) := ⟨_, rfl⟩
  rw [hg.out] at HS0 ⊢
  generalize w3.heap.size = g2 at *
  clear hg3
  cases hhas : (vs.getD rn noS).has with
  | false =>
    rw [hhas] at v0
    have HX : Hid (SpI w V g (some ⟨g2, 0, none⟩) 0 (List.replicate 32 false) [] ∧ Bfs vs rn (List.replicate 32 false) [] 0) := ⟨HS0.out, bfs_none (by rw [HHAS.out]; exact hhas)⟩
    clear HS0 hhas
    go_wp2_with fail
    go_loopw [6, 7] (fun v6 v7 wr => ∃ (S : List Bool) (Q : List Int) (k : Nat) (a : Option Addr) (c : Nat), k ≤ Q.length ∧ Q.length ≤ 32 ∧ v6 = .slice a Q.length c ∧ v7 = .int .i64 k ∧ Hid (SpI w wr g a c S Q ∧ Bfs vs rn S Q k)) (fun _ v7 _ => 33 - (RowKit.intOf v7).toNat)
    case atStart => exact ⟨_, _, 0, _, _, Nat.zero_le _, by have := HX.out.2.sum; omega, rfl, rfl, HX.out⟩
    case round =>
      obtain ⟨S, Q, k, a, c6, hkQ, hQ32, rfl, rfl, hI⟩ := hrel
      clear HX
      by_cases hlt : k < Q.length
      · obtain ⟨xn, hxe, hx32⟩ : ∃ xn : Nat, Q.getD k 0 = xn ∧ xn < 32 := by
          have := hI.out.2.rng _ (mem_getDM hlt)
          exact ⟨(Q.getD k 0).toNat, by omega, by omega⟩
        have HXM : Hid ((xn : Int) ∈ Q ∧ Q.getD k 0 = xn) := ⟨by rw [← hxe]; exact mem_getDM hlt, hxe⟩
        obtain ⟨bt, offt, rfl, hct⟩ := hI.out.1.stk.reads (by intro e; rw [e] at hlt; simp at hlt)
        have t0 := hct k hlt
        rw [hxe] at t0
        obtain ⟨aF, cF, hFR⟩ := HF.out xn hx32
        have hF0 := (hFR wr hI.out.1.bel).1
        have HFI : Hid (_) := HRG.out xn
        have HFL := HLN.out xn
        have HFV : Hid (∀ u, Below w.heap.size w u → ReadsI u aF (refsM vs xn)) := fun u hu => (hFR u hu).2
        have HFE : Hid (∀ r, r ∈ refsM vs xn ↔ r ∈ refsM vs xn) := fun r => Iff.rfl
        obtain ⟨F, HFF⟩ : ∃ F, Hid (refsM vs xn = F) := ⟨_, rfl⟩
        rw [HFF.out] at hF0 HFI HFL HFV
        have hxI : (xn : Int) < 32 := by omega
        have HSP : Hid (SpI w wr g (some ⟨bt, offt, none⟩) c6 S Q ∧ Bfs vs rn S Q k) := hI.out
        clear hI hct hFR hxe HFE
        generalize wr = wp at *
        go_wp2_with fail
        clear t0 hF0
        go_loopw [6, 9] (fun v6 i wr => ∃ (n : Nat) (S1 : List Bool) (Q1 : List Int) (a : Option Addr) (c : Nat), n ≤ F.length ∧ Q1.length ≤ 32 ∧ k < Q1.length ∧ i = .int .i64 n ∧ v6 = .slice a Q1.length c ∧ Hid (SpI w wr g a c S1 Q1 ∧ Bfs vs rn S1 Q1 k ∧ (xn : Int) ∈ Q1 ∧ Q1.getD k 0 = xn ∧ ∀ r ∈ F.take n, hasM vs r = true → metM S1 r = true)) (fun _ i _ => F.length - (RowKit.intOf i).toNat)
        case atStart => exact ⟨0, S, Q, _, _, Nat.zero_le _, hQ32, hlt, rfl, rfl, HSP.out.1, HSP.out.2, HXM.out.1, HXM.out.2, fun r hr => by simp at hr⟩
        case round =>
          obtain ⟨n, S1, Q1, a, c1, hn, hQ1, hkQ1, rfl, rfl, hJ⟩ := hrel
          clear HSP HXM
          by_cases hnl : n < F.length
          · obtain ⟨bf, offf, rfl, hcf⟩ := HFV.out wr hJ.out.1.bel (by intro e; rw [e] at hnl; simp at hnl)
            have f0 := hcf n hnl
            obtain ⟨y, hye, hy32⟩ : ∃ y : Nat, F.getD n 0 = y ∧ y < 32 := by
              have := HFI.out _ (mem_getDM hnl)
              exact ⟨(F.getD n 0).toNat, by omega, by omega⟩
            have HTS : Hid (F.take (n + 1) = F.take n ++ [(y : Int)]) := by rw [Hid, take_step F 0 n hnl, hye]
            have HYM : Hid ((y : Int) ∈ refsM vs xn) := by rw [Hid, HFF.out, ← hye]; exact mem_getDM hnl
            have RNG : Hid (_) := HFI.out
            have HFW : Hid (∀ u, Below w.heap.size w u → u.cell? ⟨bf, offf + n, none⟩ = some (.int .i64 (y : Int))) := fun u hu => by
              obtain ⟨b', o', e, hc⟩ := HFV.out u hu (by intro e; rw [e] at hnl; simp at hnl)
              simp only [Option.some.injEq, Addr.mk.injEq, and_true] at e
              obtain ⟨rfl, rfl⟩ := e
              have := hc n hnl
              rw [hye] at this
              exact this
            rw [hye] at f0
            have v0 := HV.out wr hJ.out.1.bel y hy32
            have m0 := hJ.out.1.cell hJ.out.2.1.len y hy32
            have hyI : (y : Int) < 32 := by omega
            have HJ : Hid (_) := hJ.out
            have HHY : Hid (hasM vs y = (vs.getD y noS).has ∧ metM S1 (y : Int) = S1.getD y false) := ⟨HHAS.out y, by rw [metM, Int.toNat_natCast]⟩
            clear hcf hye hJ HV HHAS HFI HFV HFF
            generalize (vs.getD y noS).has = hb at *
            generalize hmt : S1.getD y false = mt at *
            clear hmt
            cases hb with
            | false =>
              have HQ : Hid (SpI w wr g a c1 S1 Q1 ∧ Bfs vs rn S1 Q1 k ∧ (xn : Int) ∈ Q1 ∧ Q1.getD k 0 = xn ∧ ∀ r ∈ F.take (n + 1), hasM vs r = true → metM S1 r = true) := by
                obtain ⟨j1, j2, j3, j4, j5⟩ := HJ.out
                refine ⟨j1, j2, j3, j4, fun r hr hh => ?_⟩
                rw [HTS.out] at hr
                rcases List.mem_append.1 hr with hr | hr
                · exact j5 r hr hh
                · rw [List.mem_singleton.1 hr, HHY.out.1] at hh
                  cases hh
              clear HJ HTS HYM HFW HHY
              go_wp2_with fail
              go_roundw
              case rel => exact ⟨n + 1, S1, Q1, _, _, by omega, hQ1, hkQ1, by go_num, rfl, HQ⟩
              case measure => simp [RowKit.intOf]; omega
            | true =>
              cases mt with
              | true =>
                have HQ : Hid (SpI w wr g a c1 S1 Q1 ∧ Bfs vs rn S1 Q1 k ∧ (xn : Int) ∈ Q1 ∧ Q1.getD k 0 = xn ∧ ∀ r ∈ F.take (n + 1), hasM vs r = true → metM S1 r = true) := by
                  obtain ⟨j1, j2, j3, j4, j5⟩ := HJ.out
                  refine ⟨j1, j2, j3, j4, fun r hr hh => ?_⟩
                  rw [HTS.out] at hr
                  rcases List.mem_append.1 hr with hr | hr
                  · exact j5 r hr hh
                  · rw [List.mem_singleton.1 hr]; exact HHY.out.2
                clear HJ HTS HYM HFW HHY
                go_wp2_with fail
                go_roundw
                case rel => exact ⟨n + 1, S1, Q1, _, _, by omega, hQ1, hkQ1, by go_num, rfl, HQ⟩
                case measure => simp [RowKit.intOf]; omega
              | false =>
                have z7 := HJ.out.1.met.1.frozenAt y
                obtain ⟨W1, hW1, hSW1⟩ := HJ.out.1.set y
                have fW := HFW.out W1 hSW1.bel
                have HSW : Hid (SpI w W1 g a c1 (S1.set y true) Q1) := hSW1
                have hlo := hSW1.bel.size
                have HB : Hid (Bfs vs rn (S1.set y true) (Q1 ++ [(y : Int)]) k ∧ (xn : Int) ∈ Q1 ++ [(y : Int)] ∧ (Q1 ++ [(y : Int)]).getD k 0 = xn ∧ (Q1 ++ [(y : Int)]).length ≤ 32 ∧ ∀ r ∈ F.take (n + 1), hasM vs r = true → metM (S1.set y true) r = true) := by
                  obtain ⟨j1, j2, j3, j4, j5⟩ := HJ.out
                  have hp := j2.push j3 HYM.out (by omega) (HHY.out.1) (HHY.out.2) (by omega)
                  rw [Int.toNat_natCast] at hp
                  refine ⟨hp, List.mem_append.2 (.inl j3), ?_, by have := hp.sum; omega, fun r hr hh => ?_⟩
                  · rw [← j4]; simp [List.getD, List.getElem?_append_left hkQ1]
                  · have hset := metM_set (S := S1) (x := (y : Int)) (i := r) j2.len (by omega)
                    rw [Int.toNat_natCast] at hset
                    rw [HTS.out] at hr
                    rcases List.mem_append.1 hr with hr | hr
                    · have h5 := j5 r hr hh
                      by_cases h0 : 0 ≤ r
                      · rw [hset h0, h5]; rfl
                      · exfalso; have := RNG.out r (List.take_subset _ _ hr); omega
                    · rw [List.mem_singleton.1 hr] at hset ⊢
                      rw [hset (by omega)]; simp
                clear HJ HTS HYM HHY hSW1
                go_upto_region 15 with fail
                rw [hW1.out]
                clear hW1 f0 m0 v0 z7
                have ho := HSW.out.stk.below ((Below.refl _ _).alloc (Nat.le_refl _) (.cells #[.int .i64 (y : Int)] 3))
                go_wp2_with (first | (at_builtin; refine append_intsM rfl _ _ rfl w.heap.size W1.heap.size a c1 Q1 rfl ho _ _ [(y : Int)] rfl (readsI_one W1 y _) (fun h => by cases h) (by simp; omega) (by simp; omega) ?_; intro a4 c4 y4 w4 hy4 ho4 hg4 hk4) | fail)
                have HQ : Hid (SpI w w4 g a4 c4 (S1.set y true) y4 ∧ Bfs vs rn (S1.set y true) y4 k ∧ (xn : Int) ∈ y4 ∧ y4.getD k 0 = xn ∧ ∀ r ∈ F.take (n + 1), hasM vs r = true → metM (S1.set y true) r = true) := by
                  rw [hy4.out]
                  exact ⟨by rw [← hy4.out]; exact HSW.out.push ho4 hg4 hk4, HB.out.1, HB.out.2.1, HB.out.2.2.1, HB.out.2.2.2.2⟩
                have HY4 : Hid (y4.length ≤ 32 ∧ k < y4.length) := by
                  rw [hy4.out]
                  refine ⟨HB.out.2.2.2.1, ?_⟩
                  simp only [List.length_append, List.length_cons, List.length_nil]
                  omega
                clear ho4 hg4 hk4 hy4 HSW ho HB
                go_roundw
                case rel => exact ⟨n + 1, S1.set y true, y4, a4, c4, by omega, HY4.out.1, HY4.out.2, by go_num, rfl, HQ⟩
                case measure => simp [RowKit.intOf]; omega
          · have HQ : Hid (SpI w wr g a c1 S1 Q1 ∧ Bfs vs rn S1 Q1 (k + 1)) := by
              obtain ⟨j1, j2, j3, j4, j5⟩ := hJ.out
              rw [List.take_of_length_le (by omega)] at j5
              exact ⟨j1, j2.next (by rw [j4, HFF.out]; exact j5)⟩
            clear hJ HFI HFV HFF HV HHAS
            go_wp2_with fail
            go_roundw
            case rel => exact ⟨S1, Q1, k + 1, a, c1, by omega, hQ1, rfl, by go_num, HQ⟩
            case measure => simp [RowKit.intOf]; omega
      · have HE : Hid (S = FM) := HRUN.out S Q k hI.out.2 hlt
        have HQ : Hid (OwnBl wr w.heap.size wr.heap.size (some ⟨g, 0, none⟩) 32 FM ∧ Below w.heap.size w wr) := ⟨by rw [← HE.out]; exact hI.out.1.met, hI.out.1.bel⟩
        clear hI HE HV HF HRG HLN HHAS HRUN
        go_wp2_with fail
        go_ret
        exact ⟨g, rfl, HQ.out⟩
  | true =>
    rw [hhas] at v0
    have z0 := HS0.out.met.1.frozenAt rn
    have m0 := HS0.out.cell (by simp) rn (by omega)
    obtain ⟨W, hW, hSW⟩ := HS0.out.set rn
    have HSW : Hid (SpI w W g (some ⟨g2, 0, none⟩) 0 ((List.replicate 32 false).set rn true) []) := hSW
    have hlo := hSW.bel.size
    have ho := hSW.stk.below ((Below.refl _ _).alloc (Nat.le_refl _) (.cells #[.int .i64 (rn : Int)] 3))
    have HX0 : Hid (Bfs vs rn ((List.replicate 32 false).set rn true) [(rn : Int)] 0) := by
      have := bfs_one (vs := vs) (root := rn) (by omega) (by rw [HHAS.out]; exact hhas)
      rwa [Int.toNat_natCast] at this
    clear HS0 hhas hSW
    go_upto_region 5 with fail
    rw [hW.out]
    clear hW z0 m0 v0
    go_upto_region 6 with (first | (at_builtin; refine append_intsM rfl _ _ rfl w.heap.size W.heap.size (some ⟨g2, 0, none⟩) 0 [] rfl ho _ _ [(rn : Int)] rfl (readsI_one W rn _) (fun h => by cases h) (by simp) (by simp; omega) ?_; intro a4 c4 y4 w4 hy4 ho4 hg4 hk4) | fail)
    have HX : Hid (SpI w w4 g a4 c4 ((List.replicate 32 false).set rn true) y4 ∧ Bfs vs rn ((List.replicate 32 false).set rn true) y4 0) := by
      have e : y4 = [(rn : Int)] := hy4.out
      exact ⟨HSW.out.push ho4 hg4 hk4, by rw [e]; exact HX0.out⟩
    clear ho4 hg4 hk4 hy4 HSW ho HX0 hlo
    go_wp2_with fail
    go_loopw [6, 7] (fun v6 v7 wr => ∃ (S : List Bool) (Q : List Int) (k : Nat) (a : Option Addr) (c : Nat), k ≤ Q.length ∧ Q.length ≤ 32 ∧ v6 = .slice a Q.length c ∧ v7 = .int .i64 k ∧ Hid (SpI w wr g a c S Q ∧ Bfs vs rn S Q k)) (fun _ v7 _ => 33 - (RowKit.intOf v7).toNat)
    case atStart => exact ⟨_, _, 0, _, _, Nat.zero_le _, by have := HX.out.2.sum; omega, rfl, rfl, HX.out⟩
    case round =>
      obtain ⟨S, Q, k, a, c6, hkQ, hQ32, rfl, rfl, hI⟩ := hrel
      clear HX
      by_cases hlt : k < Q.length
      · obtain ⟨xn, hxe, hx32⟩ : ∃ xn : Nat, Q.getD k 0 = xn ∧ xn < 32 := by
          have := hI.out.2.rng _ (mem_getDM hlt)
          exact ⟨(Q.getD k 0).toNat, by omega, by omega⟩
        have HXM : Hid ((xn : Int) ∈ Q ∧ Q.getD k 0 = xn) := ⟨by rw [← hxe]; exact mem_getDM hlt, hxe⟩
        obtain ⟨bt, offt, rfl, hct⟩ := hI.out.1.stk.reads (by intro e; rw [e] at hlt; simp at hlt)
        have t0 := hct k hlt
        rw [hxe] at t0
        obtain ⟨aF, cF, hFR⟩ := HF.out xn hx32
        have hF0 := (hFR wr hI.out.1.bel).1
        have HFI : Hid (_) := HRG.out xn
        have HFL := HLN.out xn
        have HFV : Hid (∀ u, Below w.heap.size w u → ReadsI u aF (refsM vs xn)) := fun u hu => (hFR u hu).2
        have HFE : Hid (∀ r, r ∈ refsM vs xn ↔ r ∈ refsM vs xn) := fun r => Iff.rfl
        obtain ⟨F, HFF⟩ : ∃ F, Hid (refsM vs xn = F) := ⟨_, rfl⟩
        rw [HFF.out] at hF0 HFI HFL HFV
        have hxI : (xn : Int) < 32 := by omega
        have HSP : Hid (SpI w wr g (some ⟨bt, offt, none⟩) c6 S Q ∧ Bfs vs rn S Q k) := hI.out
        clear hI hct hFR hxe HFE
        generalize wr = wp at *
        go_wp2_with fail
        clear t0 hF0
        go_loopw [6, 9] (fun v6 i wr => ∃ (n : Nat) (S1 : List Bool) (Q1 : List Int) (a : Option Addr) (c : Nat), n ≤ F.length ∧ Q1.length ≤ 32 ∧ k < Q1.length ∧ i = .int .i64 n ∧ v6 = .slice a Q1.length c ∧ Hid (SpI w wr g a c S1 Q1 ∧ Bfs vs rn S1 Q1 k ∧ (xn : Int) ∈ Q1 ∧ Q1.getD k 0 = xn ∧ ∀ r ∈ F.take n, hasM vs r = true → metM S1 r = true)) (fun _ i _ => F.length - (RowKit.intOf i).toNat)
        case atStart => exact ⟨0, S, Q, _, _, Nat.zero_le _, hQ32, hlt, rfl, rfl, HSP.out.1, HSP.out.2, HXM.out.1, HXM.out.2, fun r hr => by simp at hr⟩
        case round =>
          obtain ⟨n, S1, Q1, a, c1, hn, hQ1, hkQ1, rfl, rfl, hJ⟩ := hrel
          clear HSP HXM
          by_cases hnl : n < F.length
          · obtain ⟨bf, offf, rfl, hcf⟩ := HFV.out wr hJ.out.1.bel (by intro e; rw [e] at hnl; simp at hnl)
            have f0 := hcf n hnl
            obtain ⟨y, hye, hy32⟩ : ∃ y : Nat, F.getD n 0 = y ∧ y < 32 := by
              have := HFI.out _ (mem_getDM hnl)
              exact ⟨(F.getD n 0).toNat, by omega, by omega⟩
            have HTS : Hid (F.take (n + 1) = F.take n ++ [(y : Int)]) := by rw [Hid, take_step F 0 n hnl, hye]
            have HYM : Hid ((y : Int) ∈ refsM vs xn) := by rw [Hid, HFF.out, ← hye]; exact mem_getDM hnl
            have RNG : Hid (_) := HFI.out
            have HFW : Hid (∀ u, Below w.heap.size w u → u.cell? ⟨bf, offf + n, none⟩ = some (.int .i64 (y : Int))) := fun u hu => by
              obtain ⟨b', o', e, hc⟩ := HFV.out u hu (by intro e; rw [e] at hnl; simp at hnl)
              simp only [Option.some.injEq, Addr.mk.injEq, and_true] at e
              obtain ⟨rfl, rfl⟩ := e
              have := hc n hnl
              rw [hye] at this
              exact this
            rw [hye] at f0
            have v0 := HV.out wr hJ.out.1.bel y hy32
            have m0 := hJ.out.1.cell hJ.out.2.1.len y hy32
            have hyI : (y : Int) < 32 := by omega
            have HJ : Hid (_) := hJ.out
            have HHY : Hid (hasM vs y = (vs.getD y noS).has ∧ metM S1 (y : Int) = S1.getD y false) := ⟨HHAS.out y, by rw [metM, Int.toNat_natCast]⟩
            clear hcf hye hJ HV HHAS HFI HFV HFF
            generalize (vs.getD y noS).has = hb at *
            generalize hmt : S1.getD y false = mt at *
            clear hmt
            cases hb with
            | false =>
              have HQ : Hid (SpI w wr g a c1 S1 Q1 ∧ Bfs vs rn S1 Q1 k ∧ (xn : Int) ∈ Q1 ∧ Q1.getD k 0 = xn ∧ ∀ r ∈ F.take (n + 1), hasM vs r = true → metM S1 r = true) := by
                obtain ⟨j1, j2, j3, j4, j5⟩ := HJ.out
                refine ⟨j1, j2, j3, j4, fun r hr hh => ?_⟩
                rw [HTS.out] at hr
                rcases List.mem_append.1 hr with hr | hr
                · exact j5 r hr hh
                · rw [List.mem_singleton.1 hr, HHY.out.1] at hh
                  cases hh
              clear HJ HTS HYM HFW HHY
              go_wp2_with fail
              go_roundw
              case rel => exact ⟨n + 1, S1, Q1, _, _, by omega, hQ1, hkQ1, by go_num, rfl, HQ⟩
              case measure => simp [RowKit.intOf]; omega
            | true =>
              cases mt with
              | true =>
                have HQ : Hid (SpI w wr g a c1 S1 Q1 ∧ Bfs vs rn S1 Q1 k ∧ (xn : Int) ∈ Q1 ∧ Q1.getD k 0 = xn ∧ ∀ r ∈ F.take (n + 1), hasM vs r = true → metM S1 r = true) := by
                  obtain ⟨j1, j2, j3, j4, j5⟩ := HJ.out
                  refine ⟨j1, j2, j3, j4, fun r hr hh => ?_⟩
                  rw [HTS.out] at hr
                  rcases List.mem_append.1 hr with hr | hr
                  · exact j5 r hr hh
                  · rw [List.mem_singleton.1 hr]; exact HHY.out.2
                clear HJ HTS HYM HFW HHY
                go_wp2_with fail
                go_roundw
                case rel => exact ⟨n + 1, S1, Q1, _, _, by omega, hQ1, hkQ1, by go_num, rfl, HQ⟩
                case measure => simp [RowKit.intOf]; omega
              | false =>
                have z7 := HJ.out.1.met.1.frozenAt y
                obtain ⟨W1, hW1, hSW1⟩ := HJ.out.1.set y
                have fW := HFW.out W1 hSW1.bel
                have HSW : Hid (SpI w W1 g a c1 (S1.set y true) Q1) := hSW1
                have hlo := hSW1.bel.size
                have HB : Hid (Bfs vs rn (S1.set y true) (Q1 ++ [(y : Int)]) k ∧ (xn : Int) ∈ Q1 ++ [(y : Int)] ∧ (Q1 ++ [(y : Int)]).getD k 0 = xn ∧ (Q1 ++ [(y : Int)]).length ≤ 32 ∧ ∀ r ∈ F.take (n + 1), hasM vs r = true → metM (S1.set y true) r = true) := by
                  obtain ⟨j1, j2, j3, j4, j5⟩ := HJ.out
                  have hp := j2.push j3 HYM.out (by omega) (HHY.out.1) (HHY.out.2) (by omega)
                  rw [Int.toNat_natCast] at hp
                  refine ⟨hp, List.mem_append.2 (.inl j3), ?_, by have := hp.sum; omega, fun r hr hh => ?_⟩
                  · rw [← j4]; simp [List.getD, List.getElem?_append_left hkQ1]
                  · have hset := metM_set (S := S1) (x := (y : Int)) (i := r) j2.len (by omega)
                    rw [Int.toNat_natCast] at hset
                    rw [HTS.out] at hr
                    rcases List.mem_append.1 hr with hr | hr
                    · have h5 := j5 r hr hh
                      by_cases h0 : 0 ≤ r
                      · rw [hset h0, h5]; rfl
                      · exfalso; have := RNG.out r (List.take_subset _ _ hr); omega
                    · rw [List.mem_singleton.1 hr] at hset ⊢
                      rw [hset (by omega)]; simp
                clear HJ HTS HYM HHY hSW1
                go_upto_region 15 with fail
                rw [hW1.out]
                clear hW1 f0 m0 v0 z7
                have ho := HSW.out.stk.below ((Below.refl _ _).alloc (Nat.le_refl _) (.cells #[.int .i64 (y : Int)] 3))
                go_wp2_with (first | (at_builtin; refine append_intsM rfl _ _ rfl w.heap.size W1.heap.size a c1 Q1 rfl ho _ _ [(y : Int)] rfl (readsI_one W1 y _) (fun h => by cases h) (by simp; omega) (by simp; omega) ?_; intro a4 c4 y4 w4 hy4 ho4 hg4 hk4) | fail)
                have HQ : Hid (SpI w w4 g a4 c4 (S1.set y true) y4 ∧ Bfs vs rn (S1.set y true) y4 k ∧ (xn : Int) ∈ y4 ∧ y4.getD k 0 = xn ∧ ∀ r ∈ F.take (n + 1), hasM vs r = true → metM (S1.set y true) r = true) := by
                  rw [hy4.out]
                  exact ⟨by rw [← hy4.out]; exact HSW.out.push ho4 hg4 hk4, HB.out.1, HB.out.2.1, HB.out.2.2.1, HB.out.2.2.2.2⟩
                have HY4 : Hid (y4.length ≤ 32 ∧ k < y4.length) := by
                  rw [hy4.out]
                  refine ⟨HB.out.2.2.2.1, ?_⟩
                  simp only [List.length_append, List.length_cons, List.length_nil]
                  omega
                clear ho4 hg4 hk4 hy4 HSW ho HB
                go_roundw
                case rel => exact ⟨n + 1, S1.set y true, y4, a4, c4, by omega, HY4.out.1, HY4.out.2, by go_num, rfl, HQ⟩
                case measure => simp [RowKit.intOf]; omega
          · have HQ : Hid (SpI w wr g a c1 S1 Q1 ∧ Bfs vs rn S1 Q1 (k + 1)) := by
              obtain ⟨j1, j2, j3, j4, j5⟩ := hJ.out
              rw [List.take_of_length_le (by omega)] at j5
              exact ⟨j1, j2.next (by rw [j4, HFF.out]; exact j5)⟩
            clear hJ HFI HFV HFF HV HHAS
            go_wp2_with fail
            go_roundw
            case rel => exact ⟨S1, Q1, k + 1, a, c1, by omega, hQ1, rfl, by go_num, HQ⟩
            case measure => simp [RowKit.intOf]; omega
      · have HE : Hid (S = FM) := HRUN.out S Q k hI.out.2 hlt
        have HQ : Hid (OwnBl wr w.heap.size wr.heap.size (some ⟨g, 0, none⟩) 32 FM ∧ Below w.heap.size w wr) := ⟨by rw [← HE.out]; exact hI.out.1.met, hI.out.1.bel⟩
        clear hI HE HV HF HRG HLN HHAS HRUN
        go_wp2_with fail
        go_ret
        exact ⟨g, rfl, HQ.out⟩
end Go.Proofs.YtajcffchopcamaaGreatDoor

/- The walk of spec.Reach. -/
namespace Go.Proofs.YtajcffchopcamaaGreatDoor
open Go.RowKit

def reachV (vs : List SlotV) (root : Int) : List Int := if (viewB vs && inB root 1 31) = true then reachL (runM vs 40 root).met else []
def ReachAns (w : World) (R : List Int) (e : Ending) (w' : World) : Prop := ∃ a' c', e = .returned (.slice a' R.length c') ∧ OwnI w' w.heap.size w'.heap.size a' c' R ∧ Below w.heap.size w w'
theorem reachAns_none {w w1 : World} (hb : Below w.heap.size w w1) : ReachAns w [] (.returned (.slice (some ⟨w1.heap.size, 0, none⟩) 0 0)) (w1.alloc (.cells #[] 3)) := ⟨_, _, rfl, (ownI_lit0 w1).widen hb.size (by simp) (Nat.le_refl _), hb.alloc hb.size _⟩
theorem bl_cell {w : World} {lo hi g c : Nat} {S : List Bool} (h : OwnBl w lo hi (some ⟨g, 0, none⟩) c S) {k : Nat} (hk : k < S.length) : w.cell? ⟨g, k, none⟩ = some (.bool (S.getD k false)) := by
  obtain ⟨b, off, e, hc⟩ := h.reads (by intro e; rw [e] at hk; simp at hk)
  simp only [Option.some.injEq, Addr.mk.injEq, and_true] at e
  obtain ⟨rfl, rfl⟩ := e
  have := hc k hk
  rwa [Nat.zero_add] at this

end Go.Proofs.YtajcffchopcamaaGreatDoor

/- The walk of spec.l12Comes. -/
namespace Go.Proofs.YtajcffchopcamaaGreatDoor
open Go.RowKit

theorem view_obj {w0 : World} {b off : Nat} {ss : List SlotA} (hr : ReadsVw w0 (some ⟨b, off, none⟩) ss) (h32 : ss.length = 32) (k : Nat) (hk : k < 32) :
    ∃ aI cI aR cR, ∀ u, Below w0.heap.size w0 u → u.cell? ⟨b, off + k * 4 + 1, none⟩ = some (.int .i64 (kindM (vsOf ss) k)) ∧ u.cell? ⟨b, off + k * 4 + 2, none⟩ = some (.slice aI (intsM (vsOf ss) k).length cI) ∧ u.cell? ⟨b, off + k * 4 + 3, none⟩ = some (.slice aR (refsM (vsOf ss) k).length cR) ∧ ReadsI u aI (intsM (vsOf ss) k) ∧ ReadsI u aR (refsM (vsOf ss) k) := by
  refine ⟨(ss.getD k zeroS).aI, (ss.getD k zeroS).cI, (ss.getD k zeroS).aR, (ss.getD k zeroS).cR, fun u hu => ?_⟩
  obtain ⟨b', off', e, hc⟩ := (hr.below hu) (by intro e; rw [e] at h32; simp at h32)
  simp only [Option.some.injEq, Addr.mk.injEq, and_true] at e
  obtain ⟨rfl, rfl⟩ := e
  obtain ⟨h1, h2⟩ := hc k (by omega)
  rw [refsM, kindM, intsM, Int.toNat_natCast, vsOf_at]
  exact ⟨h1 1 _ rfl, h1 2 _ rfl, h1 3 _ rfl, h2.ints, h2.refs⟩
theorem slotB_ints {s : SlotV} (h : slotB s = true) : s.o.ints.length ≤ 5 := by
  unfold slotB at h
  split at h
  · exact (okB_bd h).2.1
  · simp only [Bool.and_eq_true, decide_eq_true_eq] at h
    omega
theorem viewB_ints {vs : List SlotV} (h : viewB vs = true) (i : Int) : (intsM vs i).length ≤ 5 := slotB_ints (viewB_slot h i.toNat)

/-- The marks that are made lie in a row of their own. -/
structure CmI (w0 : World) (g lo hi : Nat) (w wr : World) (A : List Bool) : Prop where
  own : OwnBl wr lo hi (some ⟨g, 0, none⟩) 32 A
  bel : Below w0.heap.size w0 wr
  tch : Touch [g] w wr
  len : A.length = 32
theorem CmI.cell {w0 : World} {g lo hi : Nat} {w wr : World} {A : List Bool} (h : CmI w0 g lo hi w wr A) (k : Nat) (hk : k < 32) : wr.cell? ⟨g, k, none⟩ = some (.bool (A.getD k false)) := bl_cell h.own (by rw [h.len]; exact hk)
theorem CmI.mark {w0 : World} {g lo hi : Nat} {w wr : World} {A : List Bool} (h : CmI w0 g lo hi w wr A) (hg : w0.heap.size ≤ g) (i : Nat) (x : Bool) : ∃ W, Hid (wr.setCell ⟨g, i, none⟩ (.bool x) = W) ∧ Hid (CmI w0 g lo hi w W (A.set i x)) := by
  obtain ⟨W, hW, h1, h2, h3⟩ := h.own.stored i x
  refine ⟨W, hW, h1, h.bel.grown h2 h.bel.size (fun k hk => by cases hk; exact hg), h.tch.trans (Touch.of_grown h2 (fun k hk => by cases hk; simp)), by rw [List.length_set]; exact h.len⟩
theorem CmI.below {w0 : World} {g lo hi : Nat} {w wr u : World} {A : List Bool} (h : CmI w0 g lo hi w wr A) (hu : Below wr.heap.size wr u) : CmI w0 g lo hi w u A :=
  ⟨h.own.below hu, h.bel.trans (hu.mono h.bel.size), h.tch.trans (Touch.of_below hu), h.len⟩

theorem setAll_app (A : List Bool) (l m : List Int) : setAll A (l ++ m) = setAll (setAll A l) m := by simp [setAll, List.foldl_append]
theorem take_stepE (l : List Int) (n : Nat) (h : n < l.length) : l.take (n + 1) = l.take n ++ [l.getD n 0] := by rw [List.take_add_one]; simp [List.getD, h]

theorem set_sameE (X : List Bool) (n : Nat) (b : Bool) (h : n < X.length) (hb : X.getD n false = b) : X.set n b = X := by
  subst hb
  simp [List.getD, h]

def overS (A : List Bool) (k : Nat) (b : Bool) : List Bool := if b = true then A.set k true else A

/-- What l12Comes answers. -/
def ComesAns (w0 : World) (g lo hi : Nat) (w w' : World) (A : List Bool) (e : Ending) : Prop := (∃ v, e = .returned v) ∧ CmI w0 g lo hi w w' A

set_option maxHeartbeats 4000000 in
set_option maxRecDepth 100000 in
theorem l12Comes_any {w0 : World} (b off c : Nat) (ss : List SlotA) (hr : ReadsVw w0 (some ⟨b, off, none⟩) ss) (h32 : ss.length = 32) (hv : viewB (vsOf ss) = true) (s : StepV) (hs : stepB s = true) (k : Nat) (hk : k < 32)
    (g lo hi : Nat) (A : List Bool) (w : World) (hg : w0.heap.size ≤ g) (hI : CmI w0 g lo hi w w A) :
    Calls Tryz.prog 38 #[.slice (some ⟨b, off, none⟩) 32 c, .int .i64 (k : Int), .agg #[.int .i64 s.kd, .int .i64 s.num], .slice (some ⟨g, 0, none⟩) 32 32] w fun e w' => ComesAns w0 g lo hi w w' (comesS (vsOf ss) s A k) e := by
  have HV : Hid (∀ u, Below w0.heap.size w0 u → ∀ k : Nat, k < 32 → u.cell? ⟨b, off + k * 4, none⟩ = some (.bool ((vsOf ss).getD k noS).has)) := fun u hu k hk => (view_cells hr h32 hu k hk).1
  obtain ⟨aI, cI, aR, cR, hO⟩ := view_obj hr h32 k hk
  have HRG : Hid (∀ r ∈ refsM (vsOf ss) k, 0 ≤ r ∧ r ≤ 31) := viewB_rng hv k
  have HLR := viewB_refs hv k
  have HLI := viewB_ints hv k
  have HHAS : Hid (∀ k : Nat, hasM (vsOf ss) k = ((vsOf ss).getD k noS).has) := fun k => by rw [hasM, Int.toNat_natCast]
  have HRE : Hid (∀ u, Below w0.heap.size w0 u → Calls Tryz.prog 66 #[.slice (some ⟨b, off, none⟩) 32 c, .int .i64 (k : Int)] u fun e w' => ∃ g, e = .returned (.slice (some ⟨g, 0, none⟩) 32 32) ∧ OwnBl w' u.heap.size w'.heap.size (some ⟨g, 0, none⟩) 32 (runM (vsOf ss) 40 k).met ∧ Below u.heap.size u w') := fun u hu => l11Reach_any b off c ss k (by omega) hv u (hr.below hu) h32
  have HRL : Hid ((runM (vsOf ss) 40 k).met.length = 32) := runM_len (viewB_rng hv) (by omega) (by omega)
  clear hr h32 hv
  generalize vsOf ss = vs at *
  have hgw : g < w.heap.size := Nat.lt_of_lt_of_le (hI.own.lt g rfl).2 hI.own.2.1
  have hkI : (k : Int) < 32 := by omega
  obtain ⟨W, hW, b0, b1, hbW, hsW⟩ := boxes2 w [.int .i64 s.kd, .int .i64 s.num] [.int .i64 (kindM vs k), .slice aI (intsM vs k).length cI, .slice aR (refsM vs k).length cR] 44 39
  have HIW : Hid (CmI w0 g lo hi w W A) := hI.below hbW
  have HBX : Hid (∀ u A, CmI w0 g lo hi w u A → True) := fun _ _ _ => trivial
  clear HBX
  have HB0 : Hid (∀ u, Touch [g] W u → Box u w.heap.size [.int .i64 s.kd, .int .i64 s.num] 44 ∧ Box u (w.heap.size + 1) [.int .i64 (kindM vs k), .slice aI (intsM vs k).length cI, .slice aR (refsM vs k).length cR] 39) := fun u hu => ⟨b0.touch hu (by simp; omega), b1.touch hu (by simp; omega)⟩
  have HIW2 : Hid (CmI w0 g lo hi W W A) := ⟨HIW.out.own, HIW.out.bel, Touch.refl _ _, HIW.out.len⟩
  have HEND : Hid (∀ u A', CmI w0 g lo hi W u A' → CmI w0 g lo hi w u A') := fun u A' h => ⟨h.own, h.bel, (Touch.of_below hbW).trans h.tch, h.len⟩
  obtain ⟨o1, o2, o3, -, -⟩ := hO (w.alloc (.cells #[.int .i64 s.kd, .int .i64 s.num] 44)) (hI.bel.alloc hI.bel.size _)
  have HOI : Hid (∀ u, Below w0.heap.size w0 u → ReadsI u aI (intsM vs k) ∧ ReadsI u aR (refsM vs k)) := fun u hu => (hO u hu).2.2.2
  have x0 := b0.cell 0 _ rfl
  have x1 := b0.cell 1 _ rfl
  have y0 := b1.cell 0 _ rfl
  have y1 := b1.cell 1 _ rfl
  have y2 := b1.cell 2 _ rfl
  clear b0 b1 hsW hI HIW hO
  have hkd := stepB_kd hs
  have hsm := hs
  clear hs
  obtain ⟨kd, num⟩ := s
  simp only at *
  rcases hkd with rfl | rfl | rfl | rfl | rfl
  · obtain ⟨m, rfl⟩ : ∃ m : Nat, num = m := ⟨num.toNat, by have := hsm; simp [stepB, inB] at this; omega⟩
    have HF : Hid (comesS vs ⟨1, m⟩ A k = if m < (refsM vs k).length then (if hasM vs ((refsM vs k).getD m 0) = true then setAll A [(refsM vs k).getD m 0] else A) else A) := by
      rw [Hid, comesS, comes_1, Int.toNat_natCast]
      split
      · rw [List.filter_cons]
        split
        · simp
        · simp [setAll_nil]
      · rw [setAll_nil]
    rw [HF.out]
    clear HF HLI HRE HRL hsm
    have hR := (HOI.out W HIW2.out.bel).2
    clear HOI
    generalize refsM vs k = F at *
    by_cases hm : m < F.length
    · rw [if_pos hm]
      obtain ⟨bf, of, rfl, hcf⟩ := hR (by intro e; rw [e] at hm; simp at hm)
      have f0 := hcf m hm
      obtain ⟨y, hye, hy32⟩ : ∃ y : Nat, F.getD m 0 = y ∧ y < 32 := by
        have := HRG.out _ (mem_getDM hm)
        exact ⟨(F.getD m 0).toNat, by omega, by omega⟩
      rw [hye] at f0 ⊢
      rw [HHAS.out y, setAll_one]
      have v0 := HV.out W HIW2.out.bel y hy32
      have hyI : (y : Int) < 32 := by omega
      have hmI : (m : Int) < (F.length : Int) := by omega
      clear HRG HHAS HV hcf hye
      generalize (vs.getD y noS).has = hb at *
      cases hb with
      | false =>
        rw [if_neg (by decide)]
        have HE : Hid (CmI w0 g lo hi w W A) := HEND.out _ _ HIW2.out
        clear HIW2 HEND HB0
        go_enter Tryz.func38, Tryz.ntmps38
        go_upto_region 2 with fail
        rw [hW.out]
        clear hW o1 o2 o3
        go_wp2
        exact bodyPost_end (results_none rfl _ _ _) rfl ⟨⟨_, rfl⟩, HE.out⟩
      | true =>
        rw [if_pos rfl]
        obtain ⟨WF, hWF, HX⟩ := HIW2.out.mark hg y true
        have z0 := HIW2.out.cell y hy32
        have fz := HIW2.out.own.1.frozenAt y
        have HE : Hid (CmI w0 g lo hi w WF (A.set y true)) := HEND.out _ _ HX.out
        clear HX HIW2 HEND HB0
        go_enter Tryz.func38, Tryz.ntmps38
        go_upto_region 2 with fail
        rw [hW.out]
        clear hW o1 o2 o3
        go_wp2
        rw [hWF.out]
        exact bodyPost_end (results_none rfl _ _ _) rfl ⟨⟨_, rfl⟩, HE.out⟩
    · rw [if_neg hm]
      have hmI : ¬ (m : Int) < (F.length : Int) := by omega
      have HE : Hid (CmI w0 g lo hi w W A) := HEND.out _ _ HIW2.out
      clear HIW2 HEND HB0 HRG HHAS HV hR
      go_enter Tryz.func38, Tryz.ntmps38
      go_upto_region 2 with fail
      rw [hW.out]
      clear hW o1 o2 o3
      go_wp2
      exact bodyPost_end (results_none rfl _ _ _) rfl ⟨⟨_, rfl⟩, HE.out⟩
  · have HF : Hid (comesS vs ⟨2, num⟩ A k = setAll A ((refsM vs k).filter (hasM vs))) := by rw [Hid, comesS, comes_2]
    rw [HF.out]
    clear HF HLI HRE HRL hsm
    have HRF : Hid (∀ u, Below w0.heap.size w0 u → ReadsI u aR (refsM vs k)) := fun u hu => (HOI.out u hu).2
    clear HOI
    generalize refsM vs k = F at *
    go_enter Tryz.func38, Tryz.ntmps38
    go_upto_region 2 with fail
    rw [hW.out]
    clear hW o1 o2 o3
    go_wp2_with fail
    clear x0 x1 y0 y1 y2
    go_loopw [9] (fun i wr => ∃ n : Nat, n ≤ F.length ∧ i = .int .i64 n ∧ Hid (CmI w0 g lo hi W wr (setAll A ((F.take n).filter (hasM vs))))) (fun i _ => F.length - (RowKit.intOf i).toNat)
    case atStart => exact ⟨0, Nat.zero_le _, rfl, HIW2.out⟩
    case round =>
      obtain ⟨n, hn, rfl, hJ⟩ := hrel
      clear HIW2
      obtain ⟨-, bo⟩ := HB0.out wr hJ.out.tch
      have y2 := bo.cell 2 _ rfl
      clear bo
      by_cases hlt : n < F.length
      · obtain ⟨bf, of, rfl, hcf⟩ := HRF.out wr hJ.out.bel (by intro e; rw [e] at hlt; simp at hlt)
        have f0 := hcf n hlt
        obtain ⟨y, hye, hy32⟩ : ∃ y : Nat, F.getD n 0 = y ∧ y < 32 := by
          have := HRG.out _ (mem_getDM hlt)
          exact ⟨(F.getD n 0).toNat, by omega, by omega⟩
        have HTS : Hid (setAll A ((F.take (n + 1)).filter (hasM vs)) = if (vs.getD y noS).has = true then (setAll A ((F.take n).filter (hasM vs))).set y true else setAll A ((F.take n).filter (hasM vs))) := by
          rw [Hid, take_stepE F n hlt, hye, List.filter_append, setAll_app, List.filter_cons, HHAS.out y]
          split
          · simp only [List.filter_nil]; rw [setAll_one]
          · simp only [List.filter_nil]; rw [setAll_nil]
        rw [hye] at f0
        have v0 := HV.out wr hJ.out.bel y hy32
        have hyI : (y : Int) < 32 := by omega
        clear hcf hye
        obtain ⟨WF, hWF, HX⟩ := hJ.out.mark hg y true
        have z0 := hJ.out.cell y hy32
        have fz := hJ.out.own.1.frozenAt y
        generalize (vs.getD y noS).has = hb at *
        cases hb with
        | false =>
          have HN : Hid (CmI w0 g lo hi W wr (setAll A ((F.take (n + 1)).filter (hasM vs)))) := by rw [HTS.out, if_neg (by decide)]; exact hJ
          clear HX hWF HTS hJ
          go_wp2
          go_roundw
          case rel => exact ⟨n + 1, by omega, by go_num, HN⟩
          case measure => simp [RowKit.intOf]; omega
        | true =>
          have HN : Hid (CmI w0 g lo hi W WF (setAll A ((F.take (n + 1)).filter (hasM vs)))) := by rw [HTS.out, if_pos rfl]; exact HX
          clear HX HTS hJ
          go_wp2
          rw [hWF.out]
          go_roundw
          case rel => exact ⟨n + 1, by omega, by go_num, HN⟩
          case measure => simp [RowKit.intOf]; omega
      · have HE : Hid (CmI w0 g lo hi w wr (setAll A (F.filter (hasM vs)))) := by
          have := HEND.out _ _ hJ.out
          rw [List.take_of_length_le (by omega)] at this
          exact this
        clear HEND HB0 HRG HHAS HV HRF hJ
        go_wp2
        exact bodyPost_end (results_none rfl _ _ _) rfl ⟨⟨_, rfl⟩, HE.out⟩
  · have HF : Hid (comesS vs ⟨3, num⟩ A k = setAll A (reachTo (runM vs 40 k).met 32)) := by rw [Hid, comesS, comes_3]; rfl
    rw [HF.out]
    clear HF HLI HLR HRG hsm HV HHAS HOI
    have CR := HRE.out W HIW2.out.bel
    clear HRE
    generalize (runM vs 40 k).met = M at *
    go_enter Tryz.func38, Tryz.ntmps38
    go_upto_region 2 with fail
    rw [hW.out]
    clear hW o1 o2 o3
    go_wp2_with fail
    refine CR.mono ?_
    clear CR
    rintro e w2 ⟨g2, rfl, ho2, hb2⟩
    have hg2 : W.heap.size ≤ g2 := (ho2.lt g2 rfl).1
    have hsW' := hbW.size
    have HI2 : Hid (CmI w0 g lo hi w2 w2 A) := ⟨HIW2.out.own.below hb2, HIW2.out.bel.trans (hb2.mono HIW2.out.bel.size), Touch.refl _ _, HIW2.out.len⟩
    have HM : Hid (∀ u A', CmI w0 g lo hi w2 u A' → ∀ n, n < 32 → u.cell? ⟨g2, n, none⟩ = some (.bool (M.getD n false))) := fun u A' h n hn => bl_cell (ho2.touch h.tch (fun q hq => by cases hq; simp; omega)) (by have := HRL.out; omega)
    have HEN2 : Hid (∀ u A', CmI w0 g lo hi w2 u A' → CmI w0 g lo hi w u A') := fun u A' h => HEND.out u A' ⟨h.own, h.bel, (Touch.of_below hb2).trans h.tch, h.len⟩
    clear HIW2 HEND HB0 HRL x0 x1 y0 y1 y2 ho2 hb2 hg2 hsW'
    go_wp2_with fail
    go_loopw [11] (fun i wr => ∃ n : Nat, n ≤ 32 ∧ i = .int .i64 n ∧ Hid (CmI w0 g lo hi w2 wr (setAll A (reachTo M n)))) (fun i _ => 32 - (RowKit.intOf i).toNat)
    case atStart => exact ⟨0, Nat.zero_le _, rfl, HI2.out⟩
    case round =>
      obtain ⟨n, hn, rfl, hJ⟩ := hrel
      clear HI2
      by_cases hlt : n < 32
      · have m0 := HM.out wr _ hJ.out n hlt
        have z0 := hJ.out.cell n hlt
        have fz := hJ.out.own.1.frozenAt n
        have hnI : (n : Int) < 32 := by omega
        have HTS : Hid (setAll A (reachTo M (n + 1)) = if M.getD n false = true then (setAll A (reachTo M n)).set n true else setAll A (reachTo M n)) := by
          rw [Hid, reachTo_step]
          split
          · rw [setAll_app, setAll_one]
          · rfl
        have HSM : Hid (∀ b, (setAll A (reachTo M n)).getD n false = b → (setAll A (reachTo M n)).set n b = setAll A (reachTo M n)) := fun b hb => set_sameE _ n b (by rw [hJ.out.len]; exact hlt) hb
        have HMK : Hid (∀ x, ∃ W, Hid (wr.setCell ⟨g, n, none⟩ (.bool x) = W) ∧ Hid (CmI w0 g lo hi w2 W ((setAll A (reachTo M n)).set n x))) := fun x => hJ.out.mark hg n x
        clear hJ
        generalize setAll A (reachTo M n) = X at *
        obtain ⟨Y, HYE⟩ : ∃ Y, Hid (setAll A (reachTo M (n + 1)) = Y) := ⟨_, rfl⟩
        rw [HYE.out] at HTS
        cases hx : X.getD n false with
        | true =>
          rw [hx] at z0
          have e1 := HSM.out true hx
          have HY : Hid (Y = X.set n true) := by rw [Hid, HTS.out, e1]; split <;> rfl
          obtain ⟨WF, hWF, HX⟩ := HMK.out true
          rw [← HY.out] at HX
          clear HTS HSM HMK HY e1 hx
          go_wp2
          rw [hWF.out]
          go_roundw
          case rel => exact ⟨n + 1, by omega, by go_num, by rw [HYE.out]; exact HX⟩
          case measure => simp [RowKit.intOf]; omega
        | false =>
          rw [hx] at z0
          cases hmn : M.getD n false with
          | true =>
            rw [hmn] at m0
            obtain ⟨WF, hWF, HX⟩ := HMK.out true
            have HY : Hid (Y = X.set n true) := by rw [Hid, HTS.out, hmn, if_pos rfl]
            rw [← HY.out] at HX
            clear HTS HSM HMK HY hx hmn
            go_wp2
            rw [hWF.out]
            go_roundw
            case rel => exact ⟨n + 1, by omega, by go_num, by rw [HYE.out]; exact HX⟩
            case measure => simp [RowKit.intOf]; omega
          | false =>
            rw [hmn] at m0
            obtain ⟨WF, hWF, HX⟩ := HMK.out false
            have HY : Hid (Y = X.set n false) := by rw [Hid, HTS.out, hmn, if_neg (by decide), HSM.out false hx]
            rw [← HY.out] at HX
            clear HTS HSM HMK HY hx hmn
            go_wp2
            rw [hWF.out]
            go_roundw
            case rel => exact ⟨n + 1, by omega, by go_num, by rw [HYE.out]; exact HX⟩
            case measure => simp [RowKit.intOf]; omega
      · have HE : Hid (CmI w0 g lo hi w wr (setAll A (reachTo M 32))) := by
          have := HEN2.out _ _ hJ.out
          rw [show n = 32 from by omega] at this
          exact this
        clear HEN2 HM hJ
        go_wp2
        exact bodyPost_end (results_none rfl _ _ _) rfl ⟨⟨_, rfl⟩, HE.out⟩
  · have HF : Hid (comesS vs ⟨4, num⟩ A k = if kindM vs k = num then A.set k true else A) := by
      rw [Hid, comesS, comes_4]
      split
      · rw [setAll_one]
      · rw [setAll_nil]
    rw [HF.out]
    clear HF HRG HLR HLI HRE HRL HOI
    generalize kindM vs k = kn at *
    by_cases hkn : kn = num
    · subst hkn
      rw [if_pos rfl]
      obtain ⟨WF, hWF, HX⟩ := HIW2.out.mark hg k true
      have z0 := HIW2.out.cell k hk
      have f0 := HIW2.out.own.1.frozenAt k
      have HE : Hid (CmI w0 g lo hi w WF (A.set k true)) := HEND.out _ _ HX.out
      clear HX HIW2 HEND HB0 HV HHAS
      go_enter Tryz.func38, Tryz.ntmps38
      go_upto_region 2 with fail
      rw [hW.out]
      clear hW o1 o2 o3
      go_wp2
      rw [hWF.out]
      exact bodyPost_end (results_none rfl _ _ _) rfl ⟨⟨_, rfl⟩, HE.out⟩
    · rw [if_neg hkn]
      have e1 : (kn == num) = false := by simpa using hkn
      have HE : Hid (CmI w0 g lo hi w W A) := HEND.out _ _ HIW2.out
      clear HIW2 HEND HB0 HV HHAS hkn
      go_enter Tryz.func38, Tryz.ntmps38
      go_upto_region 2 with fail
      rw [hW.out]
      clear hW o1 o2 o3
      go_wp2
      exact bodyPost_end (results_none rfl _ _ _) rfl ⟨⟨_, rfl⟩, HE.out⟩
  · have HF : Hid (comesS vs ⟨5, num⟩ A k = overS A k (overB num (intsM vs k))) := by
      rw [Hid, comesS, comes_5, overS]
      split
      · rw [setAll_one]
      · rw [setAll_nil]
    rw [HF.out]
    clear HF HLR HRE HRL hsm HRG HV HHAS
    have HRF : Hid (∀ u, Below w0.heap.size w0 u → ReadsI u aI (intsM vs k)) := fun u hu => (HOI.out u hu).1
    clear HOI
    generalize intsM vs k = F at *
    have HLA : A.length = 32 := HIW2.out.len
    go_enter Tryz.func38, Tryz.ntmps38
    go_upto_region 2 with fail
    rw [hW.out]
    clear hW o1 o2 o3
    go_wp2_with fail
    clear x0 x1 y0 y1 y2
    go_loopw [12] (fun i wr => ∃ n : Nat, n ≤ F.length ∧ i = .int .i64 n ∧ Hid (CmI w0 g lo hi W wr (overS A k (overB num (F.take n))))) (fun i _ => F.length - (RowKit.intOf i).toNat)
    case atStart => exact ⟨0, Nat.zero_le _, rfl, HIW2.out⟩
    case round =>
      obtain ⟨n, hn, rfl, hJ⟩ := hrel
      clear HIW2
      obtain ⟨bs, bo⟩ := HB0.out wr hJ.out.tch
      have x1 := bs.cell 1 _ rfl
      have y1 := bo.cell 1 _ rfl
      clear bo bs
      by_cases hlt : n < F.length
      · obtain ⟨bf, of, rfl, hcf⟩ := HRF.out wr hJ.out.bel (by intro e; rw [e] at hlt; simp at hlt)
        have f0 := hcf n hlt
        have HTS : Hid (overB num (F.take (n + 1)) = (overB num (F.take n) || decide (num < F.getD n 0))) := by
          rw [Hid, take_stepE F n hlt, overB, overB, List.any_append]
          simp
        have HQ : Hid (∀ q, CmI w0 g lo hi W (wr.drewN q) (overS A k (overB num (F.take n)))) := fun q => hJ.out.below (below_drewN (Below.refl _ _) q)
        clear hcf hJ
        generalize F.getD n 0 = z at *
        by_cases hz : num < z
        · have hz' : z > num := hz
          have HS1 : Hid ((overS A k (overB num (F.take n))).set k true = overS A k (overB num (F.take (n + 1)))) := by
            rw [Hid, HTS.out, decide_eq_true hz, Bool.or_true, overS, overS, if_pos rfl]
            split
            · rw [List.set_set]
            · rfl
          clear HTS
          go_wp2_with fail
          go_quiet (fail)
          have HD := HQ.out nq
          obtain ⟨WF, hWF, HX⟩ := HD.mark hg k true
          have z0 := HD.cell k hk
          have fz := HD.own.1.frozenAt k
          have HN : Hid (CmI w0 g lo hi W WF (overS A k (overB num (F.take (n + 1))))) := by rw [← HS1.out]; exact HX
          clear HX HQ HD HS1
          generalize wr.drewN nq = wd at *
          go_wp2
          rw [hWF.out]
          go_roundw
          case rel => exact ⟨n + 1, by omega, by go_num, HN⟩
          case measure => simp [RowKit.intOf]; omega
        · have hz' : ¬ z > num := hz
          have HN : Hid (∀ q, CmI w0 g lo hi W (wr.drewN q) (overS A k (overB num (F.take (n + 1))))) := by
            rw [HTS.out, decide_eq_false hz, Bool.or_false]; exact HQ
          clear HTS HQ
          go_wp2_with fail
          go_quiet (fail)
          have HD : Hid (_) := HN.out nq
          generalize wr.drewN nq = wd at *
          clear HN
          go_wp2
          go_roundw
          case rel => exact ⟨n + 1, by omega, by go_num, HD⟩
          case measure => simp [RowKit.intOf]; omega
      · have HE : Hid (CmI w0 g lo hi w wr (overS A k (overB num F))) := by
          have := HEND.out _ _ hJ.out
          rw [List.take_of_length_le (by omega)] at this
          exact this
        clear HEND HB0 HRF hJ
        go_wp2
        exact bodyPost_end (results_none rfl _ _ _) rfl ⟨⟨_, rfl⟩, HE.out⟩
end Go.Proofs.YtajcffchopcamaaGreatDoor

/- The walk of (impl.walk).there. -/
namespace Go.Proofs.YtajcffchopcamaaGreatDoor
open Go.RowKit

/-- A view that is right, at its place in the first world. -/
structure VwI (w0 : World) (b off : Nat) (vs : List SlotV) : Prop where
  has : ∀ u, Below w0.heap.size w0 u → ∀ k : Nat, k < 32 → u.cell? ⟨b, off + k * 4, none⟩ = some (.bool (vs.getD k noS).has)
  obj : ∀ k : Nat, k < 32 → ∃ aI cI aR cR, ∀ u, Below w0.heap.size w0 u → u.cell? ⟨b, off + k * 4 + 1, none⟩ = some (.int .i64 (kindM vs k)) ∧ u.cell? ⟨b, off + k * 4 + 2, none⟩ = some (.slice aI (intsM vs k).length cI) ∧ u.cell? ⟨b, off + k * 4 + 3, none⟩ = some (.slice aR (refsM vs k).length cR) ∧ ReadsI u aI (intsM vs k) ∧ ReadsI u aR (refsM vs k)
  rng : RngM vs
  refs : ∀ k, (refsM vs k).length ≤ 5
  ints : ∀ k, (intsM vs k).length ≤ 5
theorem vwI_of {w0 : World} {b off : Nat} {ss : List SlotA} (hr : ReadsVw w0 (some ⟨b, off, none⟩) ss) (h32 : ss.length = 32) (hv : viewB (vsOf ss) = true) : VwI w0 b off (vsOf ss) :=
  ⟨fun _ hu k hk => (view_cells hr h32 hu k hk).1, fun k hk => view_obj hr h32 k hk, viewB_rng hv, viewB_refs hv, viewB_ints hv⟩
theorem VwI.below {w0 w1 : World} {b off : Nat} {vs : List SlotV} (h : VwI w0 b off vs) (hb : Below w0.heap.size w0 w1) : VwI w1 b off vs :=
  ⟨fun u hu k hk => h.has u (hb.trans (hu.mono hb.size)) k hk, fun k hk => by
    obtain ⟨aI, cI, aR, cR, ho⟩ := h.obj k hk
    exact ⟨aI, cI, aR, cR, fun u hu => ho u (hb.trans (hu.mono hb.size))⟩, h.rng, h.refs, h.ints⟩

/-- Those of a list that are there, of its first n. -/
def hasTo (vs : List SlotV) (l : List Int) (n : Nat) : List Int := (l.take n).filter (hasM vs)
theorem hasTo_step (vs : List SlotV) (l : List Int) {n y : Nat} (h : n < l.length) (hy : l.getD n 0 = y) : hasTo vs l (n + 1) = if (vs.getD y noS).has = true then hasTo vs l n ++ [(y : Int)] else hasTo vs l n := by
  unfold hasTo
  rw [take_stepE l n h, hy, List.filter_append, List.filter_cons, List.filter_nil]
  have e : hasM vs (y : Int) = (vs.getD y noS).has := by rw [hasM, Int.toNat_natCast]
  rw [e]
  split <;> simp
theorem hasTo_len (vs : List SlotV) (l : List Int) (n : Nat) : (hasTo vs l n).length ≤ n := by
  unfold hasTo
  refine Nat.le_trans (List.length_filter_le _ _) ?_
  rw [List.length_take]
  omega

set_option maxHeartbeats 2000000 in
set_option maxRecDepth 100000 in
theorem there_any (b off c : Nat) (vs : List SlotV) (l : List Int) (al : Option Addr) (cl : Nat) (w : World) (hv : VwI w b off vs) (hr : ReadsI w al l) (hl : ∀ r ∈ l, 0 ≤ r ∧ r ≤ 31) (hn : l.length ≤ 1000) :
    Calls Tryz.prog 34 #[.agg #[.slice (some ⟨b, off, none⟩) 32 c], .slice al l.length cl] w fun e w' => ReachAns w (l.filter (hasM vs)) e w' := by
  obtain ⟨V, HVV, b0, hbV, hoV⟩ : ∃ V, Hid ((w.alloc (.cells #[.slice (some ⟨b, off, none⟩) 32 c] 70)).alloc (.cells #[] 3) = V) ∧ Box V w.heap.size [.slice (some ⟨b, off, none⟩) 32 c] 70 ∧ Below w.heap.size w V ∧ OwnI V (w.heap.size + 1) V.heap.size (some ⟨w.heap.size + 1, 0, none⟩) 0 [] := by
    obtain ⟨U, hU, b, hb, hs⟩ := boxes1 w [.slice (some ⟨b, off, none⟩) 32 c] 70
    have ha := (Below.refl U.heap.size U).alloc (Nat.le_refl _) (.cells #[] 3)
    have hsU : U.heap.size = w.heap.size + 1 := hs
    have h1 := ownI_lit0 U
    rw [hsU] at h1
    refine ⟨U.alloc (.cells #[] 3), ?_, b.below ha b.lt, hb.trans (ha.mono hb.size), h1.widen (by omega) (by simp; omega) (Nat.le_refl _)⟩
    rw [Hid, hU.out]
  have hszV : w.heap.size < V.heap.size := b0.lt
  have HV : Hid (∀ u, Below w.heap.size w u → ∀ k : Nat, k < 32 → u.cell? ⟨b, off + k * 4, none⟩ = some (.bool (vs.getD k noS).has)) := hv.has
  have HRD : Hid (∀ u, Below w.heap.size w u → ReadsI u al l) := fun u hu => hr.below hu
  have HFIN : Hid (l.filter (hasM vs) = hasTo vs l l.length) := by rw [Hid, hasTo, List.take_length]
  have HS0 : Hid (OwnI V (w.heap.size + 1) V.heap.size (some ⟨w.heap.size + 1, 0, none⟩) 0 (hasTo vs l 0) ∧ Box V w.heap.size [.slice (some ⟨b, off, none⟩) 32 c] 70 ∧ Below w.heap.size w V) := ⟨hoV, b0, hbV⟩
  rw [HFIN.out]
  have HRG : Hid (∀ r ∈ l, 0 ≤ r ∧ r ≤ 31) := hl
  clear hv hr hoV b0 HFIN hl hbV
  go_enter Tryz.func34, Tryz.ntmps34
  go_upto_region 2 with fail
  rw [HVV.out]
  clear HVV
  go_wp2_with fail
  go_loopw [5, 11] (fun v5 i wr => ∃ (n : Nat) (a : Option Addr) (c' : Nat), n ≤ l.length ∧ (hasTo vs l n).length ≤ n ∧ i = .int .i64 n ∧ v5 = .slice a (hasTo vs l n).length c' ∧ Hid (OwnI wr (w.heap.size + 1) wr.heap.size a c' (hasTo vs l n) ∧ Box wr w.heap.size [.slice (some ⟨b, off, none⟩) 32 c] 70 ∧ Below w.heap.size w wr)) (fun _ i _ => l.length - (RowKit.intOf i).toNat)
  case atStart => exact ⟨0, _, _, by omega, by simp [hasTo], rfl, rfl, HS0⟩
  case round =>
    obtain ⟨n, a, c5, hn', hln, rfl, rfl, hI⟩ := hrel
    clear HS0
    by_cases hlt : n < l.length
    · obtain ⟨bl, ol, rfl, hcl⟩ := HRD.out wr hI.out.2.2 (by intro e; rw [e] at hlt; simp at hlt)
      have f0 := hcl n hlt
      obtain ⟨y, hye, hy32⟩ : ∃ y : Nat, l.getD n 0 = y ∧ y < 32 := by
        have := HRG.out _ (mem_getDM hlt)
        exact ⟨(l.getD n 0).toNat, by omega, by omega⟩
      have HST : Hid (_ = _) := hasTo_step vs l hlt hye
      rw [hye] at f0
      have v0 := HV.out wr hI.out.2.2 y hy32
      have x0 := hI.out.2.1.cell 0 _ rfl
      have hyI : (y : Int) < 32 := by omega
      have hnI : (n : Int) < (l.length : Int) := by omega
      have HLN2 : Hid (_) := hasTo_len vs l (n + 1)
      clear hcl hye
      generalize (vs.getD y noS).has = mt at *
      obtain ⟨R, HRR⟩ : ∃ R, Hid (hasTo vs l n = R) := ⟨_, rfl⟩
      rw [HRR.out] at hI hln HST ⊢
      cases mt with
      | false =>
        have HQ : Hid (hasTo vs l (n + 1) = R) := HST.out
        clear HST HRR
        go_wp2_with fail
        go_roundw
        case rel => exact ⟨n + 1, a, c5, by omega, by rw [HQ.out]; omega, by go_num, by rw [HQ.out], by rw [HQ.out]; exact hI⟩
        case measure => simp [RowKit.intOf]; omega
      | true =>
        have HQ : Hid (hasTo vs l (n + 1) = R ++ [(y : Int)]) := HST.out
        have hlo := hI.out.2.1.lt
        have ha := (Below.refl wr.heap.size wr).alloc (Nat.le_refl _) (.cells #[.int .i64 (y : Int)] 3)
        have ho := hI.out.1.below ha
        clear HST HRR
        go_wp2_with (first | (at_builtin; refine append_intsM rfl _ _ rfl (w.heap.size + 1) wr.heap.size a c5 R rfl ho _ _ [(y : Int)] rfl (readsI_one wr y _) (fun h => by cases h) (by simp; omega) (by simp; omega) ?_; intro a4 c4 y4 w4 hy4 ho4 hg4 hk4) | fail)
        have HN : Hid (hasTo vs l (n + 1) = y4 ∧ OwnI w4 (w.heap.size + 1) w4.heap.size a4 c4 y4 ∧ Box w4 w.heap.size [.slice (some ⟨b, off, none⟩) 32 c] 70 ∧ Below w.heap.size w w4) := by
          obtain ⟨i1, i2, i4⟩ := hI.out
          have hm := i2.below ha i2.lt
          refine ⟨by rw [HQ.out, hy4.out], ho4, hm.block (hg4.block _ hm.lt (fun e => ?_)), (i4.trans (ha.mono i4.size)).grown hg4 (Nat.le_trans i4.size ha.size) (fun j hj => by have := (i1.1.lt j hj).1; omega)⟩
          have := (i1.1.lt _ e.symm).1
          omega
        clear ho4 hg4 hk4 hy4 ho hI HQ ha
        go_roundw
        case rel => exact ⟨n + 1, a4, c4, by omega, HLN2.out, by go_num, by rw [HN.out.1], by rw [HN.out.1]; exact HN.out.2⟩
        case measure => simp [RowKit.intOf]; omega
    · obtain rfl : n = l.length := by omega
      have HQ : Hid (ReachAns w (hasTo vs l l.length) (.returned (.slice a (hasTo vs l l.length).length c5)) wr) := ⟨a, c5, rfl, hI.out.1.widen (by omega) (Nat.le_refl _) (Nat.le_refl _), hI.out.2.2⟩
      clear hI
      go_wp2_with fail
      go_ret
      exact HQ.out
end Go.Proofs.YtajcffchopcamaaGreatDoor

/- The walks of (impl.walk).over$1, slices.IndexFunc, slices.ContainsFunc at it, and impl.onlyIf. -/
namespace Go.Proofs.YtajcffchopcamaaGreatDoor
open Go.RowKit

set_option maxHeartbeats 400000 in
theorem onlyIf_any (is : Bool) (k : Int) (w : World) : Calls Tryz.prog 110 #[.bool is, .int .i64 k] w fun e w' => ReachAns w (if is = true then [k] else []) e w' := by
  cases is with
  | false =>
    have HA : Hid (ReachAns w [] (.returned (.slice none 0 0)) w) := ⟨none, 0, rfl, ownI_nil _ _ _ (Nat.le_refl _), Below.refl _ _⟩
    rw [if_neg (by decide)]
    go_enter Tryz.func110, Tryz.ntmps110
    go_wp2
    go_ret
    exact HA.out
  | true =>
    rw [if_pos rfl]
    have HA : Hid (ReachAns w [k] (.returned (.slice (some ⟨w.heap.size, 0, none⟩) 1 1)) (w.alloc (.cells #[.int .i64 k] 3))) := by
      refine ⟨_, _, rfl, ⟨?_, Nat.le_refl _, fun j hj => by cases hj; simp⟩, (Below.refl _ _).alloc (Nat.le_refl _) _⟩
      exact World.ownsRow_lit w #[.int .i64 k] 1 (Nat.le_refl _) (by simp [maxLen]) rfl
    go_enter Tryz.func110, Tryz.ntmps110
    go_wp2
    go_ret
    exact HA.out

set_option maxHeartbeats 400000 in
theorem over1_any (z n : Int) (B : Nat) (w : World) (h : w.cell? ⟨B, 0, none⟩ = some (.int .i64 n)) : Calls Tryz.prog 111 #[.int .i64 z, .pointer (some ⟨B, 0, none⟩)] w fun e w' => e = .returned (.bool (decide (n < z))) ∧ w' = w := by
  by_cases hz : n < z
  · have hz' : z > n := hz
    rw [decide_eq_true hz]
    go_enter Tryz.func111, Tryz.ntmps111
    go_wp2
    go_ret
    exact ⟨rfl, rfl⟩
  · have hz' : ¬ z > n := hz
    rw [decide_eq_false hz]
    go_enter Tryz.func111, Tryz.ntmps111
    go_wp2
    go_ret
    exact ⟨rfl, rfl⟩

theorem overB_step (n : Int) (l : List Int) (k : Nat) (h : k < l.length) : overB n (l.take (k + 1)) = (overB n (l.take k) || decide (n < l.getD k 0)) := by
  rw [take_stepE l k h, overB, overB, List.any_append]
  simp
theorem overB_hit (n : Int) (l : List Int) (k : Nat) (h : k < l.length) (hz : n < l.getD k 0) : overB n l = true := by
  rw [overB, List.any_eq_true]
  exact ⟨l.getD k 0, mem_getDM h, decide_eq_true hz⟩

set_option maxHeartbeats 1000000 in
set_option maxRecDepth 100000 in
theorem indexFunc_any (n : Int) (B : Nat) (l : List Int) (a : Option Addr) (c : Nat) (w : World) (hr : ReadsI w a l) (hl : l.length ≤ 1000) (h : w.cell? ⟨B, 0, none⟩ = some (.int .i64 n)) :
    Calls Tryz.prog 115 #[.slice a l.length c, .func (.func 111) #[] #[.pointer (some ⟨B, 0, none⟩)]] w fun e w' => (∃ d : Int, e = .returned (.int .i64 d) ∧ decide (0 ≤ d) = overB n l) ∧ w' = w := by
  have HC : Hid (∀ z, Calls Tryz.prog 111 #[.int .i64 z, .pointer (some ⟨B, 0, none⟩)] w fun e w' => e = .returned (.bool (decide (n < z))) ∧ w' = w) := fun z => over1_any z n B w h
  have HHIT : Hid (∀ k, k < l.length → n < l.getD k 0 → overB n l = true) := fun k hk hz => overB_hit n l k hk hz
  have HSTEP : Hid (∀ k, k < l.length → overB n (l.take (k + 1)) = (overB n (l.take k) || decide (n < l.getD k 0))) := fun k hk => overB_step n l k hk
  have HEND : Hid (overB n (l.take l.length) = overB n l) := by rw [Hid, List.take_length]
  clear h
  obtain ⟨R, HR⟩ : ∃ R, Hid (overB n l = R) := ⟨_, rfl⟩
  rw [HR.out] at HHIT HEND ⊢
  go_enter Tryz.func115, Tryz.ntmps115
  go_wp2_with fail
  go_loopw [8] (fun i wr => ∃ k : Nat, k ≤ l.length ∧ i = .int .i64 k ∧ Hid (overB n (l.take k) = false) ∧ wr = w) (fun i _ => l.length - (RowKit.intOf i).toNat)
  case atStart => exact ⟨0, Nat.zero_le _, rfl, rfl, rfl⟩
  case round =>
    obtain ⟨k, hk, rfl, hno, rfl⟩ := hrel
    by_cases hlt : k < l.length
    · obtain ⟨b, off, rfl, hcell⟩ := hr (by intro e; rw [e] at hlt; simp at hlt)
      have f0 := hcell k hlt
      have HS1 : Hid (_ = _) := HSTEP.out k hlt
      have HH1 : Hid (n < l.getD k 0 → R = true) := fun hz => HHIT.out k hlt hz
      have C := HC.out (l.getD k 0)
      clear hcell
      generalize l.getD k 0 = z at *
      by_cases hz : n < z
      · have HT : Hid (decide (0 ≤ (k : Int)) = R) := by rw [Hid, HH1.out hz]; simp
        rw [decide_eq_true hz] at C
        clear HS1 HH1 HC HHIT HSTEP HEND hno
        go_wp2_with fail
        refine C.mono ?_
        rintro e w' ⟨rfl, rfl⟩
        go_wp2
        go_ret
        exact ⟨⟨k, rfl, HT.out⟩, rfl⟩
      · have HN : Hid (overB n (l.take (k + 1)) = false) := by rw [Hid, HS1.out, hno.out, decide_eq_false hz]; rfl
        rw [decide_eq_false hz] at C
        clear HS1 HH1 hno
        go_wp2_with fail
        refine C.mono ?_
        rintro e w' ⟨rfl, rfl⟩
        clear C f0
        go_wp2
        go_roundw
        case rel => exact ⟨k + 1, by omega, by go_num, HN, by trivial⟩
        case measure => simp [RowKit.intOf]; omega
    · have HT : Hid (decide ((0 : Int) ≤ -1) = R) := by
        have e := HEND.out
        rw [show l.length = k from by omega, hno.out] at e
        rw [Hid, ← e]
        rfl
      clear HC HHIT HSTEP HEND hno
      go_wp2
      go_ret
      exact ⟨⟨-1, rfl, HT.out⟩, rfl⟩

set_option maxHeartbeats 400000 in
theorem containsFunc_any (n : Int) (B : Nat) (l : List Int) (a : Option Addr) (c : Nat) (w : World) (hr : ReadsI w a l) (hl : l.length ≤ 1000) (h : w.cell? ⟨B, 0, none⟩ = some (.int .i64 n)) :
    Calls Tryz.prog 95 #[.slice a l.length c, .func (.func 111) #[] #[.pointer (some ⟨B, 0, none⟩)]] w fun e w' => e = .returned (.bool (overB n l)) ∧ w' = w := by
  have C := indexFunc_any n B l a c w hr hl h
  generalize overB n l = R at *
  go_enter Tryz.func95, Tryz.ntmps95
  go_wp2_with fail
  refine C.mono ?_
  rintro e w' ⟨⟨d, rfl, hd⟩, rfl⟩
  have HD : Hid (_ = _) := hd
  clear hd C
  by_cases h0 : 0 ≤ d
  · go_wp2
    go_ret
    exact ⟨ret_bool (by first | exact HD.out | (rw [← HD.out, decide_eq_true h0])), rfl⟩
  · go_wp2
    go_ret
    exact ⟨ret_bool (by first | exact HD.out | (rw [← HD.out]; simp; omega)), rfl⟩
end Go.Proofs.YtajcffchopcamaaGreatDoor
