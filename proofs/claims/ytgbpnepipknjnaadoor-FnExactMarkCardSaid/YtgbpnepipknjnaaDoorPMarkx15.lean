/- Several texts in one, in their order. -/
import Derived.Test.YtgbpnepipknjnaaDoorPMarkx12
import Derived.Test.YtgbpnepipknjnaaDoorPMarkx14
import Derived.Test.YtgbpnepipknjnaaDoorPMarkx1
import Derived.ProofKit
import Derived.OpenShut
import Derived.ChangeOld
import Derived.Test.YtgbpnepipknjnaaDoorPMarkx4
import Derived.ChangeArms
import Derived.Test.YtgbpnepipknjnaaDoorPMarkx5
/- The walk of spec.Mark. -/
namespace Go.Proofs.YtgbpnepipknjnaaDoor
open Go.RowKit

set_option maxHeartbeats 8000000 in
set_option maxRecDepth 100000 in
/-- Where the view, the root and the room are right. -/
theorem specMark_ok (b off c : Nat) (ss : List SlotA) (rn mn : Nat) (hrn : 1 ≤ rn ∧ rn ≤ 31) (hmn : 1 ≤ mn ∧ mn ≤ 40) (hv : viewB (vsOf ss) = true) (w : World) (hr : ReadsVw w (some ⟨b, off, none⟩) ss) (hf : Fit ss) (h32 : ss.length = 32) :
    Calls Tryd.prog 28 #[.slice (some ⟨b, off, none⟩) 32 c, .int .i64 (rn : Int), .int .i64 (mn : Int)] w fun e w' => MarkAns w ((runM (vsOf ss) mn rn).met, (runM (vsOf ss) mn rn).anew) e w' := by
  have C := l11Call_any (some ⟨b, off, none⟩) c ss rn w hr hf
  rw [h32, hv, show inB (rn : Int) 1 31 = true by simp [inB]; omega] at C
  have HIN : Hid (∀ u, Calls Tryd.prog 47 #[.int .i64 (mn : Int), .int .i64 1, .int .i64 40] u fun e w' => e = .returned (.bool true) ∧ w' = u) := fun u => by
    have := l1In_any mn 1 40 u
    rwa [show inB (mn : Int) 1 40 = true by simp [inB]; omega] at this
  obtain ⟨i0, hi, hz0, hz1, hz2⟩ := info_parts Tryd.infoBool
  have HV : Hid (∀ u, Below w.heap.size w u → ∀ k : Nat, k < 32 → u.cell? ⟨b, off + k * 4, none⟩ = some (.bool ((vsOf ss).getD k noS).has)) := fun u hu k hk => (view_cells hr h32 hu k hk).1
  have HF : Hid (∀ k : Nat, k < 32 → ∃ aR cR, ∀ u, Below w.heap.size w u → u.cell? ⟨b, off + k * 4 + 3, none⟩ = some (.slice aR (refsM (vsOf ss) k).length cR) ∧ ReadsI u aR (refsM (vsOf ss) k)) := fun k hk => view_refs hr h32 k hk
  have HRG : Hid (RngM (vsOf ss)) := viewB_rng hv
  have HLN : Hid (∀ i, (refsM (vsOf ss) i).length ≤ 5) := viewB_refs hv
  have HLACK : Hid (∀ (g : Nat) (S : List Bool) (i : Nat) (u : World), i < 32 → Below w.heap.size w u → (∀ k, k < 32 → u.cell? ⟨g, k, none⟩ = some (.bool (S.getD k false))) → Calls Tryd.prog 48 #[.slice (some ⟨b, off, none⟩) 32 c, .slice (some ⟨g, 0, none⟩) 32 32, .int .i64 (i : Int)] u fun e w' => e = .returned (.bool (lackM (vsOf ss) S i)) ∧ w' = u) := fun g S i u h1 h2 h3 => l11Lacks_any hv i h1 u hr h32 h2 h3
  have HMISS : Hid (∀ (S : List Bool) (k : Nat), missM (vsOf ss) S k = (((vsOf ss).getD k noS).has && !(S.getD k false))) := fun S k => by rw [missM, hasM, metM, Int.toNat_natCast]
  have HFIRST : Hid (drainM (vsOf ss) mn 72 (refM (vsOf ss) mn emptyM rn) = firstM (vsOf ss) mn rn ∧ BetwM (vsOf ss) mn (runM (vsOf ss) mn rn) 65 (firstM (vsOf ss) mn rn) ∧ GoodM mn (refM (vsOf ss) mn emptyM rn)) := ⟨rfl, betwM_first (viewB_rng hv) hmn.2 (by omega), refM_good (emptyM_good mn) (by omega)⟩
  have HLEN : Hid ((runM (vsOf ss) mn rn).met.length = 32) := runM_len (viewB_rng hv) hmn.2 (by omega)
  have HST : Hid (refM (vsOf ss) mn emptyM rn = if ((vsOf ss).getD rn noS).has = true then ⟨(List.replicate 32 false).set rn true, [(rn : Int)], false, 0⟩ else emptyM) := by
    have e : missM (vsOf ss) emptyM.met rn = ((vsOf ss).getD rn noS).has := by
      rw [HMISS.out]
      have : emptyM.met.getD rn false = false := by
        simp only [emptyM, List.getD, List.getElem?_replicate]
        split <;> rfl
      rw [this]; simp
    rw [Hid, refM, e]
    congr 1
    unfold markM putM
    rw [if_pos (by simp [emptyM]; omega)]
    simp [emptyM]
  clear hr hf h32 hv
  generalize vsOf ss = vs at *
  obtain ⟨FIN, HFIN⟩ : ∃ FIN, Hid (runM vs mn rn = FIN) := ⟨_, rfl⟩
  rw [HFIN.out] at HFIRST HLEN ⊢
  obtain ⟨hm1, hm2⟩ := hmn
  obtain ⟨hr1, hr2⟩ := hrn
  have hrI : (rn : Int) < 32 := by omega
  go_enter Tryd.func28, Tryd.ntmps28
  go_wp2_with fail
  refine C.mono ?_
  rintro e w1 ⟨rfl, hb1⟩
  clear C
  go_wp2_with fail
  refine (HIN.out w1).mono ?_
  rintro e w2 ⟨rfl, rfl⟩
  clear HIN
  go_upto_region 4 with (first | (at_make; refine wpList_make_full _ rfl _ _ 29 rfl w2.heap.size 4 i0 (.bool false) 1 Tryd.underlying29 hi hz0 hz1 _ _ _ _ 32 rfl rfl rfl rfl (by rw [hz2]; omega) (by simp [maxLen]) (Nat.le_refl _) ?_; intro w3 hown3 hgrow3) | fail)
  have hb3 : Below w2.heap.size w2 w3 := (Below.refl _ _).grown hgrow3 (Nat.le_refl _) (fun k h => by cases h)
  have hg3 : w2.heap.size < w3.heap.size := (hown3.lt _ rfl).2
  have ho3 : OwnBl w3 w.heap.size w3.heap.size (some ⟨w2.heap.size, 0, none⟩) 32 (List.replicate 32 false) := by
    refine ⟨?_, Nat.le_refl _, fun k hk => by cases hk; exact hg3⟩
    have := hown3
    rw [madeB] at this
    exact ownsRow_base this (fun k hk => by cases hk; exact hb1.size)
  have hB3 : Below w.heap.size w w3 := hb1.trans (hb3.mono hb1.size)
  obtain ⟨V, HVV⟩ : ∃ V, Hid (w3.alloc (.cells #[] 3) = V) := ⟨_, rfl⟩
  have HS0 : Hid (SpI w V w2.heap.size (some ⟨w3.heap.size, 0, none⟩) 0 (List.replicate 32 false) []) := by
    have ha := (Below.refl w3.heap.size w3).alloc (Nat.le_refl _) (.cells #[] 3)
    have h1 := ownI_lit0 w3
    rw [HVV.out] at ha h1
    refine ⟨(ho3.below ha).widen (Nat.le_refl _) ha.size (Nat.le_refl _), h1.widen (by have := hB3.size; omega) (by rw [← HVV.out]; simp) (Nat.le_refl _), fun k hk => by cases hk; show w3.heap.size ≠ w2.heap.size; omega, hB3.trans (ha.mono hB3.size)⟩
  have v0 := HV.out V HS0.out.bel rn (by omega)
  clear hown3 hgrow3 hb3 ho3 hB3
  go_upto_region 5 with fail
  rw [HVV.out]
  clear HVV
  generalize w2.heap.size = g at *
  generalize w3.heap.size = g2 at *
  clear hg3
  cases hhas : (vs.getD rn noS).has with
  | false =>
    rw [hhas] at v0 HST
    have HX : Hid (SpI w V g (some ⟨g2, 0, none⟩) 0 (List.replicate 32 false) [] ∧ GoodM mn ⟨List.replicate 32 false, [], false, 0⟩ ∧ BetwM vs mn FIN 65 (drainM vs mn 72 ⟨List.replicate 32 false, [], false, 0⟩)) := by
      have e : refM vs mn emptyM rn = ⟨List.replicate 32 false, [], false, 0⟩ := HST.out
      refine ⟨HS0.out, by rw [← e]; exact HFIRST.out.2.2, ?_⟩
      have := HFIRST.out.2.1
      rw [← HFIRST.out.1, e] at this
      exact this
    clear HS0 HFIRST HST hhas
    go_wp2_with fail
    go_loopg [9, 10, 11] 65 (fun n v9 v10 v11 wr => ∃ (S : List Bool) (T : List Int) (lf : Bool) (an : Int) (a : Option Addr) (c : Nat), v9 = .slice a T.length c ∧ v10 = .int .i64 an ∧ v11 = .bool lf ∧ Hid (SpI w wr g a c S T ∧ GoodM mn ⟨S, T, lf, an⟩ ∧ BetwM vs mn FIN n (drainM vs mn 72 ⟨S, T, lf, an⟩)))
    case atStart => exact ⟨_, _, _, _, _, _, rfl, rfl, rfl, HX.out⟩
    case round =>
      obtain ⟨S, T, lf, an, a, c9, rfl, rfl, rfl, hI⟩ := hrel
      clear HX
      obtain ⟨DR, HDR⟩ : ∃ DR, Hid (drainM vs mn 72 ⟨S, T, lf, an⟩ = DR ∧ DR.anew = an ∧ BetwM vs mn FIN gk DR ∧ GoodM mn DR ∧ DR.stack = []) := ⟨_, rfl, drainM_anew vs mn 72 _, hI.out.2.2, hI.out.2.2.1, hI.out.2.2.2.1⟩
      have HS1 : Hid (SpI w wr g a c9 S T ∧ GoodM mn ⟨S, T, lf, an⟩) := ⟨hI.out.1, hI.out.2.1⟩
      clear hI
      generalize wr = wo at *
      generalize gk = go at *
      go_wp2_with fail
      go_loopg [9, 11] 72 (fun n v9 v11 wr => ∃ (S : List Bool) (T : List Int) (lf : Bool) (a : Option Addr) (c : Nat), v9 = .slice a T.length c ∧ v11 = .bool lf ∧ Hid (SpI w wr g a c S T ∧ GoodM mn ⟨S, T, lf, an⟩ ∧ sizeM ⟨S, T, lf, an⟩ ≤ n ∧ drainM vs mn n ⟨S, T, lf, an⟩ = DR))
      case atStart => exact ⟨_, _, _, _, _, rfl, rfl, HS1.out.1, HS1.out.2, HS1.out.2.size hm2, HDR.out.1⟩
      case round =>
        obtain ⟨S, T, lf, a, c9, rfl, rfl, hI⟩ := hrel
        clear HS1
        rcases List.eq_nil_or_concat T with hT | ⟨T', x, hT⟩
        · subst hT
          have HE : Hid (DR = ⟨S, [], lf, an⟩) := by rw [Hid, ← hI.out.2.2.2, drainM_nil]; rfl
          have HSP : Hid (SpI w wr g a c9 S [] ∧ GoodM mn ⟨S, [], lf, an⟩ ∧ BetwM vs mn FIN go ⟨S, [], lf, an⟩) := ⟨hI.out.1, hI.out.2.1, by rw [← HE.out]; exact HDR.out.2.2.1⟩
          rw [show ([] : List Int).length = 0 from rfl]
          clear hI HDR HE HF HLN HV HMISS
          cases lf with
          | false =>
            have HEND : Hid (⟨S, [], false, an⟩ = FIN) := betwM_stop HSP.out.2.2 rfl
            go_wp2_with fail
            go_ret2
            refine ⟨some ⟨g, 0, none⟩, 32, ?_, ?_, ?_⟩
            · rw [HLEN.out, ← HEND.out]; rfl
            · rw [← HEND.out]; exact HSP.out.1.met
            · exact HSP.out.1.bel
          | true =>
            obtain ⟨m, HN⟩ : ∃ m, Hid (go = m + 1 ∧ BetwM vs mn FIN m (drainM vs mn 72 (anewM vs mn ⟨S, [], true, an⟩))) := betwM_next HRG.out hm1 hm2 HSP.out.2.2 rfl
            have hA : 0 ≤ an ∧ an ≤ 65 := ⟨HSP.out.2.2.2.2.2.2.1, by have := HSP.out.2.2.2.2.2.2.2; simp only at this; omega⟩
            obtain ⟨hA1, hA2⟩ := hA
            have hlS : Hid (S.length = 32) := HSP.out.2.1.len
            have HGD : Hid (∀ n, n ≤ 32 → GoodM mn ((List.range n).foldl (lookM vs mn) ⟨S, [], false, an + 1⟩) ∧ ((List.range n).foldl (lookM vs mn) ⟨S, [], false, an + 1⟩).met = S ∧ ((List.range n).foldl (lookM vs mn) ⟨S, [], false, an + 1⟩).anew = an + 1) := fun n hn => by
              obtain ⟨q1, q2, q3⟩ := lookM_fold (vs := vs) (most := mn) (List.range n) ⟨S, [], false, an + 1⟩ ⟨HSP.out.2.1.len, HSP.out.2.1.room, HSP.out.2.1.rng⟩ (fun i hi => by have := List.mem_range.1 hi; omega)
              exact ⟨q3, q1, q2⟩
            have HSP2 : Hid (SpI w wr g a c9 S []) := HSP.out.1
            have HNM : Hid (anewM vs mn ⟨S, [], true, an⟩ = (List.range 32).foldl (lookM vs mn) ⟨S, [], false, an + 1⟩) := rfl
            clear HSP
            generalize wr = wp at *
            go_wp2_with fail
            go_loopw [9, 11, 15] (fun v9 v11 i wr => ∃ (n : Nat) (T : List Int) (lf : Bool) (a : Option Addr) (c : Nat), n ≤ 32 ∧ i = .int .i64 n ∧ v9 = .slice a T.length c ∧ v11 = .bool lf ∧ Hid (SpI w wr g a c S T ∧ (List.range n).foldl (lookM vs mn) ⟨S, [], false, an + 1⟩ = ⟨S, T, lf, an + 1⟩)) (fun _ _ i _ => 32 - (intOf i).toNat)
            case atStart => exact ⟨0, [], false, _, _, by omega, rfl, rfl, rfl, HSP2.out, rfl⟩
            case round =>
              obtain ⟨n, T, lf, a, c9, hn, rfl, rfl, rfl, hJ⟩ := hrel
              clear HSP2
              by_cases hlt : n < 32
              · have m0 := hJ.out.1.cell hlS.out n hlt
                have C := HLACK.out g S n wr hlt hJ.out.1.bel (fun k hk => hJ.out.1.cell hlS.out k hk)
                have HG0 : Hid (GoodM mn ⟨S, T, lf, an + 1⟩) := by have := (HGD.out n (by omega)).1; rw [hJ.out.2] at this; exact this
                have HNX : Hid ((List.range (n + 1)).foldl (lookM vs mn) ⟨S, [], false, an + 1⟩ = if (S.getD n false && lackM vs S n) = true then putM mn ⟨S, T, lf, an + 1⟩ n else ⟨S, T, lf, an + 1⟩) := by
                  rw [Hid, lookM_step, hJ.out.2, lookM]
                  rfl
                have HSP3 : Hid (SpI w wr g a c9 S T) := hJ.out.1
                have hnI : (n : Int) < 32 := by omega
                have hroom := HG0.out.room
                simp only at hroom
                clear hJ HGD
                generalize S.getD n false = mt at *
                generalize lackM vs S (n : Int) = lk at *
                cases mt with
                | false =>
                  have HQ : Hid (SpI w wr g a c9 S T ∧ (List.range (n + 1)).foldl (lookM vs mn) ⟨S, [], false, an + 1⟩ = ⟨S, T, lf, an + 1⟩) := ⟨HSP3.out, HNX.out⟩
                  clear HNX HSP3 C
                  go_wp2_with fail
                  go_roundw
                  case rel => exact ⟨n + 1, T, lf, a, c9, by omega, by go_num, rfl, rfl, HQ⟩
                  case measure => simp [intOf]; omega
                | true =>
                  cases lk with
                  | false =>
                    have HQ : Hid (SpI w wr g a c9 S T ∧ (List.range (n + 1)).foldl (lookM vs mn) ⟨S, [], false, an + 1⟩ = ⟨S, T, lf, an + 1⟩) := ⟨HSP3.out, HNX.out⟩
                    clear HNX HSP3
                    go_wp2_with fail
                    refine C.mono ?_
                    rintro e w8 ⟨rfl, rfl⟩
                    clear C
                    go_wp2_with fail
                    go_roundw
                    case rel => exact ⟨n + 1, T, lf, a, c9, by omega, by go_num, rfl, rfl, HQ⟩
                    case measure => simp [intOf]; omega
                  | true =>
                    by_cases hfull : T.length < mn
                    · have HP : Hid ((List.range (n + 1)).foldl (lookM vs mn) ⟨S, [], false, an + 1⟩ = ⟨S, T ++ [(n : Int)], lf, an + 1⟩) := by rw [Hid, HNX.out, if_pos (show (true && true) = true from rfl), putM, if_pos hfull]
                      have hfI : (T.length : Int) < (mn : Int) := by omega
                      have hlo := HSP3.out.bel.size
                      clear HNX hfull
                      go_wp2_with fail
                      refine C.mono ?_
                      rintro e w8 ⟨rfl, rfl⟩
                      clear C
                      have ho := HSP3.out.stk.below ((Below.refl _ _).alloc (Nat.le_refl _) (.cells #[.int .i64 (n : Int)] 3))
                      go_wp2_with (first | (at_builtin; refine append_intsM rfl _ _ rfl w.heap.size w8.heap.size a c9 T rfl ho _ _ [(n : Int)] rfl (readsI_one w8 n _) (fun h => by cases h) (by simp; omega) (by simp; omega) ?_; intro a4 c4 y4 w4 hy4 ho4 hg4 hk4) | fail)
                      have HQ : Hid (SpI w w4 g a4 c4 S y4 ∧ (List.range (n + 1)).foldl (lookM vs mn) ⟨S, [], false, an + 1⟩ = ⟨S, y4, lf, an + 1⟩) := ⟨HSP3.out.push ho4 hg4 hk4, by rw [HP.out, hy4.out]⟩
                      clear ho4 hg4 hk4 hy4 HSP3 ho HP
                      go_roundw
                      case rel => exact ⟨n + 1, y4, lf, a4, c4, by omega, by go_num, rfl, rfl, HQ⟩
                      case measure => simp [intOf]; omega
                    · have HQ : Hid (SpI w wr g a c9 S T ∧ (List.range (n + 1)).foldl (lookM vs mn) ⟨S, [], false, an + 1⟩ = ⟨S, T, true, an + 1⟩) := ⟨HSP3.out, by rw [HNX.out, if_pos (show (true && true) = true from rfl), putM, if_neg hfull]⟩
                      have HTM : Hid (T.length = mn) := by rw [Hid]; omega
                      rw [HTM.out]
                      clear HNX hfull HSP3 hroom
                      go_wp2_with fail
                      refine C.mono ?_
                      rintro e w8 ⟨rfl, rfl⟩
                      clear C
                      go_wp2_with fail
                      go_roundw
                      case rel => exact ⟨n + 1, T, true, a, c9, by omega, by go_num, by rw [HTM.out], rfl, HQ⟩
                      case measure => simp [intOf]; omega
              · obtain rfl : n = 32 := by omega
                have HQ : Hid (SpI w wr g a c9 S T ∧ GoodM mn ⟨S, T, lf, an + 1⟩ ∧ BetwM vs mn FIN m (drainM vs mn 72 ⟨S, T, lf, an + 1⟩)) := by
                  refine ⟨hJ.out.1, ?_, ?_⟩
                  · have := (HGD.out 32 (Nat.le_refl _)).1
                    rw [hJ.out.2] at this
                    exact this
                  · have := HN.out.2
                    rw [HNM.out, hJ.out.2] at this
                    exact this
                have HGO := HN.out.1
                clear hJ HGD HN HNM HLACK
                go_wp2_with fail
                go_roundg m
                case rel => exact ⟨S, T, lf, an + 1, a, c9, rfl, by go_num, rfl, HQ⟩
                case measure => omega
        · rw [List.concat_eq_append] at hT
          subst hT
          obtain ⟨xn, hxe, hx32⟩ : ∃ xn : Nat, x = xn ∧ xn < 32 := by
            have := hI.out.2.1.rng x (by simp)
            exact ⟨x.toNat, by omega, by omega⟩
          subst hxe
          obtain ⟨bt, offt, rfl, hct⟩ := hI.out.1.stk.reads (by simp)
          have t0 := hct T'.length (by simp)
          have e0 : (T' ++ [(xn : Int)]).getD T'.length 0 = xn := by simp [List.getD]
          rw [e0] at t0
          have hcap := hI.out.1.stk.len_cap
          have hcap' : T'.length + 1 ≤ c9 := by simpa using hcap
          have hroom := hI.out.2.1.room
          have hTl : T'.length + 1 ≤ 40 := by simp at hroom; omega
          obtain ⟨aF, cF, hFR⟩ := HF.out xn hx32
          have hF0 := (hFR wr hI.out.1.bel).1
          have HFI : Hid (_) := HRG.out xn
          have HFL := HLN.out xn
          have HFV : Hid (∀ u, Below w.heap.size w u → ReadsI u aF (refsM vs xn)) := fun u hu => (hFR u hu).2
          have HG2 : Hid (GoodM mn ⟨S, T', lf, an⟩ ∧ ∃ m, gk = m + 1 ∧ sizeM ⟨S, T', lf, an⟩ ≤ m ∧ drainM vs mn m ((refsM vs xn).foldl (refM vs mn) ⟨S, T', lf, an⟩) = DR) := by
            obtain ⟨_, h1, h2, h3⟩ := hI.out
            refine ⟨⟨h1.len, by have := h1.room; simp at this ⊢; omega, fun y hy => h1.rng y (List.mem_append.2 (.inl hy))⟩, ?_⟩
            have h4 : sizeM ⟨S, T' ++ [(xn : Int)], lf, an⟩ = sizeM ⟨S, T', lf, an⟩ + 1 := by simp [sizeM]; omega
            cases gk with
            | zero => omega
            | succ m => exact ⟨m, rfl, by omega, by rw [← h3, drainM_app]⟩
          have HSP : Hid (SpI w wr g (some ⟨bt, offt, none⟩) c9 S T') := hI.out.1.cut
          generalize refsM vs xn = F at *
          have hxI : (xn : Int) < 32 := by omega
          simp only [List.length_append, List.length_cons, List.length_nil, Nat.zero_add]
          clear hI hct e0 hcap hroom hFR HF HLN HLACK HDR
          generalize wr = wp at *
          go_wp2_with fail
          clear t0 hF0
          go_loopw [9, 11, 14] (fun v9 v11 i wr => ∃ (n : Nat) (S1 : List Bool) (T1 : List Int) (l1 : Bool) (a : Option Addr) (c : Nat), n ≤ F.length ∧ i = .int .i64 n ∧ v9 = .slice a T1.length c ∧ v11 = .bool l1 ∧ Hid (SpI w wr g a c S1 T1 ∧ GoodM mn ⟨S1, T1, l1, an⟩ ∧ (F.take n).foldl (refM vs mn) ⟨S, T', lf, an⟩ = ⟨S1, T1, l1, an⟩)) (fun _ _ i _ => F.length - (intOf i).toNat)
          case atStart => exact ⟨0, S, T', lf, _, _, Nat.zero_le _, rfl, rfl, rfl, HSP.out, HG2.out.1, rfl⟩
          case round =>
            obtain ⟨n, S1, T1, l1, a, c1, hn, rfl, rfl, rfl, hJ⟩ := hrel
            clear HSP
            by_cases hlt : n < F.length
            · obtain ⟨bf, offf, rfl, hcf⟩ := HFV.out wr hJ.out.1.bel (by intro e; rw [e] at hlt; simp at hlt)
              have f0 := hcf n hlt
              obtain ⟨y, hye, hy32⟩ : ∃ y : Nat, F.getD n 0 = y ∧ y < 32 := by
                have := HFI.out _ (mem_getDM hlt)
                exact ⟨(F.getD n 0).toNat, by omega, by omega⟩
              have HNX : Hid ((F.take (n + 1)).foldl (refM vs mn) ⟨S, T', lf, an⟩ = if ((vs.getD y noS).has && !(S1.getD y false)) = true then markM mn ⟨S1, T1, l1, an⟩ y else ⟨S1, T1, l1, an⟩) := by
                rw [Hid, foldM_step vs mn F _ n hlt, hJ.out.2.2, hye, refM, HMISS.out]
              have HGN : Hid (GoodM mn (refM vs mn ⟨S1, T1, l1, an⟩ y) ∧ refM vs mn ⟨S1, T1, l1, an⟩ y = if ((vs.getD y noS).has && !(S1.getD y false)) = true then markM mn ⟨S1, T1, l1, an⟩ y else ⟨S1, T1, l1, an⟩) := ⟨refM_good hJ.out.2.1 (by omega), by rw [refM, HMISS.out]⟩
              have HFW : Hid (∀ u, Below w.heap.size w u → u.cell? ⟨bf, offf + n, none⟩ = some (.int .i64 (y : Int))) := fun u hu => by
                obtain ⟨b', o', e, hc⟩ := HFV.out u hu (by intro e; rw [e] at hlt; simp at hlt)
                simp only [Option.some.injEq, Addr.mk.injEq, and_true] at e
                obtain ⟨rfl, rfl⟩ := e
                have := hc n hlt
                rw [hye] at this
                exact this
              rw [hye] at f0
              have v0 := HV.out wr hJ.out.1.bel y hy32
              have m0 := hJ.out.1.cell hJ.out.2.1.len y hy32
              have hyI : (y : Int) < 32 := by omega
              have HSP3 : Hid (SpI w wr g a c1 S1 T1) := hJ.out.1
              have HG3 : Hid (GoodM mn ⟨S1, T1, l1, an⟩) := hJ.out.2.1
              clear hcf hye hJ HG2 HV HMISS HFI HFV
              generalize (vs.getD y noS).has = hb at *
              generalize hmt : S1.getD y false = mt at *
              clear hmt
              cases hb with
              | false =>
                have HQ : Hid (SpI w wr g a c1 S1 T1 ∧ GoodM mn ⟨S1, T1, l1, an⟩ ∧ (F.take (n + 1)).foldl (refM vs mn) ⟨S, T', lf, an⟩ = ⟨S1, T1, l1, an⟩) := ⟨HSP3.out, HG3.out, HNX.out⟩
                clear HNX HGN HSP3 HG3
                go_wp2_with fail
                go_roundw
                case rel => exact ⟨n + 1, S1, T1, l1, _, _, by omega, by go_num, rfl, rfl, HQ⟩
                case measure => simp [intOf]; omega
              | true =>
                cases mt with
                | true =>
                  have HQ : Hid (SpI w wr g a c1 S1 T1 ∧ GoodM mn ⟨S1, T1, l1, an⟩ ∧ (F.take (n + 1)).foldl (refM vs mn) ⟨S, T', lf, an⟩ = ⟨S1, T1, l1, an⟩) := ⟨HSP3.out, HG3.out, HNX.out⟩
                  clear HNX HGN HSP3 HG3
                  go_wp2_with fail
                  go_roundw
                  case rel => exact ⟨n + 1, S1, T1, l1, _, _, by omega, by go_num, rfl, rfl, HQ⟩
                  case measure => simp [intOf]; omega
                | false =>
                  have hroom := HG3.out.room
                  simp only at hroom
                  have z7 := HSP3.out.met.1.frozenAt y
                  obtain ⟨W, hW, hSW⟩ := HSP3.out.set y
                  have fW := HFW.out W hSW.bel
                  have HSW : Hid (SpI w W g a c1 (S1.set y true) T1) := hSW
                  by_cases hfull : T1.length < mn
                  · have HP : Hid (markM mn ⟨S1, T1, l1, an⟩ y = ⟨S1.set y true, T1 ++ [(y : Int)], l1, an⟩) := by rw [Hid, markM, putM, if_pos hfull, Int.toNat_natCast]
                    have hfI : (T1.length : Int) < (mn : Int) := by omega
                    have hlo := HSW.out.bel.size
                    have HNX2 : Hid (GoodM mn ⟨S1.set y true, T1 ++ [(y : Int)], l1, an⟩ ∧ (F.take (n + 1)).foldl (refM vs mn) ⟨S, T', lf, an⟩ = ⟨S1.set y true, T1 ++ [(y : Int)], l1, an⟩) := by
                      have h1 := HGN.out.1
                      rw [HGN.out.2, if_pos (show (true && !false) = true from rfl), HP.out] at h1
                      exact ⟨h1, by rw [HNX.out, if_pos (show (true && !false) = true from rfl), HP.out]⟩
                    clear hfull HNX HGN HSP3 hSW HP
                    go_upto_region 19 with fail
                    rw [hW.out]
                    clear hW f0 m0 v0 z7
                    have ho := HSW.out.stk.below ((Below.refl _ _).alloc (Nat.le_refl _) (.cells #[.int .i64 (y : Int)] 3))
                    go_wp2_with (first | (at_builtin; refine append_intsM rfl _ _ rfl w.heap.size W.heap.size a c1 T1 rfl ho _ _ [(y : Int)] rfl (readsI_one W y _) (fun h => by cases h) (by simp; omega) (by simp; omega) ?_; intro a4 c4 y4 w4 hy4 ho4 hg4 hk4) | fail)
                    have HQ : Hid (SpI w w4 g a4 c4 (S1.set y true) y4 ∧ GoodM mn ⟨S1.set y true, y4, l1, an⟩ ∧ (F.take (n + 1)).foldl (refM vs mn) ⟨S, T', lf, an⟩ = ⟨S1.set y true, y4, l1, an⟩) := ⟨HSW.out.push ho4 hg4 hk4, by rw [hy4.out]; exact HNX2.out.1, by rw [hy4.out]; exact HNX2.out.2⟩
                    clear ho4 hg4 hk4 hy4 HSW ho HNX2
                    go_roundw
                    case rel => exact ⟨n + 1, S1.set y true, y4, l1, a4, c4, by omega, by go_num, rfl, rfl, HQ⟩
                    case measure => simp [intOf]; omega
                  · have HP : Hid (markM mn ⟨S1, T1, l1, an⟩ y = ⟨S1.set y true, T1, true, an⟩) := by rw [Hid, markM, putM, if_neg hfull, Int.toNat_natCast]
                    have HTM : Hid (T1.length = mn) := by rw [Hid]; omega
                    have HQ : Hid (SpI w W g a c1 (S1.set y true) T1 ∧ GoodM mn ⟨S1.set y true, T1, true, an⟩ ∧ (F.take (n + 1)).foldl (refM vs mn) ⟨S, T', lf, an⟩ = ⟨S1.set y true, T1, true, an⟩) := by
                      have h1 := HGN.out.1
                      rw [HGN.out.2, if_pos (show (true && !false) = true from rfl), HP.out] at h1
                      exact ⟨HSW.out, h1, by rw [HNX.out, if_pos (show (true && !false) = true from rfl), HP.out]⟩
                    rw [HTM.out]
                    clear hfull HNX HGN HSP3 hSW HP hroom HSW
                    go_upto_region 19 with fail
                    rw [hW.out]
                    clear hW f0 m0 v0 z7
                    go_wp2_with fail
                    go_roundw
                    case rel => exact ⟨n + 1, S1.set y true, T1, true, a, c1, by omega, by go_num, by rw [HTM.out], rfl, HQ⟩
                    case measure => simp [intOf]; omega
            · have HT : Hid (F.take n = F) := List.take_of_length_le (by omega)
              rw [HT.out] at hJ
              have HSZ : Hid (sizeM ⟨S1, T1, l1, an⟩ ≤ sizeM ⟨S, T', lf, an⟩) := by
                have := (foldM_good (vs := vs) F _ HG2.out.1 HFI.out).2.1
                rw [hJ.out.2.2] at this
                exact this
              obtain ⟨m, HGM⟩ : ∃ m, Hid (gk = m + 1 ∧ SpI w wr g a c1 S1 T1 ∧ GoodM mn ⟨S1, T1, l1, an⟩ ∧ sizeM ⟨S1, T1, l1, an⟩ ≤ m ∧ drainM vs mn m ⟨S1, T1, l1, an⟩ = DR) := by
                obtain ⟨m, h1, h2, h3⟩ := HG2.out.2
                rw [hJ.out.2.2] at h3
                exact ⟨m, h1, hJ.out.1, hJ.out.2.1, Nat.le_trans HSZ.out h2, h3⟩
              clear HT HG2 HFV HFI hJ HSZ HV HMISS
              go_wp2_with fail
              go_roundg m
              case rel => exact ⟨S1, T1, l1, a, c1, rfl, rfl, HGM.out.2⟩
              case measure => have := HGM.out.1; omega
  | true =>
    rw [hhas] at v0 HST
    have z0 := HS0.out.met.1.frozenAt rn
    have m0 := HS0.out.cell (by simp) rn (by omega)
    obtain ⟨W, hW, hSW⟩ := HS0.out.set rn
    have HSW : Hid (SpI w W g (some ⟨g2, 0, none⟩) 0 ((List.replicate 32 false).set rn true) []) := hSW
    have hlo := hSW.bel.size
    have ho := hSW.stk.below ((Below.refl _ _).alloc (Nat.le_refl _) (.cells #[.int .i64 (rn : Int)] 3))
    have HX0 : Hid (GoodM mn ⟨(List.replicate 32 false).set rn true, [(rn : Int)], false, 0⟩ ∧ BetwM vs mn FIN 65 (drainM vs mn 72 ⟨(List.replicate 32 false).set rn true, [(rn : Int)], false, 0⟩)) := by
      have e : refM vs mn emptyM rn = ⟨(List.replicate 32 false).set rn true, [(rn : Int)], false, 0⟩ := HST.out
      refine ⟨by rw [← e]; exact HFIRST.out.2.2, ?_⟩
      have := HFIRST.out.2.1
      rw [← HFIRST.out.1, e] at this
      exact this
    clear HS0 HFIRST HST hhas hSW
    go_upto_region 7 with fail
    rw [hW.out]
    clear hW z0 m0 v0
    go_upto_region 8 with (first | (at_builtin; refine append_intsM rfl _ _ rfl w.heap.size W.heap.size (some ⟨g2, 0, none⟩) 0 [] rfl ho _ _ [(rn : Int)] rfl (readsI_one W rn _) (fun h => by cases h) (by simp) (by simp; omega) ?_; intro a4 c4 y4 w4 hy4 ho4 hg4 hk4) | fail)
    have HX : Hid (SpI w w4 g a4 c4 ((List.replicate 32 false).set rn true) y4 ∧ GoodM mn ⟨(List.replicate 32 false).set rn true, y4, false, 0⟩ ∧ BetwM vs mn FIN 65 (drainM vs mn 72 ⟨(List.replicate 32 false).set rn true, y4, false, 0⟩)) := by
      have e : y4 = [(rn : Int)] := hy4.out
      exact ⟨HSW.out.push ho4 hg4 hk4, by rw [e]; exact HX0.out.1, by rw [e]; exact HX0.out.2⟩
    clear ho4 hg4 hk4 hy4 HSW ho HX0 hlo
    go_wp2_with fail
    go_loopg [9, 10, 11] 65 (fun n v9 v10 v11 wr => ∃ (S : List Bool) (T : List Int) (lf : Bool) (an : Int) (a : Option Addr) (c : Nat), v9 = .slice a T.length c ∧ v10 = .int .i64 an ∧ v11 = .bool lf ∧ Hid (SpI w wr g a c S T ∧ GoodM mn ⟨S, T, lf, an⟩ ∧ BetwM vs mn FIN n (drainM vs mn 72 ⟨S, T, lf, an⟩)))
    case atStart => exact ⟨_, _, _, _, _, _, rfl, rfl, rfl, HX.out⟩
    case round =>
      obtain ⟨S, T, lf, an, a, c9, rfl, rfl, rfl, hI⟩ := hrel
      clear HX
      obtain ⟨DR, HDR⟩ : ∃ DR, Hid (drainM vs mn 72 ⟨S, T, lf, an⟩ = DR ∧ DR.anew = an ∧ BetwM vs mn FIN gk DR ∧ GoodM mn DR ∧ DR.stack = []) := ⟨_, rfl, drainM_anew vs mn 72 _, hI.out.2.2, hI.out.2.2.1, hI.out.2.2.2.1⟩
      have HS1 : Hid (SpI w wr g a c9 S T ∧ GoodM mn ⟨S, T, lf, an⟩) := ⟨hI.out.1, hI.out.2.1⟩
      clear hI
      generalize wr = wo at *
      generalize gk = go at *
      go_wp2_with fail
      go_loopg [9, 11] 72 (fun n v9 v11 wr => ∃ (S : List Bool) (T : List Int) (lf : Bool) (a : Option Addr) (c : Nat), v9 = .slice a T.length c ∧ v11 = .bool lf ∧ Hid (SpI w wr g a c S T ∧ GoodM mn ⟨S, T, lf, an⟩ ∧ sizeM ⟨S, T, lf, an⟩ ≤ n ∧ drainM vs mn n ⟨S, T, lf, an⟩ = DR))
      case atStart => exact ⟨_, _, _, _, _, rfl, rfl, HS1.out.1, HS1.out.2, HS1.out.2.size hm2, HDR.out.1⟩
      case round =>
        obtain ⟨S, T, lf, a, c9, rfl, rfl, hI⟩ := hrel
        clear HS1
        rcases List.eq_nil_or_concat T with hT | ⟨T', x, hT⟩
        · subst hT
          have HE : Hid (DR = ⟨S, [], lf, an⟩) := by rw [Hid, ← hI.out.2.2.2, drainM_nil]; rfl
          have HSP : Hid (SpI w wr g a c9 S [] ∧ GoodM mn ⟨S, [], lf, an⟩ ∧ BetwM vs mn FIN go ⟨S, [], lf, an⟩) := ⟨hI.out.1, hI.out.2.1, by rw [← HE.out]; exact HDR.out.2.2.1⟩
          rw [show ([] : List Int).length = 0 from rfl]
          clear hI HDR HE HF HLN HV HMISS
          cases lf with
          | false =>
            have HEND : Hid (⟨S, [], false, an⟩ = FIN) := betwM_stop HSP.out.2.2 rfl
            go_wp2_with fail
            go_ret2
            refine ⟨some ⟨g, 0, none⟩, 32, ?_, ?_, ?_⟩
            · rw [HLEN.out, ← HEND.out]; rfl
            · rw [← HEND.out]; exact HSP.out.1.met
            · exact HSP.out.1.bel
          | true =>
            obtain ⟨m, HN⟩ : ∃ m, Hid (go = m + 1 ∧ BetwM vs mn FIN m (drainM vs mn 72 (anewM vs mn ⟨S, [], true, an⟩))) := betwM_next HRG.out hm1 hm2 HSP.out.2.2 rfl
            have hA : 0 ≤ an ∧ an ≤ 65 := ⟨HSP.out.2.2.2.2.2.2.1, by have := HSP.out.2.2.2.2.2.2.2; simp only at this; omega⟩
            obtain ⟨hA1, hA2⟩ := hA
            have hlS : Hid (S.length = 32) := HSP.out.2.1.len
            have HGD : Hid (∀ n, n ≤ 32 → GoodM mn ((List.range n).foldl (lookM vs mn) ⟨S, [], false, an + 1⟩) ∧ ((List.range n).foldl (lookM vs mn) ⟨S, [], false, an + 1⟩).met = S ∧ ((List.range n).foldl (lookM vs mn) ⟨S, [], false, an + 1⟩).anew = an + 1) := fun n hn => by
              obtain ⟨q1, q2, q3⟩ := lookM_fold (vs := vs) (most := mn) (List.range n) ⟨S, [], false, an + 1⟩ ⟨HSP.out.2.1.len, HSP.out.2.1.room, HSP.out.2.1.rng⟩ (fun i hi => by have := List.mem_range.1 hi; omega)
              exact ⟨q3, q1, q2⟩
            have HSP2 : Hid (SpI w wr g a c9 S []) := HSP.out.1
            have HNM : Hid (anewM vs mn ⟨S, [], true, an⟩ = (List.range 32).foldl (lookM vs mn) ⟨S, [], false, an + 1⟩) := rfl
            clear HSP
            generalize wr = wp at *
            go_wp2_with fail
            go_loopw [9, 11, 15] (fun v9 v11 i wr => ∃ (n : Nat) (T : List Int) (lf : Bool) (a : Option Addr) (c : Nat), n ≤ 32 ∧ i = .int .i64 n ∧ v9 = .slice a T.length c ∧ v11 = .bool lf ∧ Hid (SpI w wr g a c S T ∧ (List.range n).foldl (lookM vs mn) ⟨S, [], false, an + 1⟩ = ⟨S, T, lf, an + 1⟩)) (fun _ _ i _ => 32 - (intOf i).toNat)
            case atStart => exact ⟨0, [], false, _, _, by omega, rfl, rfl, rfl, HSP2.out, rfl⟩
            case round =>
              obtain ⟨n, T, lf, a, c9, hn, rfl, rfl, rfl, hJ⟩ := hrel
              clear HSP2
              by_cases hlt : n < 32
              · have m0 := hJ.out.1.cell hlS.out n hlt
                have C := HLACK.out g S n wr hlt hJ.out.1.bel (fun k hk => hJ.out.1.cell hlS.out k hk)
                have HG0 : Hid (GoodM mn ⟨S, T, lf, an + 1⟩) := by have := (HGD.out n (by omega)).1; rw [hJ.out.2] at this; exact this
                have HNX : Hid ((List.range (n + 1)).foldl (lookM vs mn) ⟨S, [], false, an + 1⟩ = if (S.getD n false && lackM vs S n) = true then putM mn ⟨S, T, lf, an + 1⟩ n else ⟨S, T, lf, an + 1⟩) := by
                  rw [Hid, lookM_step, hJ.out.2, lookM]
                  rfl
                have HSP3 : Hid (SpI w wr g a c9 S T) := hJ.out.1
                have hnI : (n : Int) < 32 := by omega
                have hroom := HG0.out.room
                simp only at hroom
                clear hJ HGD
                generalize S.getD n false = mt at *
                generalize lackM vs S (n : Int) = lk at *
                cases mt with
                | false =>
                  have HQ : Hid (SpI w wr g a c9 S T ∧ (List.range (n + 1)).foldl (lookM vs mn) ⟨S, [], false, an + 1⟩ = ⟨S, T, lf, an + 1⟩) := ⟨HSP3.out, HNX.out⟩
                  clear HNX HSP3 C
                  go_wp2_with fail
                  go_roundw
                  case rel => exact ⟨n + 1, T, lf, a, c9, by omega, by go_num, rfl, rfl, HQ⟩
                  case measure => simp [intOf]; omega
                | true =>
                  cases lk with
                  | false =>
                    have HQ : Hid (SpI w wr g a c9 S T ∧ (List.range (n + 1)).foldl (lookM vs mn) ⟨S, [], false, an + 1⟩ = ⟨S, T, lf, an + 1⟩) := ⟨HSP3.out, HNX.out⟩
                    clear HNX HSP3
                    go_wp2_with fail
                    refine C.mono ?_
                    rintro e w8 ⟨rfl, rfl⟩
                    clear C
                    go_wp2_with fail
                    go_roundw
                    case rel => exact ⟨n + 1, T, lf, a, c9, by omega, by go_num, rfl, rfl, HQ⟩
                    case measure => simp [intOf]; omega
                  | true =>
                    by_cases hfull : T.length < mn
                    · have HP : Hid ((List.range (n + 1)).foldl (lookM vs mn) ⟨S, [], false, an + 1⟩ = ⟨S, T ++ [(n : Int)], lf, an + 1⟩) := by rw [Hid, HNX.out, if_pos (show (true && true) = true from rfl), putM, if_pos hfull]
                      have hfI : (T.length : Int) < (mn : Int) := by omega
                      have hlo := HSP3.out.bel.size
                      clear HNX hfull
                      go_wp2_with fail
                      refine C.mono ?_
                      rintro e w8 ⟨rfl, rfl⟩
                      clear C
                      have ho := HSP3.out.stk.below ((Below.refl _ _).alloc (Nat.le_refl _) (.cells #[.int .i64 (n : Int)] 3))
                      go_wp2_with (first | (at_builtin; refine append_intsM rfl _ _ rfl w.heap.size w8.heap.size a c9 T rfl ho _ _ [(n : Int)] rfl (readsI_one w8 n _) (fun h => by cases h) (by simp; omega) (by simp; omega) ?_; intro a4 c4 y4 w4 hy4 ho4 hg4 hk4) | fail)
                      have HQ : Hid (SpI w w4 g a4 c4 S y4 ∧ (List.range (n + 1)).foldl (lookM vs mn) ⟨S, [], false, an + 1⟩ = ⟨S, y4, lf, an + 1⟩) := ⟨HSP3.out.push ho4 hg4 hk4, by rw [HP.out, hy4.out]⟩
                      clear ho4 hg4 hk4 hy4 HSP3 ho HP
                      go_roundw
                      case rel => exact ⟨n + 1, y4, lf, a4, c4, by omega, by go_num, rfl, rfl, HQ⟩
                      case measure => simp [intOf]; omega
                    · have HQ : Hid (SpI w wr g a c9 S T ∧ (List.range (n + 1)).foldl (lookM vs mn) ⟨S, [], false, an + 1⟩ = ⟨S, T, true, an + 1⟩) := ⟨HSP3.out, by rw [HNX.out, if_pos (show (true && true) = true from rfl), putM, if_neg hfull]⟩
                      have HTM : Hid (T.length = mn) := by rw [Hid]; omega
                      rw [HTM.out]
                      clear HNX hfull HSP3 hroom
                      go_wp2_with fail
                      refine C.mono ?_
                      rintro e w8 ⟨rfl, rfl⟩
                      clear C
                      go_wp2_with fail
                      go_roundw
                      case rel => exact ⟨n + 1, T, true, a, c9, by omega, by go_num, by rw [HTM.out], rfl, HQ⟩
                      case measure => simp [intOf]; omega
              · obtain rfl : n = 32 := by omega
                have HQ : Hid (SpI w wr g a c9 S T ∧ GoodM mn ⟨S, T, lf, an + 1⟩ ∧ BetwM vs mn FIN m (drainM vs mn 72 ⟨S, T, lf, an + 1⟩)) := by
                  refine ⟨hJ.out.1, ?_, ?_⟩
                  · have := (HGD.out 32 (Nat.le_refl _)).1
                    rw [hJ.out.2] at this
                    exact this
                  · have := HN.out.2
                    rw [HNM.out, hJ.out.2] at this
                    exact this
                have HGO := HN.out.1
                clear hJ HGD HN HNM HLACK
                go_wp2_with fail
                go_roundg m
                case rel => exact ⟨S, T, lf, an + 1, a, c9, rfl, by go_num, rfl, HQ⟩
                case measure => omega
        · rw [List.concat_eq_append] at hT
          subst hT
          obtain ⟨xn, hxe, hx32⟩ : ∃ xn : Nat, x = xn ∧ xn < 32 := by
            have := hI.out.2.1.rng x (by simp)
            exact ⟨x.toNat, by omega, by omega⟩
          subst hxe
          obtain ⟨bt, offt, rfl, hct⟩ := hI.out.1.stk.reads (by simp)
          have t0 := hct T'.length (by simp)
          have e0 : (T' ++ [(xn : Int)]).getD T'.length 0 = xn := by simp [List.getD]
          rw [e0] at t0
          have hcap := hI.out.1.stk.len_cap
          have hcap' : T'.length + 1 ≤ c9 := by simpa using hcap
          have hroom := hI.out.2.1.room
          have hTl : T'.length + 1 ≤ 40 := by simp at hroom; omega
          obtain ⟨aF, cF, hFR⟩ := HF.out xn hx32
          have hF0 := (hFR wr hI.out.1.bel).1
          have HFI : Hid (_) := HRG.out xn
          have HFL := HLN.out xn
          have HFV : Hid (∀ u, Below w.heap.size w u → ReadsI u aF (refsM vs xn)) := fun u hu => (hFR u hu).2
          have HG2 : Hid (GoodM mn ⟨S, T', lf, an⟩ ∧ ∃ m, gk = m + 1 ∧ sizeM ⟨S, T', lf, an⟩ ≤ m ∧ drainM vs mn m ((refsM vs xn).foldl (refM vs mn) ⟨S, T', lf, an⟩) = DR) := by
            obtain ⟨_, h1, h2, h3⟩ := hI.out
            refine ⟨⟨h1.len, by have := h1.room; simp at this ⊢; omega, fun y hy => h1.rng y (List.mem_append.2 (.inl hy))⟩, ?_⟩
            have h4 : sizeM ⟨S, T' ++ [(xn : Int)], lf, an⟩ = sizeM ⟨S, T', lf, an⟩ + 1 := by simp [sizeM]; omega
            cases gk with
            | zero => omega
            | succ m => exact ⟨m, rfl, by omega, by rw [← h3, drainM_app]⟩
          have HSP : Hid (SpI w wr g (some ⟨bt, offt, none⟩) c9 S T') := hI.out.1.cut
          generalize refsM vs xn = F at *
          have hxI : (xn : Int) < 32 := by omega
          simp only [List.length_append, List.length_cons, List.length_nil, Nat.zero_add]
          clear hI hct e0 hcap hroom hFR HF HLN HLACK HDR
          generalize wr = wp at *
          go_wp2_with fail
          clear t0 hF0
          go_loopw [9, 11, 14] (fun v9 v11 i wr => ∃ (n : Nat) (S1 : List Bool) (T1 : List Int) (l1 : Bool) (a : Option Addr) (c : Nat), n ≤ F.length ∧ i = .int .i64 n ∧ v9 = .slice a T1.length c ∧ v11 = .bool l1 ∧ Hid (SpI w wr g a c S1 T1 ∧ GoodM mn ⟨S1, T1, l1, an⟩ ∧ (F.take n).foldl (refM vs mn) ⟨S, T', lf, an⟩ = ⟨S1, T1, l1, an⟩)) (fun _ _ i _ => F.length - (intOf i).toNat)
          case atStart => exact ⟨0, S, T', lf, _, _, Nat.zero_le _, rfl, rfl, rfl, HSP.out, HG2.out.1, rfl⟩
          case round =>
            obtain ⟨n, S1, T1, l1, a, c1, hn, rfl, rfl, rfl, hJ⟩ := hrel
            clear HSP
            by_cases hlt : n < F.length
            · obtain ⟨bf, offf, rfl, hcf⟩ := HFV.out wr hJ.out.1.bel (by intro e; rw [e] at hlt; simp at hlt)
              have f0 := hcf n hlt
              obtain ⟨y, hye, hy32⟩ : ∃ y : Nat, F.getD n 0 = y ∧ y < 32 := by
                have := HFI.out _ (mem_getDM hlt)
                exact ⟨(F.getD n 0).toNat, by omega, by omega⟩
              have HNX : Hid ((F.take (n + 1)).foldl (refM vs mn) ⟨S, T', lf, an⟩ = if ((vs.getD y noS).has && !(S1.getD y false)) = true then markM mn ⟨S1, T1, l1, an⟩ y else ⟨S1, T1, l1, an⟩) := by
                rw [Hid, foldM_step vs mn F _ n hlt, hJ.out.2.2, hye, refM, HMISS.out]
              have HGN : Hid (GoodM mn (refM vs mn ⟨S1, T1, l1, an⟩ y) ∧ refM vs mn ⟨S1, T1, l1, an⟩ y = if ((vs.getD y noS).has && !(S1.getD y false)) = true then markM mn ⟨S1, T1, l1, an⟩ y else ⟨S1, T1, l1, an⟩) := ⟨refM_good hJ.out.2.1 (by omega), by rw [refM, HMISS.out]⟩
              have HFW : Hid (∀ u, Below w.heap.size w u → u.cell? ⟨bf, offf + n, none⟩ = some (.int .i64 (y : Int))) := fun u hu => by
                obtain ⟨b', o', e, hc⟩ := HFV.out u hu (by intro e; rw [e] at hlt; simp at hlt)
                simp only [Option.some.injEq, Addr.mk.injEq, and_true] at e
                obtain ⟨rfl, rfl⟩ := e
                have := hc n hlt
                rw [hye] at this
                exact this
              rw [hye] at f0
              have v0 := HV.out wr hJ.out.1.bel y hy32
              have m0 := hJ.out.1.cell hJ.out.2.1.len y hy32
              have hyI : (y : Int) < 32 := by omega
              have HSP3 : Hid (SpI w wr g a c1 S1 T1) := hJ.out.1
              have HG3 : Hid (GoodM mn ⟨S1, T1, l1, an⟩) := hJ.out.2.1
              clear hcf hye hJ HG2 HV HMISS HFI HFV
              generalize (vs.getD y noS).has = hb at *
              generalize hmt : S1.getD y false = mt at *
              clear hmt
              cases hb with
              | false =>
                have HQ : Hid (SpI w wr g a c1 S1 T1 ∧ GoodM mn ⟨S1, T1, l1, an⟩ ∧ (F.take (n + 1)).foldl (refM vs mn) ⟨S, T', lf, an⟩ = ⟨S1, T1, l1, an⟩) := ⟨HSP3.out, HG3.out, HNX.out⟩
                clear HNX HGN HSP3 HG3
                go_wp2_with fail
                go_roundw
                case rel => exact ⟨n + 1, S1, T1, l1, _, _, by omega, by go_num, rfl, rfl, HQ⟩
                case measure => simp [intOf]; omega
              | true =>
                cases mt with
                | true =>
                  have HQ : Hid (SpI w wr g a c1 S1 T1 ∧ GoodM mn ⟨S1, T1, l1, an⟩ ∧ (F.take (n + 1)).foldl (refM vs mn) ⟨S, T', lf, an⟩ = ⟨S1, T1, l1, an⟩) := ⟨HSP3.out, HG3.out, HNX.out⟩
                  clear HNX HGN HSP3 HG3
                  go_wp2_with fail
                  go_roundw
                  case rel => exact ⟨n + 1, S1, T1, l1, _, _, by omega, by go_num, rfl, rfl, HQ⟩
                  case measure => simp [intOf]; omega
                | false =>
                  have hroom := HG3.out.room
                  simp only at hroom
                  have z7 := HSP3.out.met.1.frozenAt y
                  obtain ⟨W, hW, hSW⟩ := HSP3.out.set y
                  have fW := HFW.out W hSW.bel
                  have HSW : Hid (SpI w W g a c1 (S1.set y true) T1) := hSW
                  by_cases hfull : T1.length < mn
                  · have HP : Hid (markM mn ⟨S1, T1, l1, an⟩ y = ⟨S1.set y true, T1 ++ [(y : Int)], l1, an⟩) := by rw [Hid, markM, putM, if_pos hfull, Int.toNat_natCast]
                    have hfI : (T1.length : Int) < (mn : Int) := by omega
                    have hlo := HSW.out.bel.size
                    have HNX2 : Hid (GoodM mn ⟨S1.set y true, T1 ++ [(y : Int)], l1, an⟩ ∧ (F.take (n + 1)).foldl (refM vs mn) ⟨S, T', lf, an⟩ = ⟨S1.set y true, T1 ++ [(y : Int)], l1, an⟩) := by
                      have h1 := HGN.out.1
                      rw [HGN.out.2, if_pos (show (true && !false) = true from rfl), HP.out] at h1
                      exact ⟨h1, by rw [HNX.out, if_pos (show (true && !false) = true from rfl), HP.out]⟩
                    clear hfull HNX HGN HSP3 hSW HP
                    go_upto_region 19 with fail
                    rw [hW.out]
                    clear hW f0 m0 v0 z7
                    have ho := HSW.out.stk.below ((Below.refl _ _).alloc (Nat.le_refl _) (.cells #[.int .i64 (y : Int)] 3))
                    go_wp2_with (first | (at_builtin; refine append_intsM rfl _ _ rfl w.heap.size W.heap.size a c1 T1 rfl ho _ _ [(y : Int)] rfl (readsI_one W y _) (fun h => by cases h) (by simp; omega) (by simp; omega) ?_; intro a4 c4 y4 w4 hy4 ho4 hg4 hk4) | fail)
                    have HQ : Hid (SpI w w4 g a4 c4 (S1.set y true) y4 ∧ GoodM mn ⟨S1.set y true, y4, l1, an⟩ ∧ (F.take (n + 1)).foldl (refM vs mn) ⟨S, T', lf, an⟩ = ⟨S1.set y true, y4, l1, an⟩) := ⟨HSW.out.push ho4 hg4 hk4, by rw [hy4.out]; exact HNX2.out.1, by rw [hy4.out]; exact HNX2.out.2⟩
                    clear ho4 hg4 hk4 hy4 HSW ho HNX2
                    go_roundw
                    case rel => exact ⟨n + 1, S1.set y true, y4, l1, a4, c4, by omega, by go_num, rfl, rfl, HQ⟩
                    case measure => simp [intOf]; omega
                  · have HP : Hid (markM mn ⟨S1, T1, l1, an⟩ y = ⟨S1.set y true, T1, true, an⟩) := by rw [Hid, markM, putM, if_neg hfull, Int.toNat_natCast]
                    have HTM : Hid (T1.length = mn) := by rw [Hid]; omega
                    have HQ : Hid (SpI w W g a c1 (S1.set y true) T1 ∧ GoodM mn ⟨S1.set y true, T1, true, an⟩ ∧ (F.take (n + 1)).foldl (refM vs mn) ⟨S, T', lf, an⟩ = ⟨S1.set y true, T1, true, an⟩) := by
                      have h1 := HGN.out.1
                      rw [HGN.out.2, if_pos (show (true && !false) = true from rfl), HP.out] at h1
                      exact ⟨HSW.out, h1, by rw [HNX.out, if_pos (show (true && !false) = true from rfl), HP.out]⟩
                    rw [HTM.out]
                    clear hfull HNX HGN HSP3 hSW HP hroom HSW
                    go_upto_region 19 with fail
                    rw [hW.out]
                    clear hW f0 m0 v0 z7
                    go_wp2_with fail
                    go_roundw
                    case rel => exact ⟨n + 1, S1.set y true, T1, true, a, c1, by omega, by go_num, by rw [HTM.out], rfl, HQ⟩
                    case measure => simp [intOf]; omega
            · have HT : Hid (F.take n = F) := List.take_of_length_le (by omega)
              rw [HT.out] at hJ
              have HSZ : Hid (sizeM ⟨S1, T1, l1, an⟩ ≤ sizeM ⟨S, T', lf, an⟩) := by
                have := (foldM_good (vs := vs) F _ HG2.out.1 HFI.out).2.1
                rw [hJ.out.2.2] at this
                exact this
              obtain ⟨m, HGM⟩ : ∃ m, Hid (gk = m + 1 ∧ SpI w wr g a c1 S1 T1 ∧ GoodM mn ⟨S1, T1, l1, an⟩ ∧ sizeM ⟨S1, T1, l1, an⟩ ≤ m ∧ drainM vs mn m ⟨S1, T1, l1, an⟩ = DR) := by
                obtain ⟨m, h1, h2, h3⟩ := HG2.out.2
                rw [hJ.out.2.2] at h3
                exact ⟨m, h1, hJ.out.1, hJ.out.2.1, Nat.le_trans HSZ.out h2, h3⟩
              clear HT HG2 HFV HFI hJ HSZ HV HMISS
              go_wp2_with fail
              go_roundg m
              case rel => exact ⟨S1, T1, l1, a, c1, rfl, rfl, HGM.out.2⟩
              case measure => have := HGM.out.1; omega

end Go.Proofs.YtgbpnepipknjnaaDoor

/- The walk of spec.Mark, whatever its arguments. -/
namespace Go.Proofs.YtgbpnepipknjnaaDoor
open Go.RowKit

set_option maxHeartbeats 1000000 in
set_option maxRecDepth 100000 in
theorem specMark_any (a : Option Addr) (c : Nat) (ss : List SlotA) (root most : Int) (w : World) (hr : ReadsVw w a ss) (hf : Fit ss) :
    Calls Tryd.prog 28 #[.slice a ss.length c, .int .i64 root, .int .i64 most] w fun e w' => MarkAns w (markV (vsOf ss) root most) e w' := by
  have C := l11Call_any a c ss root w hr hf
  cases hvb : viewB (vsOf ss) && inB root 1 31 with
  | false =>
    rw [hvb] at C
    have HR : Hid (markV (vsOf ss) root most = ([], 0)) := markV_no (by rw [← Bool.and_assoc, hvb]; rfl)
    rw [HR.out]
    clear hvb HR hr hf
    go_enter Tryd.func28, Tryd.ntmps28
    go_wp2_with fail
    refine C.mono ?_
    rintro e w1 ⟨rfl, hb1⟩
    have HA := markAns_none hb1
    clear C
    go_wp2_with fail
    go_ret2
    exact HA
  | true =>
    cases hmb : inB most 1 40 with
    | false =>
      rw [hvb] at C
      have HR : Hid (markV (vsOf ss) root most = ([], 0)) := markV_no (by rw [← Bool.and_assoc, hvb, hmb]; rfl)
      have HIN : Hid (∀ u, Calls Tryd.prog 47 #[.int .i64 most, .int .i64 1, .int .i64 40] u fun e w' => e = .returned (.bool false) ∧ w' = u) := fun u => by
        have := l1In_any most 1 40 u
        rwa [hmb] at this
      rw [HR.out]
      clear hvb HR hr hf hmb
      go_enter Tryd.func28, Tryd.ntmps28
      go_wp2_with fail
      refine C.mono ?_
      rintro e w1 ⟨rfl, hb1⟩
      have HA := markAns_none hb1
      clear C
      go_wp2_with fail
      refine (HIN.out w1).mono ?_
      rintro e w2 ⟨rfl, rfl⟩
      clear HIN
      go_wp2_with fail
      go_ret2
      exact HA
    | true =>
      simp only [Bool.and_eq_true] at hvb
      obtain ⟨hv, hri⟩ := hvb
      have hri' : 1 ≤ root ∧ root ≤ 31 := by simpa [inB] using hri
      have hmi' : 1 ≤ most ∧ most ≤ 40 := by simpa [inB] using hmb
      have h32 : ss.length = 32 := by have := viewB_len32 hv; rwa [vsOf_len] at this
      obtain ⟨rn, rfl⟩ : ∃ rn : Nat, root = rn := ⟨root.toNat, by omega⟩
      obtain ⟨mn, rfl⟩ : ∃ mn : Nat, most = mn := ⟨most.toNat, by omega⟩
      obtain ⟨b, off, rfl, _⟩ := hr (by intro e; rw [e] at h32; simp at h32)
      rw [markV_yes (by rw [hv, hri, hmb]; rfl), Int.toNat_natCast, h32]
      exact specMark_ok b off c ss rn mn (by omega) (by omega) hv w hr hf h32
end Go.Proofs.YtgbpnepipknjnaaDoor

/- What came in, read: a slice of numbers, an object. -/
namespace Go.Proofs.YtgbpnepipknjnaaDoor
open Go.ChangeShapes Go.WideShapes Go.ChangeAt Go.RowKit

def InI64 (z : Int) : Prop := -9223372036854775808 ≤ z ∧ z ≤ 9223372036854775807
theorem wf_i64 {z : Int} (h : (Lit.int .i64 z).wf = true) : InI64 z := by
  simp [Lit.wf, IntKind.min, IntKind.max, IntKind.signed, IntKind.bits] at h
  unfold InI64; omega

theorem some_at {α : Type} (xs : List α) (i : Nat) (h : i < xs.length) : ∃ y, xs[i]? = some y := ⟨_, List.getElem?_eq_getElem h⟩

section
variable {H : Type} {enc : TypeId × Value → H} {w : World} {base : Nat} {spare : Nat → Bool} {held : Bool}

theorem trod_ints {fuel : Nat} {cs : List Value} {x : DataW H × List MemPlace} (h : DataW.trod enc Tryd.prog w base spare held fuel 27 cs = some x) :
    ∃ (a : Option Addr) (c : Nat) (ns : List Int), cs = [.slice a ns.length c] ∧ ReadsI w a ns ∧ (a = none → c = 0) ∧ ns.length ≤ maxLen ∧ ∀ z ∈ ns, InI64 z := by
  rcases open_ints Tryd.underlying27 Tryd.underlying3 (by kernel_rfl) h with ⟨rfl, _⟩ | ⟨a, len, cap, zs, rfl, _, hl, hm, hz, _, hcell, hwf⟩
  · exact ⟨none, 0, [], rfl, fun h => absurd rfl h, fun _ => rfl, by simp, by simp⟩
  · have hlz : len ≤ zs.length := by rw [hz]; split <;> omega
    refine ⟨some a, cap, zs.take len, by simp; omega, ?_, (fun h => by cases h), by simp; omega, fun z hzz => wf_i64 (hwf z (List.mem_of_mem_take hzz))⟩
    intro hne
    have hpos := List.length_pos_iff.2 hne
    simp at hpos
    obtain ⟨b, off, spot⟩ := a
    have hc0 := hcell 0 (by omega)
    have hspot : spot = none := by simpa [Addr.add] using World.cell?_spot hc0
    subst hspot
    refine ⟨b, off, rfl, fun i hi => ?_⟩
    have hi' : i < len := by simp at hi; omega
    have := hcell i (by omega)
    have e : (List.take len zs).getD i 0 = zs.getD i 0 := by simp [List.getD, hi']
    rw [e, ← Addr_add]
    exact this

theorem trod_num {fuel : Nat} {cs : List Value} {x : DataW H × List MemPlace} (h : DataW.trod enc Tryd.prog w base spare held fuel 3 cs = some x) : ∃ n : Int, cs = [.int .i64 n] ∧ InI64 n := by
  obtain ⟨n, rfl, _, hw⟩ := DataW.trod_int Tryd.underlying3 h
  exact ⟨n, rfl, wf_i64 hw⟩

theorem Tryd.cellsI : Tryd.prog.cellsOf 3 = 1 := by kernel_rfl
theorem Tryd.cellsIs : Tryd.prog.cellsOf 27 = 1 := by kernel_rfl
theorem Tryd.cellsO : Tryd.prog.cellsOf 66 = 3 := by kernel_rfl

set_option maxRecDepth 100000 in
theorem trod_obj {fuel : Nat} {cs : List Value} {x : DataW H × List MemPlace} (h : DataW.trod enc Tryd.prog w base spare held fuel 66 cs = some x) :
    ∃ (o : ObjV) (aI : Option Addr) (cI : Nat) (aR : Option Addr) (cR : Nat), cs = [.int .i64 o.kind, .slice aI o.ints.length cI, .slice aR o.refs.length cR] ∧ ReadsO w aI cI aR cR o ∧ o.ints.length ≤ maxLen ∧ o.refs.length ≤ maxLen ∧ InI64 o.kind ∧ (∀ z ∈ o.ints, InI64 z) ∧ (∀ z ∈ o.refs, InI64 z) := by
  obtain ⟨xs, n, _, _, hlen, hxl, hf⟩ := DataW.trod_struct Tryd.underlying66 h
  rw [Tryd.cellsO] at hlen
  match cs, hlen with
  | [v0, v1, v2], _ =>
    have f0 := hf 0 _ rfl
    have f1 := hf 1 _ rfl
    have f2 := hf 2 _ rfl
    obtain ⟨y0, hx0⟩ := some_at xs 0 (by rw [hxl]; decide)
    obtain ⟨y1, hx1⟩ := some_at xs 1 (by rw [hxl]; decide)
    obtain ⟨y2, hx2⟩ := some_at xs 2 (by rw [hxl]; decide)
    rw [hx0] at f0
    rw [hx1] at f1
    rw [hx2] at f2
    simp only [List.getElem_toArray, List.getElem_cons_zero, List.getElem_cons_succ, Tryd.cellsI, Tryd.cellsIs, List.drop, List.take] at f0 f1 f2
    obtain ⟨k, e0, wk⟩ := trod_num f0
    obtain ⟨aI, cI, ints, e1, hI, nI, lI, wI⟩ := trod_ints f1
    obtain ⟨aR, cR, refs, e2, hR, nR, lR, wR⟩ := trod_ints f2
    simp only [List.cons.injEq, and_true] at e0 e1 e2
    subst e0 e1 e2
    exact ⟨⟨k, ints, refs⟩, aI, cI, aR, cR, rfl, ⟨hI, hR, nI, nR⟩, lI, lR, wk, wI, wR⟩

end
end Go.Proofs.YtgbpnepipknjnaaDoor

/- What came in, read: a slot, a page. -/
namespace Go.Proofs.YtgbpnepipknjnaaDoor
open Go.ChangeShapes Go.WideShapes Go.ChangeAt Go.RowKit

/-- A slot as it came in: its lists are read, its numbers are 64-bit numbers. -/
structure InSlot (w : World) (s : SlotA) : Prop where
  reads : s.reads w
  lI : s.v.o.ints.length ≤ maxLen
  lR : s.v.o.refs.length ≤ maxLen
  kind : InI64 s.v.o.kind
  ints : ∀ z ∈ s.v.o.ints, InI64 z
  refs : ∀ z ∈ s.v.o.refs, InI64 z

section
variable {H : Type} {enc : TypeId × Value → H} {w : World} {base : Nat} {spare : Nat → Bool} {held : Bool}

theorem Tryd.cellsB : Tryd.prog.cellsOf 4 = 1 := by kernel_rfl
theorem Tryd.cellsSl : Tryd.prog.cellsOf 68 = 4 := by kernel_rfl
set_option maxRecDepth 100000 in
theorem trod_slot {fuel : Nat} {cs : List Value} {x : DataW H × List MemPlace} (h : DataW.trod enc Tryd.prog w base spare held fuel 68 cs = some x) :
    ∃ s : SlotA, cs = s.cells ∧ InSlot w s := by
  obtain ⟨xs, n, _, _, hlen, hxl, hf⟩ := DataW.trod_struct Tryd.underlying68 h
  rw [Tryd.cellsSl] at hlen
  match cs, hlen with
  | [v0, v1, v2, v3], _ =>
    have f0 := hf 0 _ rfl
    have f1 := hf 1 _ rfl
    obtain ⟨y0, hx0⟩ := some_at xs 0 (by rw [hxl]; decide)
    obtain ⟨y1, hx1⟩ := some_at xs 1 (by rw [hxl]; decide)
    rw [hx0] at f0
    rw [hx1] at f1
    simp only [List.getElem_toArray, List.getElem_cons_zero, List.getElem_cons_succ, Tryd.cellsB, Tryd.cellsO, List.drop, List.take] at f0 f1
    obtain ⟨b, e0, _⟩ := DataW.trod_bool Tryd.underlying4 f0
    obtain ⟨o, aI, cI, aR, cR, e1, hr, lI, lR, wk, wI, wR⟩ := trod_obj f1
    simp only [List.cons.injEq, and_true] at e0 e1
    obtain ⟨rfl, rfl, rfl⟩ := e1
    subst e0
    exact ⟨⟨⟨b, o⟩, aI, cI, aR, cR⟩, rfl, hr, lI, lR, wk, wI, wR⟩

end
end Go.Proofs.YtgbpnepipknjnaaDoor

/- What came in, read: a row of slots. -/
namespace Go.Proofs.YtgbpnepipknjnaaDoor
open Go.ChangeShapes Go.WideShapes Go.ChangeAt Go.RowKit

section
variable {H : Type} {enc : TypeId × Value → H} {w : World} {base : Nat} {spare : Nat → Bool} {held : Bool}

set_option maxRecDepth 100000 in
theorem trod_slots {fuel : Nat} {cs : List Value} {x : DataW H × List MemPlace} (h : DataW.trod enc Tryd.prog w base spare held fuel 41 cs = some x) :
    ∃ (a : Option Addr) (c : Nat) (rs : List SlotA), cs = [.slice a rs.length c] ∧ ReadsVw w a rs ∧ (∀ r ∈ rs, InSlot w r) ∧ rs.length ≤ maxLen := by
  rcases DataW.trod_slice Tryd.underlying41 h with ⟨rfl, _⟩ | ⟨a, len, cap, elems, rest, n, _, rfl, _, _, hl, hm, hlen, hel, _, _⟩
  · exact ⟨none, 0, [], rfl, ReadsVw.nil _ _, fun r hr => by simp at hr, by simp⟩
  rw [Tryd.cellsSl] at hel
  have each : ∀ i, i < len → ∃ t : SlotA, w.cells? base (a.add (i * 4)) 4 = some t.cells ∧ InSlot w t := by
    intro i hi
    have hy := hel i hi
    rw [List.getElem?_eq_getElem (by omega : i < elems.length), Option.bind_eq_some_iff] at hy
    obtain ⟨cs', hcs, hy'⟩ := hy
    obtain ⟨t, e, ht⟩ := trod_slot hy'
    exact ⟨t, by rw [hcs, e], ht⟩
  obtain ⟨f, hf⟩ : ∃ f : Nat → SlotA, ∀ i, i < len → w.cells? base (a.add (i * 4)) 4 = some (f i).cells ∧ InSlot w (f i) := by
    refine ⟨fun i => if h : i < len then (each i h).choose else zeroS, fun i hi => ?_⟩
    simp only [dif_pos hi]
    exact (each i hi).choose_spec
  refine ⟨some a, cap, (List.range len).map f, by simp, ?_, ?_, by simp; omega⟩
  · intro hne
    have hpos := List.length_pos_iff.2 hne
    simp only [List.length_map, List.length_range] at hpos ⊢
    obtain ⟨b, off, spot⟩ := a
    have c0 := (World.cells?_some (hf 0 hpos).1).2.2 0 (by decide)
    have hspot : spot = none := by simpa [Addr.add] using World.cell?_spot c0
    subst hspot
    refine ⟨b, off, rfl, fun k hk => ?_⟩
    have e : ((List.range len).map f).getD k zeroS = f k := by simp [List.getD, hk]
    rw [e]
    have hc := (World.cells?_some (hf k hk).1).2.2
    refine ⟨fun j v hv => ?_, (hf k hk).2.reads⟩
    have hj : j < 4 := by have := (List.getElem?_eq_some_iff.1 hv).1; rwa [cells_lenV] at this
    have d := hc j (by simpa using hj)
    simp only [Addr_add] at d
    rw [d, hv]
  · intro r hr
    obtain ⟨k, hk, rfl⟩ := List.mem_map.1 hr
    exact (hf k (List.mem_range.1 hk)).2

set_option maxRecDepth 100000 in
theorem open_slots {b0 : Nat} {v : Value} {d : DataW H} {ps : List MemPlace} (hval : Value.okWide Tryd.prog w .any b0 41 v) (h : DataW.Trod enc Tryd.prog w base spare held 41 v d ps) :
    ∃ (a : Option Addr) (c : Nat) (ss : List SlotA), v = .slice a ss.length c ∧ ReadsVw w a ss ∧ (∀ s ∈ ss, InSlot w s) ∧ ss.length ≤ maxLen := by
  obtain ⟨a, len, cap, hv⟩ := okWide_slice (e := 68) Tryd.underlying41 hval
  subst hv
  obtain ⟨fuel, hf⟩ := h
  have e : (Value.slice a len cap).cells.toList = [Value.slice a len cap] := rfl
  rw [e] at hf
  obtain ⟨a', c', ss, hc, rest⟩ := trod_slots hf
  simp only [List.cons.injEq, and_true] at hc
  exact ⟨a', c', ss, hc, rest⟩
end
end Go.Proofs.YtgbpnepipknjnaaDoor

/- The walk of laws.FnExactViewOk. -/
namespace Go.Proofs.YtgbpnepipknjnaaDoor
open Go.RowKit

theorem short_of_vs {m : Nat} {ss ts : List SlotA} (h : ∀ r ∈ ss, r.short m) (e : ts.map SlotA.v = ss.map SlotA.v) : ∀ r ∈ ts, r.short m := fun s hs => by
  have : s.v ∈ ts.map SlotA.v := List.mem_map.2 ⟨s, hs, rfl⟩
  rw [e] at this
  obtain ⟨r, hr, hv⟩ := List.mem_map.1 this
  have := h r hr
  rw [SlotA.short, hv] at this
  exact this
theorem short_mono {m n : Nat} {ss : List SlotA} (h : ∀ r ∈ ss, r.short m) (hm : m ≤ n) : ∀ r ∈ ss, r.short n := fun r hr => ⟨Nat.le_trans (h r hr).1 hm, Nat.le_trans (h r hr).2 hm⟩

end Go.Proofs.YtgbpnepipknjnaaDoor
