/- The walk of spec.LocksOk. -/
import Derived.Test.YtekljhabjkmhpaaDoorLocks
import Derived.Deep.QuietTactic
namespace Go.Proofs.YtekljhabjkmhpaaDoor
open Go.RowKit

set_option maxHeartbeats 2000000 in
set_option maxRecDepth 100000 in
theorem specLocksOk_any (l : LocksA) (w : World) (hr : l.reads w) (hl : l.short 1099511627776) :
    Calls Tryd.prog 27 #[.agg #[.slice l.aG l.given.length l.cG, .slice l.aW l.waits.length l.cW]] w fun e w' => e = .returned (.bool (okLocks l.given l.waits)) ∧ Below w.heap.size w w' := by
  obtain ⟨G, V, aG, cG, aW, cW⟩ := l
  obtain ⟨hG, hV, _, _, _, _⟩ := hr
  obtain ⟨hlG, hlV⟩ := hl
  simp only at *
  have HLG : Hid (¬ G.length ≤ 60 → okLocks G V = false) := okLocks_g
  have HLV : Hid (¬ V.length ≤ 60 → okLocks G V = false) := okLocks_w
  have HG : Hid (∀ k, k < G.length → givenAt G k = false → okLocks G V = false) := fun k => okLocks_given k
  have HV : Hid (∀ k, k < V.length → waitAt V k = false → okLocks G V = false) := fun k => okLocks_wait k
  have HY : Hid (G.length ≤ 60 → V.length ≤ 60 → (∀ k, k < G.length → givenAt G k = true) → (∀ k, k < V.length → waitAt V k = true) → okLocks G V = true) := okLocks_yes
  generalize okLocks G V = R at *
  obtain ⟨W, hW, b0, hbW, hsW⟩ := boxes1 w [.slice aG G.length cG, .slice aW V.length cW] 30
  have hb0 := b0.lt
  have HB : Hid (∀ w', Below W.heap.size W w' → Below w.heap.size w w') := fun w' h => hbW.trans (h.mono hbW.size)
  have hGW := hG.below hbW
  have hVW := hV.below hbW
  have c0 := b0.cell 0 _ rfl
  have c1 := b0.cell 1 _ rfl
  clear hG hV hsW
  have HCG : Hid (∀ w', Below W.heap.size W w' → ∀ k, k < G.length → ∃ b off, aG = some ⟨b, off, none⟩ ∧ w'.cell? ⟨b, off + k * 3, none⟩ = some (.int .i64 (G.getD k zeroG).tx) ∧ w'.cell? ⟨b, off + k * 3 + 1, none⟩ = some (.int .i64 (G.getD k zeroG).res) ∧ w'.cell? ⟨b, off + k * 3 + 2, none⟩ = some (.int .i64 (G.getD k zeroG).mode)) := fun w' h k hk => by
    obtain ⟨b, off, ha, hc⟩ := (hGW.below h) (by intro e; rw [e] at hk; simp at hk)
    exact ⟨b, off, ha, hc k hk⟩
  have HCV : Hid (∀ w', Below W.heap.size W w' → ∀ k, k < V.length → ∃ b off, aW = some ⟨b, off, none⟩ ∧ w'.cell? ⟨b, off + k * 3, none⟩ = some (.int .i64 (V.getD k zeroG).tx) ∧ w'.cell? ⟨b, off + k * 3 + 1, none⟩ = some (.int .i64 (V.getD k zeroG).res) ∧ w'.cell? ⟨b, off + k * 3 + 2, none⟩ = some (.int .i64 (V.getD k zeroG).mode)) := fun w' h k hk => by
    obtain ⟨b, off, ha, hc⟩ := (hVW.below h) (by intro e; rw [e] at hk; simp at hk)
    exact ⟨b, off, ha, hc k hk⟩
  clear hGW hVW hbW
  by_cases h1 : G.length ≤ 60
  case neg =>
    have HR : Hid (R = false) := HLG.out h1
    clear HLG HLV HG HV HY
    have HX := HB.out W (Below.refl _ _)
    go_enter Tryd.func27, Tryd.ntmps27
    go_wp2
    go_ret
    rw [hW.out]
    exact ⟨ret_bool HR.out.symm, HX⟩
  by_cases h2 : V.length ≤ 60
  case neg =>
    have HR : Hid (R = false) := HLV.out h2
    clear HLG HLV HG HV HY
    have HX := HB.out W (Below.refl _ _)
    go_enter Tryd.func27, Tryd.ntmps27
    go_wp2
    go_ret
    rw [hW.out]
    exact ⟨ret_bool HR.out.symm, HX⟩
  go_enter Tryd.func27, Tryd.ntmps27
  go_wp2
  rw [hW.out]
  clear hW HLG HLV
  go_loopw [3] (fun i wr => ∃ k : Nat, k ≤ G.length ∧ i = .int .i64 k ∧ Hid (∀ j, j < k → givenAt G j = true) ∧ Below W.heap.size W wr) (fun i _ => G.length - (intOf i).toNat)
  case atStart => exact ⟨0, Nat.zero_le _, rfl, fun j hj => by omega, Below.refl _ _⟩
  case round =>
    obtain ⟨k, hk, rfl, hall, hbl⟩ := hrel
    have x0 := (hbl.cell (p := ⟨w.heap.size, 0, none⟩) hb0).trans c0
    have x1 := (hbl.cell (p := ⟨w.heap.size, 1, none⟩) hb0).trans c1
    have hlw : w.heap.size < wr.heap.size := Nat.lt_of_lt_of_le hb0 hbl.size
    by_cases hlt : k < G.length
    · obtain ⟨b, off, rfl, d0, d1, d2⟩ := HCG.out wr hbl k hlt
      have HF : Hid (grantB (G.getD k zeroG) = false → R = false) := fun h => HG.out k hlt (by simp only [givenAt, h, Bool.false_and])
      have HF2 : Hid ((G.take k).any (clashB (G.getD k zeroG)) = true → R = false) := fun h => HG.out k hlt (by simp only [givenAt, h, Bool.not_true, Bool.and_false])
      have HN : Hid (grantB (G.getD k zeroG) = true → (G.take k).any (clashB (G.getD k zeroG)) = false → ∀ j, j < k + 1 → givenAt G j = true) := fun h h' j hj => by
        by_cases e : j < k
        · exact hall.out j e
        · obtain rfl : j = k := by omega
          simp only [givenAt, h, h', Bool.not_false, Bool.and_self]
      clear hall HG HV HY HCV
      generalize G.getD k zeroG = z at *
      obtain ⟨V1, hV1, bz, hbV1, hsV1⟩ := boxes1 wr [.int .i64 z.tx, .int .i64 z.res, .int .i64 z.mode] 37
      have hB1 : Below W.heap.size W V1 := hbl.trans (hbV1.mono hbl.size)
      have C := l9Grant_any z V1
      have hzl := bz.lt
      clear hsV1 hbV1 c0 c1
      go_wp2_with fail
      rw [hV1.out]
      refine C.mono ?_
      clear C hV1
      generalize grantB z = gz at *
      rintro e w1 ⟨rfl, hb1⟩
      have hB2 : Below W.heap.size W w1 := hB1.trans (hb1.mono hB1.size)
      have bz1 := bz.below hb1 hzl
      have hL1 := bz1.lt
      have y0 := (Box.below b0 hB2 hb0).cell 0 _ rfl
      clear hb1 hB1 hbl d0 d1 d2 x0 x1 bz hzl
      cases gz
      · have HR : Hid (R = false) := HF.out rfl
        have HX := HB.out _ hB2
        go_wp2
        go_ret
        exact ⟨ret_bool HR.out.symm, HX⟩
      · clear HF
        have hsz : w.heap.size < wr.heap.size := hlw
        clear hlw
        generalize wr = wo at *
        go_wp2_with fail
        go_loopw [5] (fun i wq => ∃ j : Nat, j ≤ k ∧ i = .int .i64 j ∧ Hid ((G.take j).any (clashB z) = false) ∧ Below w1.heap.size w1 wq) (fun i _ => k - (intOf i).toNat)
        case atStart => exact ⟨0, Nat.zero_le _, rfl, rfl, Below.refl _ _⟩
        case round =>
          obtain ⟨j, hj, rfl, hany, hbq⟩ := hrel
          have hBq : Below W.heap.size W wr := hB2.trans (hbq.mono hB2.size)
          have bzq := bz1.below hbq hL1
          by_cases hjk : j < k
          · obtain ⟨b', off', hh, d0, d1, d2⟩ := HCG.out wr hBq j (by omega)
            cases hh
            have HH : Hid (clashB z (G.getD j zeroG) = true → R = false) := fun h => HF2.out (any_hit (k := j) (z := zeroG) (by rw [List.length_take]; omega) (by
              have e : (G.take k).getD j zeroG = G.getD j zeroG := by simp [List.getD, hjk]
              rw [e]; exact h))
            have HN2 : Hid (clashB z (G.getD j zeroG) = false → (G.take (j + 1)).any (clashB z) = false) := any_step (by omega) hany
            have HCB : Hid (∀ h, clashB z h = (h.res == z.res && (h.tx == z.tx || !goesB h.mode z.mode))) := fun _ => rfl
            clear hany HF2 HN HCG
            generalize G.getD j zeroG = h at *
            obtain ⟨e0, e1, e2, _⟩ := bzq.three
            have y0q := (Box.below b0 hBq hb0).cell 0 _ rfl
            have hzq := bzq.lt
            have hlq : w.heap.size < wr.heap.size := (Box.below b0 hBq hb0).lt
            obtain ⟨V2, hV2, bh, hbV2, hsV2⟩ := boxes1 wr [.int .i64 h.tx, .int .i64 h.res, .int .i64 h.mode] 37
            have hB3 : Below W.heap.size W V2 := hBq.trans (hbV2.mono hBq.size)
            have hB4 : Below w1.heap.size w1 V2 := hbq.trans (hbV2.mono hbq.size)
            have C := specGoes_any h.mode z.mode V2
            have HV2 : Hid (_ = V2) := hV2
            clear bh hsV2 hbV2 bz1 bzq y0 hL1
            by_cases q1 : h.res = z.res
            case neg =>
              have HR : Hid _ := HN2.out (by rw [HCB.out]; simp [q1])
              have HS : Hid (_ ∧ _) := ⟨hB3, hB4⟩
              clear hB3 hB4 C
              go_wp2_with fail
              rw [hV2.out]
              go_roundw
              case rel => exact ⟨j + 1, by omega, by go_num, HR.out, HS.out.2⟩
              case measure => simp [intOf]; omega
            by_cases q2 : h.tx = z.tx
            · have HR : Hid (R = false) := HH.out (by rw [HCB.out]; simp [q1, q2])
              have HX := HB.out _ hB3
              clear hB3 hB4 C
              obtain ⟨tx, res, mode⟩ := h
              simp only at q1 q2
              subst q1 q2
              go_wp2_with fail
              go_ret
              rw [HV2.out]
              exact ⟨ret_bool HR.out.symm, HX⟩
            · have HC1 : Hid (goesB h.mode z.mode = false → R = false) := fun hh => HH.out (by rw [HCB.out]; simp [q1, hh])
              have HC2 : Hid (goesB h.mode z.mode = true → (G.take (j + 1)).any (clashB z) = false) := fun hh => HN2.out (by rw [HCB.out]; simp [q2, hh])
              have HX := HB.out _ hB3
              have HS : Hid (_ ∧ _) := ⟨hB3, hB4⟩
              clear hB3 hB4
              generalize goesB h.mode z.mode = gg at *
              obtain ⟨tx, res, mode⟩ := h
              simp only at q1 q2
              subst q1
              go_wp2_with fail
              rw [hV2.out]
              refine C.mono ?_
              rintro e w' ⟨rfl, rfl⟩
              cases gg
              · have HR : Hid (R = false) := HC1.out rfl
                go_wp2_with fail
                go_ret
                exact ⟨ret_bool HR.out.symm, HX⟩
              · have HR : Hid _ := HC2.out rfl
                go_wp2_with fail
                go_roundw
                case rel => exact ⟨j + 1, by omega, by go_num, HR.out, HS.out.2⟩
                case measure => simp [intOf]; omega
          · have HK : Hid _ := HN.out trivial (by
              obtain rfl : j = k := by omega
              exact hany.out)
            clear HN HF2 hany bz1 bzq
            go_wp2_with fail
            go_roundw
            case rel => exact ⟨k + 1, by omega, by go_num, HK.out, hBq⟩
            case measure => simp [intOf]; omega
    · have HGA : Hid (∀ j, j < G.length → givenAt G j = true) := fun j hj => hall.out j (by omega)
      have hbL := hbl
      clear hall HG HCG
      generalize wr = wo at *
      go_wp2_with fail
      go_loopw [7] (fun i wr => ∃ k : Nat, k ≤ V.length ∧ i = .int .i64 k ∧ Hid (∀ j, j < k → waitAt V j = true) ∧ Below W.heap.size W wr) (fun i _ => V.length - (intOf i).toNat)
      case atStart => exact ⟨0, Nat.zero_le _, rfl, fun j hj => by omega, hbL⟩
      case round =>
        clear hbl x0 x1 hbL hlw
        obtain ⟨k, hk, rfl, hall, hbl⟩ := hrel
        have x0 := (hbl.cell (p := ⟨w.heap.size, 0, none⟩) hb0).trans c0
        have x1 := (hbl.cell (p := ⟨w.heap.size, 1, none⟩) hb0).trans c1
        by_cases hlt : k < V.length
        · obtain ⟨b, off, rfl, d0, d1, d2⟩ := HCV.out wr hbl k hlt
          have HF : Hid (grantB (V.getD k zeroG) = false → R = false) := fun h => HV.out k hlt (by simp only [waitAt, h, Bool.false_and])
          have HF2 : Hid ((V.take k).any (fun h => h.tx == (V.getD k zeroG).tx) = true → R = false) := fun h => HV.out k hlt (by simp only [waitAt, h, Bool.not_true, Bool.and_false])
          have HN : Hid (grantB (V.getD k zeroG) = true → (V.take k).any (fun h => h.tx == (V.getD k zeroG).tx) = false → ∀ j, j < k + 1 → waitAt V j = true) := fun h h' j hj => by
            by_cases e : j < k
            · exact hall.out j e
            · obtain rfl : j = k := by omega
              simp only [waitAt, h, h', Bool.not_false, Bool.and_self]
          have HZ : Hid (∀ w', Below W.heap.size W w' → w'.cell? ⟨b, off + k * 3, none⟩ = some (.int .i64 (V.getD k zeroG).tx)) := fun w' h => by
            obtain ⟨b', off', e, h0, _⟩ := HCV.out w' h k hlt
            cases e
            exact h0
          clear hall HV HY HGA
          generalize V.getD k zeroG = z at *
          have C := l9Grant_any z wr
          go_wp2_with fail
          refine C.mono ?_
          clear C
          generalize grantB z = gz at *
          rintro e w1 ⟨rfl, hb1⟩
          have hB2 : Below W.heap.size W w1 := hbl.trans (hb1.mono hbl.size)
          clear hb1 hbl d0 d1 d2 x0 x1
          cases gz
          · have HR : Hid (R = false) := HF.out rfl
            have HX := HB.out _ hB2
            go_wp2
            go_ret
            exact ⟨ret_bool HR.out.symm, HX⟩
          · clear HF
            generalize wr = wp at *
            go_wp2_with fail
            go_loopw [8] (fun i wq => ∃ j : Nat, j ≤ k ∧ i = .int .i64 j ∧ Hid ((V.take j).any (fun h => h.tx == z.tx) = false) ∧ Below W.heap.size W wq) (fun i _ => k - (intOf i).toNat)
            case atStart => exact ⟨0, Nat.zero_le _, rfl, rfl, hB2⟩
            case round =>
              obtain ⟨j, hj, rfl, hany, hBq⟩ := hrel
              have x1 := (hBq.cell (p := ⟨w.heap.size, 1, none⟩) hb0).trans c1
              by_cases hjk : j < k
              · obtain ⟨b', off', hh, d0, d1, d2⟩ := HCV.out wr hBq j (by omega)
                cases hh
                have d3 := HZ.out wr hBq
                have HH : Hid (((V.getD j zeroG).tx == z.tx) = true → R = false) := fun h => HF2.out (any_hit (p := fun h : GrantV => h.tx == z.tx) (k := j) (z := zeroG) (by rw [List.length_take]; omega) (by
                  have e : (V.take k).getD j zeroG = V.getD j zeroG := by simp [List.getD, hjk]
                  rw [e]; exact h))
                have HN2 : Hid (((V.getD j zeroG).tx == z.tx) = false → (V.take (j + 1)).any (fun h => h.tx == z.tx) = false) := any_step (p := fun h : GrantV => h.tx == z.tx) (by omega) hany
                clear hany HF2 HN HCV HZ d1 d2
                generalize V.getD j zeroG = h at *
                have HX := HB.out _ hBq.drew
                have HS : Hid (Below _ _ _) := hBq
                clear hBq hB2 c1
                by_cases q1 : h.tx = z.tx
                · have HR : Hid (R = false) := HH.out (by simp [q1])
                  go_wp2_with fail
                  go_quiet (fail)
                  go_wp2_with fail
                  go_ret
                  exact ⟨ret_bool HR.out.symm, below_drewN (HB.out _ HS.out) _⟩
                · have HR : Hid _ := HN2.out (by simp [q1])
                  go_wp2_with fail
                  go_quiet (fail)
                  go_wp2_with fail
                  go_roundw
                  case rel => exact ⟨j + 1, by omega, by go_num, HR.out, below_drewN HS.out _⟩
                  case measure => simp [intOf]; omega
              · have HK : Hid _ := HN.out trivial (by
                  obtain rfl : j = k := by omega
                  exact hany.out)
                clear HN HF2 hany
                go_wp2_with fail
                go_roundw
                case rel => exact ⟨k + 1, by omega, by go_num, HK.out, hBq⟩
                case measure => simp [intOf]; omega
        · have HR : Hid (R = true) := HY.out h1 h2 HGA.out (fun j hj => hall.out j (by omega))
          have HX := HB.out _ hbl
          go_wp2_with fail
          go_ret
          exact ⟨ret_bool HR.out.symm, HX⟩
end Go.Proofs.YtekljhabjkmhpaaDoor
