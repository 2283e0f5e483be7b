/- Several texts in one, in their order. -/
import Derived.Test.YtbpdocjkhmiimabGreatDoorPReadLogx20
import Derived.Test.YtbpdocjkhmiimabGreatDoorPReadLogx13
import Derived.Test.YtbpdocjkhmiimabGreatDoorPReadLogx8
import Derived.Test.YtbpdocjkhmiimabGreatDoorPReadLogx11
/- The walks of impl.GetText and spec.GetText. -/
namespace Go.Proofs.YtbpdocjkhmiimabGreatDoor
open Go.RowKit

/-- What GetText answers. -/
def textOf (zs : List Int) (p : Int) : Value := match getAt zs p with
  | some r => if 0 ≤ r.1 ∧ r.1 ≤ (zs.length : Int) - (r.2 : Int) then .tuple #[.string (strOf ((zs.drop r.2).take r.1.toNat)), .int .i64 ((r.2 : Int) + r.1), .bool true] else .tuple #[.string ⟨#[]⟩, .int .i64 0, .bool false]
  | none => .tuple #[.string ⟨#[]⟩, .int .i64 0, .bool false]

set_option maxHeartbeats 400000 in
theorem implGetText_any (a : Option Addr) (c : Nat) (zs : List Int) (p : Int) (w : World) (hr : Reads w a zs) (hl : zs.length ≤ 70368744177664) (hcap : zs.length ≤ c) :
    Calls Tryz.prog 142 #[.slice a zs.length c, .int .i64 p] w fun e w' => e = .returned (textOf zs p) ∧ w' = w := by
  cases hg : getAt zs p with
  | none =>
    have HT : Hid (textOf zs p = _) := (show textOf zs p = .tuple #[.string ⟨#[]⟩, .int .i64 0, .bool false] from by unfold textOf; rw [hg])
    have HG : Hid (_ = _) := hg
    clear hg
    go_enter Tryz.func142, Tryz.ntmps142
    go_wp2_with fail
    refine (implGetInt_any a c zs p w hr hl hcap).mono ?_
    rintro e w' ⟨rfl, rfl⟩
    rw [HG.out]
    simp only [triple]
    go_wp2
    go_ret3
    exact ⟨by rw [HT.out]; rfl, rfl⟩
  | some r =>
    obtain ⟨n, k⟩ := r
    obtain ⟨hk, hn1, hn2⟩ := getAt_bd zs p n k hg
    have HG : Hid (_ = _) := hg
    by_cases h0 : n < 0
    · have HT : Hid (textOf zs p = _) := (show textOf zs p = .tuple #[.string ⟨#[]⟩, .int .i64 0, .bool false] from by unfold textOf; rw [hg]; simp only; rw [if_neg (by omega)])
      clear hg
      go_enter Tryz.func142, Tryz.ntmps142
      go_wp2_with fail
      refine (implGetInt_any a c zs p w hr hl hcap).mono ?_
      rintro e w' ⟨rfl, rfl⟩
      rw [HG.out]
      simp only [triple]
      go_wp2
      go_ret3
      exact ⟨by rw [HT.out]; rfl, rfl⟩
    obtain ⟨m, rfl⟩ := Int.eq_ofNat_of_zero_le (show 0 ≤ n from by omega)
    by_cases h1 : (zs.length : Int) - (k : Int) < (m : Int)
    · have HT : Hid (textOf zs p = _) := (show textOf zs p = .tuple #[.string ⟨#[]⟩, .int .i64 0, .bool false] from by unfold textOf; rw [hg]; simp only; rw [if_neg (by omega)])
      clear hg
      go_enter Tryz.func142, Tryz.ntmps142
      go_wp2_with fail
      refine (implGetInt_any a c zs p w hr hl hcap).mono ?_
      rintro e w' ⟨rfl, rfl⟩
      rw [HG.out]
      simp only [triple]
      go_wp2
      go_ret3
      exact ⟨by rw [HT.out]; rfl, rfl⟩
    have HT : Hid (textOf zs p = _) := (show textOf zs p = .tuple #[.string (strOf ((zs.drop k).take m)), .int .i64 ((k : Int) + (m : Int)), .bool true] from by unfold textOf; rw [hg]; simp only; rw [if_pos (by omega), Int.toNat_natCast])
    rcases hr.cases with rfl | ⟨b, off, rfl, hpos, hcell⟩
    · simp [getAt, getOf, lead] at hg
    have hrp := reads_part hr.byte hcell k m (by omega)
    have hml : ((zs.drop k).take m).length = m := by simp; omega
    clear hg hcell
    generalize (zs.drop k).take m = G at *
    have HML : Hid (G.length = m) := hml
    clear hml
    by_cases hck : c = k
    · have hm0 : m ≤ 0 := by omega
      have hG : G = [] := by have := HML.out; exact List.length_eq_zero_iff.1 (by omega)
      have HGE : Hid (strOf G = strOf []) := by rw [hG]; rfl
      have hcA : ∀ cap, (convert 34 9 (.slice (some ⟨b, off, none⟩) (k + m - k) cap)).run Tryz.prog w = .ok (.string (strOf [])) w := fun cap => run_text w b off cap [] _ (by simp; omega) ⟨by simp, by simp⟩
      have hcB : ∀ cap, (convert 34 9 (.slice (some ⟨b, off, none⟩) m cap)).run Tryz.prog w = .ok (.string (strOf [])) w := fun cap => run_text w b off cap [] _ (by simp; omega) ⟨by simp, by simp⟩
      clear hG hrp
      subst hck
      go_enter Tryz.func142, Tryz.ntmps142
      go_wp2_with fail
      refine (implGetInt_any (some ⟨b, off, none⟩) c zs p w hr hl hcap).mono ?_
      rintro e w' ⟨rfl, rfl⟩
      rw [HG.out]
      simp only [triple]
      go_wp2
      go_ret3
      exact ⟨by rw [HT.out, HGE.out]; rfl, rfl⟩
    · have hcA : ∀ cap, (convert 34 9 (.slice (some ⟨b, off + k, none⟩) (k + m - k) cap)).run Tryz.prog w = .ok (.string (strOf G)) w := fun cap => run_text w b (off + k) cap G _ (by have := HML.out; omega) hrp
      have hcB : ∀ cap, (convert 34 9 (.slice (some ⟨b, off + k, none⟩) m cap)).run Tryz.prog w = .ok (.string (strOf G)) w := fun cap => run_text w b (off + k) cap G _ HML.out.symm hrp
      clear hrp
      go_enter Tryz.func142, Tryz.ntmps142
      go_wp2_with fail
      refine (implGetInt_any (some ⟨b, off, none⟩) c zs p w hr hl hcap).mono ?_
      rintro e w' ⟨rfl, rfl⟩
      rw [HG.out]
      simp only [triple]
      go_wp2
      go_ret3
      exact ⟨by rw [HT.out]; rfl, rfl⟩
end Go.Proofs.YtbpdocjkhmiimabGreatDoor

/- The walk of impl.PutInt. -/
namespace Go.Proofs.YtbpdocjkhmiimabGreatDoor
open Go.RowKit

end Go.Proofs.YtbpdocjkhmiimabGreatDoor

/- The walk of spec.l2Same. -/
namespace Go.Proofs.YtbpdocjkhmiimabGreatDoor
open Go.RowKit

set_option maxHeartbeats 400000 in
theorem l2Same_any (a b : Option Addr) (ca cb : Nat) (xs ys : List Int) (w : World) (ha : Reads w a xs) (hb : Reads w b ys) (hl : xs.length ≤ 1099511627776) (hl2 : ys.length ≤ 1099511627776) :
    Calls Tryz.prog 65 #[.slice a xs.length ca, .slice b ys.length cb] w fun e w' => e = .returned (.bool (decide (xs = ys))) ∧ ∃ n, w' = w.drewN n := by
  by_cases hle : xs.length = ys.length
  case neg =>
    have HE : Hid (_ = _) := ne_len hle
    have hle' : ((xs.length : Int) == (ys.length : Int)) = false := by simp; omega
    go_enter Tryz.func65, Tryz.ntmps65
    go_wp2
    go_ret
    exact ⟨ret_bool HE.out.symm, 0, rfl⟩
  case pos =>
  have HL : Hid (xs.length = ys.length) := hle
  have hle' : ((xs.length : Int) == (ys.length : Int)) = true := by simp; omega
  rcases ha.cases with rfl | ⟨b1, o1, rfl, hpos, hc1⟩
  · obtain rfl : ys = [] := List.length_eq_zero_iff.1 (by simpa using hle.symm)
    have HE : Hid (decide (([] : List Int) = []) = true) := by simp [Hid]
    clear hle hle' HL
    go_enter Tryz.func65, Tryz.ntmps65
    go_wp2
    refine wp_loop_rounds 1 ?_
    rw [rounds_succ]
    go_wp2
    go_ret
    exact ⟨ret_bool HE.out.symm, 0, rfl⟩
  · rcases hb.cases with rfl | ⟨b2, o2, rfl, _, hc2⟩
    · simp at hle; simp [hle] at hpos
    · clear hle
      go_enter Tryz.func65, Tryz.ntmps65
      go_wp2
      go_loopw [5] (fun i wr => ∃ k : Nat, k ≤ xs.length ∧ i = .int .i64 k ∧ Hid (∀ t, t < k → xs.getD t 0 = ys.getD t 0) ∧ ∃ n, wr = w.drewN n) (fun i _ => xs.length - (intOf i).toNat)
      case atStart => exact ⟨0, Nat.zero_le _, rfl, fun t ht => by omega, 0, rfl⟩
      case round =>
        obtain ⟨k, hk, rfl, hall, n, rfl⟩ := hrel
        by_cases hlt : k < xs.length
        · have h1 := hc1 k hlt
          have h2 := hc2 k (by have := HL.out; omega)
          have hlt2 : (k : Int) < (ys.length : Int) := by have := HL.out; omega
          clear hc1 hc2
          by_cases hz : xs.getD k 0 = ys.getD k 0
          · have HN : Hid (∀ t, t < k + 1 → xs.getD t 0 = ys.getD t 0) := by
              intro t ht
              by_cases e : t = k
              · rw [e]; exact hz
              · exact hall.out t (by omega)
            rw [← hz] at h2
            clear hz
            generalize xs.getD k 0 = z at *
            go_wp2
            go_quiet (fail)
            go_wp2
            go_roundw
            case rel => exact ⟨k + 1, by omega, by go_num, HN, _, rfl⟩
            case measure => simp [intOf]; omega
          · have HE : Hid (_ = _) := ne_at k hz
            have hzb : (xs.getD k 0 == ys.getD k 0) = false := by simpa using hz
            clear hz
            generalize xs.getD k 0 = z at *
            generalize ys.getD k 0 = y at *
            go_wp2
            go_quiet (fail)
            go_wp2
            go_ret
            exact ⟨ret_bool HE.out.symm, n + nq, by first | rfl | simp⟩
        · have HE : Hid (_ = _) := eq_all HL.out (fun t ht => hall.out t (by omega))
          go_wp2
          go_ret
          exact ⟨ret_bool HE.out.symm, n, rfl⟩

end Go.Proofs.YtbpdocjkhmiimabGreatDoor

/- The walk of spec.GetObj. -/
namespace Go.Proofs.YtbpdocjkhmiimabGreatDoor
open Go.RowKit

set_option maxHeartbeats 2000000 in
set_option maxRecDepth 100000 in
theorem specGetObj_any (a : Option Addr) (c : Nat) (zs : List Int) (w : World) (hr : Reads w a zs) (hl : zs.length ≤ 1099511627776) :
    Calls Tryz.prog 89 #[.slice a zs.length c] w fun e w' => ∃ aI cI aR cR o ok, e = .returned (.tuple #[.agg #[.int .i64 o.kind, .slice aI o.ints.length cI, .slice aR o.refs.length cR], .bool ok]) ∧ Hid (getPair zs = (o, ok)) ∧ OwnO w' w.heap.size w'.heap.size aI cI aR cR o ∧ Below w.heap.size w w' := by
  have HGR : Hid (_ = _) := getO_read zs
  have HRO : Hid (readO zs = (⟨(nextOf zs (0, false)).1, (listOf zs 5 (nextOf zs (0, false)).2).1, (listOf zs 5 (listOf zs 5 (nextOf zs (0, false)).2).2).1⟩, (listOf zs 5 (listOf zs 5 (nextOf zs (0, false)).2).2).2.2)) := rfl
  have HBR : Hid (zs ≠ [] → ∀ b off, a = some ⟨b, off, none⟩ → b ≠ w.heap.size + 1) := by
    intro hne b off ha
    obtain ⟨b', off', ha', hc⟩ := hr.2 hne
    rw [ha] at ha'
    cases ha'
    have := block_lt (hc 0 (List.length_pos_iff.2 hne))
    omega
  go_enter Tryz.func89, Tryz.ntmps89
  go_wp2_with fail
  obtain ⟨W, hW, bR, bB, bO, hbW, hsW⟩ := boxes3 w [.int .i64 0, .slice none 0 0, .slice none 0 0] [.slice a zs.length c, .int .i64 0, .bool false] [.int .i64 0, .slice none 0 0, .slice none 0 0] 54 95 54
  rw [hW.out]
  clear hW
  refine (l2Next_any (w.heap.size + 1) a c zs (0, false) W bB (hr.below hbW) (by omega)).mono ?_
  rintro e w1 ⟨⟨rfl, hb1⟩, hw1⟩
  generalize nextOf zs (0, false) = Y at *
  have hs1 := hw1.size
  have B1 : Below w.heap.size w w1 := hbW.trans (hw1.below (by omega) (by omega))
  have bO1 := bO.within hw1 (by omega)
  have bR1 := bR.within hw1 (by omega)
  have x10 := bO1.cell 0 _ rfl
  have f10 := bO1.frozen 0
  go_wp2_with fail
  obtain ⟨W2, hW2, bO2, hw2, hs2⟩ := box_set bO1 0 (.int .i64 Y.1)
  rw [hW2.out]
  clear hW2
  simp only [List.set] at bO2
  have rd2 : RdAt W2 (w.heap.size + 1) a c zs Y.2 := Box.within hb1 hw2 (by omega)
  have bR2 := bR1.within hw2 (by omega)
  have B2 : Below w.heap.size w W2 := B1.trans (hw2.below (by omega) (by omega))
  refine (l2List_any (w.heap.size + 1) a c zs Y.2 5 W2 rd2 (hr.below B2) (by omega) (by omega) HBR.out).mono ?_
  rintro e w3 ⟨aI, cI, L1, rfl, hn1, HL1, rd3, ho3, hw3⟩
  generalize listOf zs 5 Y.2 = Z1 at *
  have hs3 := hw3.size
  have B3 : Below w.heap.size w w3 := B2.trans (hw3.below (by omega) (by omega))
  have bO3 := bO2.within hw3 (by omega)
  have bR3 := bR2.within hw3 (by omega)
  have x31 := bO3.cell 1 _ rfl
  have f31 := bO3.frozen 1
  go_wp2_with fail
  obtain ⟨W4, hW4, bO4, hw4, hs4⟩ := box_set bO3 1 (.slice aI L1.length cI)
  rw [hW4.out]
  clear hW4
  simp only [List.set] at bO4
  have rd4 : RdAt W4 (w.heap.size + 1) a c zs Z1.2 := Box.within rd3 hw4 (by omega)
  have bR4 := bR3.within hw4 (by omega)
  have ho4 : OwnI W4 W2.heap.size w3.heap.size aI cI L1 := ho3.within hw4 (.inr (by omega))
  have B4 : Below w.heap.size w W4 := B3.trans (hw4.below (by omega) (by omega))
  refine (l2List_any (w.heap.size + 1) a c zs Z1.2 5 W4 rd4 (hr.below B4) (by omega) (by omega) HBR.out).mono ?_
  rintro e w5 ⟨aR, cR, L2, rfl, hn2, HL2, rd5, ho5, hw5⟩
  generalize listOf zs 5 Z1.2 = Z2 at *
  have hs5 := hw5.size
  have B5 : Below w.heap.size w w5 := B4.trans (hw5.below (by omega) (by omega))
  have bO5 := bO4.within hw5 (by omega)
  have bR5 := bR4.within hw5 (by omega)
  have ho45 : OwnI w5 W2.heap.size w3.heap.size aI cI L1 := ho4.within hw5 (.inr (by omega))
  have x52 := bO5.cell 2 _ rfl
  have f52 := bO5.frozen 2
  obtain ⟨W6, hW6, bO6, hw6, hs6⟩ := box_set bO5 2 (.slice aR L2.length cR)
  simp only [List.set] at bO6
  have rd6 : RdAt W6 (w.heap.size + 1) a c zs Z2.2 := Box.within rd5 hw6 (by omega)
  have bR6 := bR5.within hw6 (by omega)
  have ho46 : OwnI W6 W2.heap.size w3.heap.size aI cI L1 := ho45.within hw6 (.inr (by omega))
  have ho56 : OwnI W6 W4.heap.size w5.heap.size aR cR L2 := ho5.within hw6 (.inr (by omega))
  have B6 : Below w.heap.size w W6 := B5.trans (hw6.below (by omega) (by omega))
  have HO : Hid (readO zs = (⟨Y.1, L1, L2⟩, Z2.2.2)) := by rw [Hid, HRO.out, HL1.out, HL2.out]
  rw [HO.out] at HGR
  clear HRO HO HL1 HL2 rd2 rd3 rd4 rd5 bR1 bR2 bR3 bR4 bR5 bO1 bO2 bO3 bO4 B1 B2 B3 B4 ho3 ho4 ho5 ho45 bO bR bB hb1
  obtain ⟨k, sY⟩ := Y
  obtain ⟨lZ, p2, bd⟩ := Z2
  unfold RdAt at rd6
  simp only at *
  have r2 := rd6.cell 2 _ rfl
  have hB6 := bR6.lt
  have HPF : Hid (¬ (bd = false ∧ okB ⟨k, L1, L2⟩ = true ∧ putObjOf ⟨k, L1, L2⟩ = zs) → getPair zs = (noO, false)) := by
    intro h
    unfold getPair
    rw [HGR.out, if_neg h]
  have HPT : Hid (bd = false → okB ⟨k, L1, L2⟩ = true → putObjOf ⟨k, L1, L2⟩ = zs → getPair zs = (⟨k, L1, L2⟩, true)) := by
    intro h1 h2 h3
    unfold getPair
    rw [HGR.out, if_pos ⟨h1, h2, h3⟩]
  -- what is answered where it is none
  have fail : ∀ w', Below (w.heap.size + 1) W6 w' → Box w' w.heap.size [.int .i64 0, .slice none 0 0, .slice none 0 0] 54 := fun w' hh => bR6.below hh (by omega)
  have W6e := hW6.out
  cases bd with
  | true =>
    have HP : Hid (_ = _) := HPF.out (by simp)
    have g0 := bR6.cell 0 _ rfl
    have g1 := bR6.cell 1 _ rfl
    have g2 := bR6.cell 2 _ rfl
    have e0 := bR6.frozen 0
    have e1 := bR6.frozen 1
    have e2 := bR6.frozen 2
    have bF := ((bR6.set 0 (.int .i64 0)).set 1 (.slice none 0 0)).set 2 (.slice none 0 0)
    simp only [List.set] at bF
    have hwF : Within w.heap.size (w.heap.size + 1) W6 _ := ((within_set W6 w.heap.size 0 (.int .i64 0) (by omega)).trans (within_set _ w.heap.size 1 (.slice none 0 0) (by omega))).trans (within_set _ w.heap.size 2 (.slice none 0 0) (by omega))
    have HF : Hid (_ ∧ _ ∧ _ ∧ _) := ⟨bF.cell 0 _ rfl, bF.cell 1 _ rfl, bF.cell 2 _ rfl, hwF⟩
    clear bF hwF
    go_wp2
    obtain ⟨q0, q1, q2, hwF⟩ := HF.out
    generalize ((W6.setCell ⟨w.heap.size, 0, none⟩ (.int .i64 0)).setCell ⟨w.heap.size, 1, none⟩ (.slice none 0 0)).setCell ⟨w.heap.size, 2, none⟩ (.slice none 0 0) = WF at *
    refine bodyPost_ret (v := .tuple #[.agg #[.int .i64 0, .slice none 0 0, .slice none 0 0], .bool false]) (by simp [results, Tryz.results89, go_sem, q0, q1, q2]) rfl ⟨none, 0, none, 0, noO, false, rfl, HP.out, ⟨ownI_nil _ _ _ (Nat.le_refl _), ownI_nil _ _ _ (Nat.le_refl _), fun k hk => by cases hk⟩, B6.trans (hwF.below (Nat.le_refl _) (by omega))⟩
  | false =>
    have c0 := bO6.cell 0 _ rfl
    have c1 := bO6.cell 1 _ rfl
    have c2 := bO6.cell 2 _ rfl
    have hrO : ReadsO W6 aI cI aR cR ⟨k, L1, L2⟩ := ⟨ho46.reads, ho56.reads, ho46.nocap, ho56.nocap⟩
    have hok := specObjOk_any ⟨k, L1, L2⟩ aI cI aR cR W6 hrO (by simp only; omega) (by simp only; omega)
    go_wp2_with fail
    refine hok.mono ?_
    clear hok
    rintro e w7 ⟨rfl, hb7⟩
    have B7 : Below w.heap.size w w7 := B6.trans (hb7.mono (by omega))
    have bR7 := bR6.below hb7 (by omega)
    have bO7 := bO6.below hb7 bO6.lt
    have hs7 := hb7.size
    cases hB : okB ⟨k, L1, L2⟩ with
    | false =>
      have HP : Hid (_ = _) := HPF.out (by rw [hB]; simp)
      clear hB
      have g0 := (bR7).cell 0 _ rfl
      have g1 := (bR7).cell 1 _ rfl
      have g2 := (bR7).cell 2 _ rfl
      have e0 := (bR7).frozen 0
      have e1 := (bR7).frozen 1
      have e2 := (bR7).frozen 2
      have bF := (((bR7).set 0 (.int .i64 0)).set 1 (.slice none 0 0)).set 2 (.slice none 0 0)
      simp only [List.set] at bF
      have hwF : Within w.heap.size (w.heap.size + 1) w7 _ := ((within_set w7 w.heap.size 0 (.int .i64 0) (by omega)).trans (within_set _ w.heap.size 1 (.slice none 0 0) (by omega))).trans (within_set _ w.heap.size 2 (.slice none 0 0) (by omega))
      have HF : Hid (_ ∧ _ ∧ _ ∧ _) := ⟨bF.cell 0 _ rfl, bF.cell 1 _ rfl, bF.cell 2 _ rfl, hwF⟩
      clear bF hwF
      go_wp2
      obtain ⟨q0, q1, q2, hwF⟩ := HF.out
      generalize ((w7.setCell ⟨w.heap.size, 0, none⟩ (.int .i64 0)).setCell ⟨w.heap.size, 1, none⟩ (.slice none 0 0)).setCell ⟨w.heap.size, 2, none⟩ (.slice none 0 0) = WF at *
      refine bodyPost_ret (v := .tuple #[.agg #[.int .i64 0, .slice none 0 0, .slice none 0 0], .bool false]) (by simp [results, Tryz.results89, go_sem, q0, q1, q2]) rfl ⟨none, 0, none, 0, noO, false, rfl, HP.out, ⟨ownI_nil _ _ _ (Nat.le_refl _), ownI_nil _ _ _ (Nat.le_refl _), fun k hk => by cases hk⟩, (B7).trans (hwF.below (Nat.le_refl _) (by have := (B7).size; omega))⟩
    | true =>
      have HOK : Hid (_ = _) := hB
      clear hB
      have d0 := bO7.cell 0 _ rfl
      have d1 := bO7.cell 1 _ rfl
      have d2 := bO7.cell 2 _ rfl
      have hput := specPutObj_any ⟨k, L1, L2⟩ aI cI aR cR w7 (hrO.below hb7) (by simp only; omega) (by simp only; omega)
      go_wp2_with fail
      refine hput.mono ?_
      clear hput
      rintro e w8 ⟨a8, c8, y8, rfl, HY8, ho8, hb8⟩
      have B8 : Below w.heap.size w w8 := B7.trans (hb8.mono (by omega))
      have hs8 := hb8.size
      have hyl : y8.length ≤ 1000000 := by
        have h1 := putList_len L1
        have h2 := putList_len L2
        have h3 := (putOf_len k).2
        have h4 := put_ok HOK.out
        rw [HY8.out, h4, List.length_append, List.length_append]
        simp only
        omega
      have hsm := l2Same_any a8 a c8 c y8 zs w8 ho8.reads (hr.below B8) (by omega) hl
      go_wp2_with fail
      refine hsm.mono ?_
      clear hsm
      rintro e w9 ⟨rfl, n9, rfl⟩
      have B9 : Below w.heap.size w (w8.drewN n9) := below_drewN B8 n9
      have hb79 : Below w7.heap.size w7 (w8.drewN n9) := below_drewN hb8 n9
      have bR9 := bR7.below hb79 (by omega)
      have bO9 := bO7.below hb79 bO7.lt
      have ho49 := (ho46.below hb7).below hb79
      have ho59 := (ho56.below hb7).below hb79
      have hs9 : w7.heap.size ≤ (w8.drewN n9).heap.size := hb79.size
      have HD1 : Hid (decide (y8 = zs) = false → getPair zs = (noO, false)) := by
        intro h
        apply HPF.out
        rintro ⟨_, _, h3⟩
        rw [decide_eq_false_iff_not] at h
        exact h (HY8.out.trans h3)
      have HD2 : Hid (decide (y8 = zs) = true → getPair zs = (⟨k, L1, L2⟩, true)) := by
        intro h
        rw [decide_eq_true_eq] at h
        exact HPT.out (by first | rfl | trivial) HOK.out (HY8.out.symm.trans h)
      generalize w8.drewN n9 = w9 at *
      generalize decide (y8 = zs) = D at *
      cases D with
      | false =>
        have HP : Hid (_ = _) := HD1.out rfl
        have g0 := (bR9).cell 0 _ rfl
        have g1 := (bR9).cell 1 _ rfl
        have g2 := (bR9).cell 2 _ rfl
        have e0 := (bR9).frozen 0
        have e1 := (bR9).frozen 1
        have e2 := (bR9).frozen 2
        have bF := (((bR9).set 0 (.int .i64 0)).set 1 (.slice none 0 0)).set 2 (.slice none 0 0)
        simp only [List.set] at bF
        have hwF : Within w.heap.size (w.heap.size + 1) w9 _ := ((within_set w9 w.heap.size 0 (.int .i64 0) (by omega)).trans (within_set _ w.heap.size 1 (.slice none 0 0) (by omega))).trans (within_set _ w.heap.size 2 (.slice none 0 0) (by omega))
        have HF : Hid (_ ∧ _ ∧ _ ∧ _) := ⟨bF.cell 0 _ rfl, bF.cell 1 _ rfl, bF.cell 2 _ rfl, hwF⟩
        clear bF hwF
        go_wp2
        obtain ⟨q0, q1, q2, hwF⟩ := HF.out
        generalize ((w9.setCell ⟨w.heap.size, 0, none⟩ (.int .i64 0)).setCell ⟨w.heap.size, 1, none⟩ (.slice none 0 0)).setCell ⟨w.heap.size, 2, none⟩ (.slice none 0 0) = WF at *
        refine bodyPost_ret (v := .tuple #[.agg #[.int .i64 0, .slice none 0 0, .slice none 0 0], .bool false]) (by simp [results, Tryz.results89, go_sem, q0, q1, q2]) rfl ⟨none, 0, none, 0, noO, false, rfl, HP.out, ⟨ownI_nil _ _ _ (Nat.le_refl _), ownI_nil _ _ _ (Nat.le_refl _), fun k hk => by cases hk⟩, (B9).trans (hwF.below (Nat.le_refl _) (by have := (B9).size; omega))⟩
      | true =>
        have HP : Hid (_ = _) := HD2.out rfl
        have m0 := bO9.cell 0 _ rfl
        have m1 := bO9.cell 1 _ rfl
        have m2 := bO9.cell 2 _ rfl
        have g0 := (bR9).cell 0 _ rfl
        have g1 := (bR9).cell 1 _ rfl
        have g2 := (bR9).cell 2 _ rfl
        have e0 := (bR9).frozen 0
        have e1 := (bR9).frozen 1
        have e2 := (bR9).frozen 2
        have bF := (((bR9).set 0 (.int .i64 k)).set 1 (.slice aI L1.length cI)).set 2 (.slice aR L2.length cR)
        simp only [List.set] at bF
        have hwF : Within w.heap.size (w.heap.size + 1) w9 _ := ((within_set w9 w.heap.size 0 (.int .i64 k) (by omega)).trans (within_set _ w.heap.size 1 (.slice aI L1.length cI) (by omega))).trans (within_set _ w.heap.size 2 (.slice aR L2.length cR) (by omega))
        have HF : Hid (_ ∧ _ ∧ _ ∧ _) := ⟨bF.cell 0 _ rfl, bF.cell 1 _ rfl, bF.cell 2 _ rfl, hwF⟩
        clear bF hwF
        go_wp2
        obtain ⟨q0, q1, q2, hwF⟩ := HF.out
        generalize ((w9.setCell ⟨w.heap.size, 0, none⟩ (.int .i64 k)).setCell ⟨w.heap.size, 1, none⟩ (.slice aI L1.length cI)).setCell ⟨w.heap.size, 2, none⟩ (.slice aR L2.length cR) = WF at *
        have hsF := hwF.size
        refine bodyPost_ret (v := .tuple #[.agg #[.int .i64 k, .slice aI L1.length cI, .slice aR L2.length cR], .bool true]) (by simp [results, Tryz.results89, go_sem, q0, q1, q2]) rfl ⟨aI, cI, aR, cR, ⟨k, L1, L2⟩, true, rfl, HP.out, ⟨(ho49.within hwF (.inr (by omega))).widen (by omega) (by omega) (Nat.le_refl _), (ho59.within hwF (.inr (by omega))).widen (by omega) (by omega) (Nat.le_refl _), fun j hj hj' => by have := (ho46.lt j hj).2; have := (ho56.lt j hj').1; omega⟩, B9.trans (hwF.below (Nat.le_refl _) (by have := B9.size; omega))⟩
end Go.Proofs.YtbpdocjkhmiimabGreatDoor
