/- Several texts in one, in their order. -/
import Derived.Test.YtoboickdkednkaaDoorPFnPoolsx16
import Derived.Deep.RegionHeld3
import Derived.Test.YtoboickdkednkaaDoorPFnPoolsx15
import Derived.Test.YtoboickdkednkaaDoorPFnPoolsx6
import Derived.Test.YtoboickdkednkaaDoorPFnPoolsx8
import Derived.BigQuiet
import Derived.Test.YtoboickdkednkaaDoorPFnPoolsx10
import Derived.Test.YtoboickdkednkaaDoorPFnPoolsx12
import Derived.Test.YtoboickdkednkaaDoorPFnPoolsx13
import Derived.Deep.RegionLaw
import Derived.Deep.DrawnRows
import Derived.Test.YtoboickdkednkaaDoorPFnPoolsx3
import Derived.Test.YtoboickdkednkaaDoorPFnPoolsx11
/- The walk of impl.PageOk. -/
namespace Go.Proofs.YtoboickdkednkaaDoor
open Go.RowKit

theorem okP_out {n : Int} {vs : List SlotV} (h : inB n 0 1000000 = false) : okP n vs = false := by simp [okP, h]
theorem okP_four {n : Int} {ss : List SlotA} {c0 c1 c2 c3 : Bool} (h : inB n 0 1000000 = true) (hb : ss.map (fun s => slotB s.v) = [c0, c1, c2, c3]) : okP n (ss.map (·.v)) = (c0 && (c1 && (c2 && c3))) := by
  have e : (ss.map (·.v)).map slotB = [c0, c1, c2, c3] := by rw [List.map_map]; exact hb
  have e2 : ∀ vs : List SlotV, vs.all slotB = (vs.map slotB).all id := fun vs => by induction vs with
    | nil => rfl
    | cons v r ih => rw [List.all_cons, List.map_cons, List.all_cons, ← ih]; rfl
  rw [okP, h, Bool.and_true, e2, e]
  simp

theorem run_eq4 (c0 c1 c2 c3 : Bool) (w : World) : (Op.equalIn 10000 70 (.agg #[.bool c0, .bool c1, .bool c2, .bool c3]) (.agg #[.bool true, .bool true, .bool true, .bool true])).run Tryd.prog w = .ok (c0 && (c1 && (c2 && c3))) w := by
  cases c0 <;> cases c1 <;> cases c2 <;> cases c3 <;> kernel_rfl

set_option maxHeartbeats 1000000 in
set_option maxRecDepth 100000 in
theorem implPageOk_any (p : PageA) (h4 : p.ss.length = 4) (w : World) (hg : ErrT w) (hr : ReadsS w p.ss) (hl : Fit p.ss) :
    Calls Tryd.prog 24 #[.agg p.cells.toArray] w fun e w' => e = .returned (.bool (okP p.lsn (p.ss.map (·.v)))) ∧ Below w.heap.size w w' := by
  obtain ⟨W, hW, b0, b1, hbW, hsW⟩ := boxes2 w p.cells [.bool true, .bool true, .bool true, .bool true] 34 70
  have hc0 : ∀ w', Below W.heap.size W w' → w'.cell? ⟨w.heap.size, 0, none⟩ = some (.int .i64 p.lsn) := fun w' hh => (b0.below hh b0.lt).cell 0 _ rfl
  have hw0 := hc0 W (Below.refl _ _)
  cases hin : inB p.lsn 0 1000000 with
  | false =>
    have HF : Hid (okP p.lsn (p.ss.map (·.v)) = false) := okP_out hin
    have hz := inB_false hin
    clear hin hc0
    generalize okP p.lsn (p.ss.map (·.v)) = R at *
    generalize p.lsn = n at *
    rcases hz with h1 | ⟨h1, h2⟩
    · have h1' : decide ((0 : Int) ≤ n) = false := decide_eq_false (by omega)
      clear h1
      go_enter Tryd.func24, Tryd.ntmps24
      go_wp2_with fail
      rw [hW.out]
      go_quiet (fail)
      go_wp2
      go_ret
      exact ⟨ret_bool HF.out.symm, below_drewN hbW _⟩
    · have h1' : decide ((0 : Int) ≤ n) = true := decide_eq_true (by omega)
      have h2' : decide (n ≤ 1000000) = false := decide_eq_false (by omega)
      clear h1 h2
      go_enter Tryd.func24, Tryd.ntmps24
      go_wp2_with fail
      rw [hW.out]
      go_quiet (fail)
      go_wp2
      go_ret
      exact ⟨ret_bool HF.out.symm, below_drewN hbW _⟩
  | true =>
    obtain ⟨h1, h2⟩ := inB_true hin
    have h1' : (0 : Int) ≤ p.lsn := by omega
    have h2' : p.lsn ≤ 1000000 := by omega
    have HIN : Hid (_ = _) := hin
    have HRG : Hid (∀ w', Below W.heap.size W w' → w'.rangeAt w.heap.size 0 p.cells) := fun w' hh => Box.range [] p.cells [] (by simpa using b0.below hh b0.lt)
    have HRA : Hid (∀ w', Below W.heap.size W w' → w'.rangeAt (w.heap.size + 1) 0 [.bool true, .bool true, .bool true, .bool true]) := fun w' hh => Box.range [] [.bool true, .bool true, .bool true, .bool true] [] (by simpa using b1.below hh b1.lt)
    have HI : Hid ((Tryd.prog.info? 34).map (·.size) = some p.cells.length) := by rw [Hid, page_len p h4]; kernel_rfl
    clear hin h1 h2
    go_enter Tryd.func24, Tryd.ntmps24
    go_wp2_with fail
    rw [hW.out]
    refine wp_region_held_drew (S := fun w' => w'.cell? ⟨w.heap.size, 0, none⟩ = some (.int .i64 p.lsn) ∧ w'.rangeAt w.heap.size 0 p.cells ∧ w'.rangeAt (w.heap.size + 1) 0 [.bool true, .bool true, .bool true, .bool true]) (by kernel_rfl) ?_ (fun hHeld => ?_)
    · exact ⟨hc0 _ (Below.refl _ _).drew, HRG.out _ (Below.refl _ _).drew, HRA.out _ (Below.refl _ _).drew⟩
    have hd1 : decide ((0 : Int) ≤ p.lsn) = true := decide_eq_true h1'
    have hd2 : decide (p.lsn ≤ 1000000) = true := decide_eq_true h2'
    refine wpAnyH_take (i := 0) (v := .pointer (some ⟨w.heap.size, 0, none⟩)) rfl (by kernel_rfl) (by kernel_rfl) (by kernel_rfl) (fun _ _ _ h => h) (Or.inl ⟨by rfl, fun w' hw' => ?_⟩) hHeld ?_
    · go_simp
    go_simp
    refine wpAnyH_take (i := 1) (v := .int .i64 p.lsn) rfl (by kernel_rfl) (by kernel_rfl) (by kernel_rfl) (fun _ _ _ h => h) (Or.inl ⟨by rfl, fun w' hw' => ?_⟩) hHeld ?_
    · have q := hw'.1; go_simp
    go_simp
    refine wpAnyH_take (i := 2) (v := .bool true) rfl (by kernel_rfl) (by kernel_rfl) (by kernel_rfl) (fun _ _ _ h => h) (Or.inl ⟨by rfl, fun w' hw' => ?_⟩) hHeld ?_
    · go_simp
    go_simp
    refine wpAnyH_take (i := 3) (v := .bool true) rfl (by kernel_rfl) (by kernel_rfl) (by kernel_rfl) (fun _ _ _ h => h) (Or.inl ⟨by rfl, fun w' hw' => ?_⟩) hHeld ?_
    · go_simp
    go_simp
    refine wpAnyH_take (i := 4) (v := .pointer (some ⟨w.heap.size, 0, none⟩)) rfl (by kernel_rfl) (by kernel_rfl) (by kernel_rfl) (fun _ _ _ h => h) (Or.inl ⟨by rfl, fun w' hw' => ?_⟩) hHeld ?_
    · go_simp
    go_simp
    refine wpAnyH_take (i := 5) (v := .int .i64 p.lsn) rfl (by kernel_rfl) (by kernel_rfl) (by kernel_rfl) (fun _ _ _ h => h) (Or.inl ⟨by rfl, fun w' hw' => ?_⟩) hHeld ?_
    · have q := hw'.1; go_simp
    go_simp
    refine wpAnyH_take (i := 6) (v := .bool true) rfl (by kernel_rfl) (by kernel_rfl) (by kernel_rfl) (fun _ _ _ h => h) (Or.inl ⟨by rfl, fun w' hw' => ?_⟩) hHeld ?_
    · go_simp
    go_simp
    refine wpAnyH_take (i := 7) (v := .bool true) rfl (by kernel_rfl) (by kernel_rfl) (by kernel_rfl) (fun _ _ _ h => h) (Or.inl ⟨by rfl, fun w' hw' => ?_⟩) hHeld ?_
    · go_simp
    go_simp
    refine wpAnyH_take (i := 8) (v := .bool true) rfl (by kernel_rfl) (by kernel_rfl) (by kernel_rfl) (fun _ _ _ h => h) (Or.inl ⟨by rfl, fun w' hw' => ?_⟩) hHeld ?_
    · go_simp
    go_simp
    refine wpAnyH_take (i := 9) rfl (by kernel_rfl) (by kernel_rfl) (by kernel_rfl) (fun _ _ _ h => h) (yieldsIf_load_mid (by rfl) _ _ rfl _ _ rfl p.cells _ (fun _ h => h.2.1) Tryd.underlying34 rfl HI.out) hHeld ?_
    go_simp
    refine wpAnyH_take (i := 11) rfl (by kernel_rfl) (by kernel_rfl) (by kernel_rfl) (fun _ _ _ h => h) (yieldsIf_load_mid (by rfl) _ _ rfl _ _ rfl [.bool true, .bool true, .bool true, .bool true] _ (fun _ h => h.2.2) Tryd.underlying70 rfl (by kernel_rfl)) hHeld ?_
    go_simp
    refine wpAnyH_ready (rs := [10]) (by kernel_rfl) (by simp) ?_
    refine AllReadyH.cons rfl (fun K hK => ?_) AllReadyH.nil
    go_simp
    refine (markSlots_ok p h4 _ (hg.keep hbW.drew) (hr.below hbW.drew) hl).mono ?_
    rintro e w2 ⟨⟨c0, c1, c2, c3, rfl, hcs⟩, hb2⟩
    have B2 : Below W.heap.size W w2 := ((Below.refl _ _).drew).trans hb2
    have HR : Hid (_ = _) := okP_four HIN.out hcs
    clear hcs
    refine hK.out _ _ ⟨hc0 _ B2, HRG.out _ B2, HRA.out _ B2⟩ (fun hHeld => ?_)
    clear hK K
    refine wpAnyH_take (i := 12) (v := .bool (c0 && (c1 && (c2 && c3)))) rfl (by kernel_rfl) (by kernel_rfl) (by kernel_rfl) (fun _ _ _ h => h) (Or.inl ⟨by rfl, fun w' hw' => ?_⟩) hHeld ?_
    · have q := run_eq4 c0 c1 c2 c3 w'; go_simp
    go_simp
    generalize (c0 && (c1 && (c2 && c3))) = D at *
    refine wpAnyH_take (i := 13) (v := .bool D) rfl (by kernel_rfl) (by kernel_rfl) (by kernel_rfl) (fun _ _ _ h => h) (Or.inl ⟨by rfl, fun w' hw' => ?_⟩) hHeld ?_
    · go_simp
    go_simp
    refine wpAnyH_take (i := 14) (v := .bool D) rfl (by kernel_rfl) (by kernel_rfl) (by kernel_rfl) (fun _ _ _ h => h) (Or.inl ⟨by rfl, fun w' hw' => ?_⟩) hHeld ?_
    · go_simp
    go_simp
    refine wpAnyH_done (by kernel_rfl) ?_ _
    go_wp2
    go_ret
    exact ⟨ret_bool HR.out.symm, hbW.trans (B2.mono hbW.size)⟩
end Go.Proofs.YtoboickdkednkaaDoor

/- The walks of impl.pageNoOk and impl.PoolOk. -/
namespace Go.Proofs.YtoboickdkednkaaDoor
open Go.RowKit

theorem pageNoOk_any (no : Int) (w : World) : Calls Tryd.prog 23 #[.int .i64 no] w fun e w' => e = .returned (.bool (inB no 0 7)) ∧ w' = w := by
  by_cases h1 : 0 ≤ no
  · by_cases h2 : no < 8
    · have HB : Hid (inB no 0 7 = true) := by simp [Hid, inB]; omega
      go_enter Tryd.func23, Tryd.ntmps23
      go_wp2
      go_ret
      exact ⟨ret_bool HB.out.symm, rfl⟩
    · have HB : Hid (inB no 0 7 = false) := by simp [Hid, inB]; omega
      go_enter Tryd.func23, Tryd.ntmps23
      go_wp2
      go_ret
      exact ⟨ret_bool HB.out.symm, rfl⟩
  · have HB : Hid (inB no 0 7 = false) := by simp [Hid, inB]; omega
    go_enter Tryd.func23, Tryd.ntmps23
    go_wp2
    go_ret
    exact ⟨ret_bool HB.out.symm, rfl⟩
theorem fresh_v (p : PoolA) (k : Nat) : freshAt p.v.seats k = (inB (p.seats.getD k zeroSt).no 0 7 && okP (p.seats.getD k zeroSt).lsn ((p.seats.getD k zeroSt).ss.map (·.v)) && decide (seatedOf p.v.seats (p.seats.getD k zeroSt).no = k)) := by
  rw [freshAt, PoolA.v, seatV_at]
  rfl

set_option maxHeartbeats 4000000 in
set_option maxRecDepth 100000 in
theorem implPoolOk_any (p : PoolA) (w : World) (hg : ErrT w) (hr : p.reads w) (hl : p.short 1099511627776) :
    Calls Tryd.prog 11 #[.agg p.cells.toArray] w fun e w' => e = .returned (.bool (okPool p.v)) ∧ Below w.heap.size w w' := by
  have HLEN : Hid (¬ p.seats.length ≤ 3 → okPool p.v = false) := fun h => okPool_long (by simpa [PoolA.v] using h)
  have HHAND : Hid (inB p.hand 0 2 = false → okPool p.v = false) := fun h => okPool_hand h
  have HNO : Hid (∀ k, k < p.seats.length → (inB (p.seats.getD k zeroSt).no 0 7 && okP (p.seats.getD k zeroSt).lsn ((p.seats.getD k zeroSt).ss.map (·.v)) && decide (seatedOf p.v.seats (p.seats.getD k zeroSt).no = k)) = false → okPool p.v = false) := fun k hk h => okPool_no k (by simpa [PoolA.v] using hk) (by rw [fresh_v]; exact h)
  have HALL : Hid (p.seats.length ≤ 3 → inB p.hand 0 2 = true → (∀ k, k < p.seats.length → (inB (p.seats.getD k zeroSt).no 0 7 && okP (p.seats.getD k zeroSt).lsn ((p.seats.getD k zeroSt).ss.map (·.v)) && decide (seatedOf p.v.seats (p.seats.getD k zeroSt).no = k)) = true) → okPool p.v = true) := fun h0 h1 h => okPool_yes (by simpa [PoolA.v] using h0) h1 (fun k hk => by rw [fresh_v]; exact h k (by simpa [PoolA.v] using hk))
  have HST : Hid (∀ no u, Below w.heap.size w u → Calls Tryd.prog 12 #[.agg p.cells.toArray, .int .i64 no] u fun r w' => r = .returned (.int .i64 (seatedOf p.v.seats no)) ∧ Below u.heap.size u w') := fun no u hu => implSeated_any p no u (hr.below hu) hl
  generalize okPool p.v = R at *
  generalize seatedOf p.v.seats = SD at *
  have HS : Hid (∀ k, k < p.seats.length → (p.seats.getD k zeroSt).short 1099511627776) := fun k hk => hl.at k hk
  have hlen := hl.len
  obtain ⟨rs, s, a, c⟩ := p
  simp only [PoolA.reads, PoolA.cells] at *
  obtain ⟨W, hW, b0, hbW, hsW⟩ := boxes1 w [.slice a rs.length c, .int .i64 s] 26
  have c0 := b0.cell 0 _ rfl
  have c1 := b0.cell 1 _ rfl
  have HJ : Hid ((Tryd.prog.info? 38).map (·.size) = some 20) := by rw [Hid]; kernel_rfl
  clear hl hsW
  have HC : Hid (∀ k, k < rs.length → ∃ b off, a = some ⟨b, off, none⟩ ∧ W.rangeAt b (off + k * 20) (rs.getD k zeroSt).cells ∧ (rs.getD k zeroSt).reads W) := fun k hk => by
    obtain ⟨b, off, ha, hc⟩ := (ReadsSts.below hr hbW) (by intro e; rw [e] at hk; simp at hk)
    exact ⟨b, off, ha, (hc k hk).1, (hc k hk).2⟩
  clear hr
  by_cases h4 : rs.length ≤ 3
  case neg =>
    have HR : Hid (R = false) := HLEN.out h4
    clear HLEN HHAND HNO HALL
    go_enter Tryd.func11, Tryd.ntmps11
    go_wp2_with fail
    rw [hW.out]
    go_ret
    exact ⟨ret_bool HR.out.symm, hbW⟩
  case pos =>
    by_cases h5 : s < 0
    · have HR : Hid (R = false) := HHAND.out (by simp [inB]; omega)
      clear HLEN HHAND HNO HALL
      go_enter Tryd.func11, Tryd.ntmps11
      go_upto_region 1 with fail
      rw [hW.out]
      go_wp2_with fail
      go_ret
      exact ⟨ret_bool HR.out.symm, hbW⟩
    by_cases h6 : s < 3
    case neg =>
      have HR : Hid (R = false) := HHAND.out (by simp [inB]; omega)
      clear HLEN HHAND HNO HALL
      have h6b : 3 ≤ s := by omega
      go_enter Tryd.func11, Tryd.ntmps11
      go_upto_region 1 with fail
      rw [hW.out]
      go_wp2_with fail
      go_ret
      exact ⟨ret_bool HR.out.symm, hbW⟩
    case pos =>
      have HALL2 := HALL.out h4 (by simp [inB]; omega)
      have HALL3 : Hid _ := HALL2
      clear HALL2 HALL HLEN HHAND
      go_enter Tryd.func11, Tryd.ntmps11
      go_upto_region 1 with fail
      rw [hW.out]
      clear hW
      go_wp2_with fail
      go_loopw [22] (fun i wr => ∃ k : Nat, k ≤ rs.length ∧ i = .int .i64 k ∧ Hid (∀ m, m < k → (inB (rs.getD m zeroSt).no 0 7 && okP (rs.getD m zeroSt).lsn ((rs.getD m zeroSt).ss.map (·.v)) && decide (SD (rs.getD m zeroSt).no = m)) = true) ∧ Below W.heap.size W wr) (fun i _ => rs.length - (intOf i).toNat)
      case atStart => exact ⟨0, Nat.zero_le _, rfl, fun j hj => by omega, Below.refl _ _⟩
      case round =>
        obtain ⟨k, hk, rfl, hall, hbl⟩ := hrel
        have hbm : Below w.heap.size w wr := hbW.trans (hbl.mono hbW.size)
        have HP : Hid (∀ u, Below W.heap.size W u → u.cell? ⟨w.heap.size, 0, none⟩ = some (.slice a rs.length c) ∧ u.cell? ⟨w.heap.size, 1, none⟩ = some (.int .i64 s)) := fun u hu => ⟨(hu.cell (block_lt c0)).trans c0, (hu.cell (block_lt c1)).trans c1⟩
        clear c0 c1
        by_cases hlt : k < rs.length
        · obtain ⟨b, off, rfl, hcell, hrd⟩ := HC.out k hlt
          have HRG : Hid (wr.rangeAt b (off + k * 20) (rs.getD k zeroSt).cells) := rangeSt_below hcell hbl
          have hrdw := hrd.below hbl
          have hsh := HS.out k hlt
          have HN : Hid ((inB (rs.getD k zeroSt).no 0 7 && okP (rs.getD k zeroSt).lsn ((rs.getD k zeroSt).ss.map (·.v)) && decide (SD (rs.getD k zeroSt).no = k)) = false → R = false) := HNO.out k hlt
          have HY : Hid ((inB (rs.getD k zeroSt).no 0 7 && okP (rs.getD k zeroSt).lsn ((rs.getD k zeroSt).ss.map (·.v)) && decide (SD (rs.getD k zeroSt).no = k)) = true → ∀ m, m < k + 1 → (inB (rs.getD m zeroSt).no 0 7 && okP (rs.getD m zeroSt).lsn ((rs.getD m zeroSt).ss.map (·.v)) && decide (SD (rs.getD m zeroSt).no = m)) = true) := fun h m hm => by
            by_cases e : m = k
            · rw [e]; exact h
            · exact hall.out m (by omega)
          have hkk : (k : Int) < (rs.length : Int) := by omega
          have hk0 : (0 : Int) ≤ (k : Int) := by omega
          clear hcell HC HNO hall HS hrd
          generalize rs.getD k zeroSt = y at *
          obtain ⟨W1, hW1, b1, hb1, hs1⟩ := boxes1 wr [.int .i64 0, .int .i64 0, .bool false, .int .i64 0, .slice none 0 0, .slice none 0 0, .bool false, .int .i64 0, .slice none 0 0, .slice none 0 0, .bool false, .int .i64 0, .slice none 0 0, .slice none 0 0, .bool false, .int .i64 0, .slice none 0 0, .slice none 0 0, .bool false, .bool false] 38
          obtain ⟨W2, hW2, hw2, hs2, HT2, _, b2⟩ := seat_out y _ rfl b1
          have hB2' : Below wr.heap.size wr W2 := hb1.trans (hw2.below (Nat.le_refl _) (by omega))
          have hB2 : Below W.heap.size W W2 := hbl.trans (hB2'.mono hbl.size)
          have hbT2 : Below w.heap.size w W2 := hbW.trans (hB2.mono hbW.size)
          have HX : Hid (∀ u, Below W2.heap.size W2 u → u.cell? ⟨wr.heap.size, 0, none⟩ = some (.int .i64 y.no) ∧ u.rangeAt wr.heap.size 1 y.page.cells) := fun u hu => ⟨(b2.below hu b2.lt).cell 0 _ rfl, seat_page y (b2.below hu b2.lt)⟩
          have x0 := (HX.out W2 (Below.refl _ _)).1
          have xp := (HX.out W2 (Below.refl _ _)).2
          have HIP := Tryd.infoPg y.page rfl
          have C := implPageOk_any y.page rfl W2 (hg.keep hbT2) (hrdw.below hB2') hsh
          have e2 : y.page.lsn = y.lsn := rfl
          have e3 : y.page.ss = y.ss := rfl
          rw [e2, e3] at C
          have CN := pageNoOk_any y.no W2
          have HW2 : Hid (W1.setCells wr.heap.size 0 y.cells.toArray.toList = W2) := hW2.out
          have hOz := seat_one y
          clear hs1 hs2 b1 b2 hb1 hw2 hW2 hbl hbm e2 e3 hrdw hsh hB2'
          cases h6 : inB y.no 0 7 with
          | false =>
            have HR2 : Hid (R = false) := HN.out (by rw [h6]; rfl)
            rw [h6] at CN
            clear HN HY C h6 xp
            go_wp2_with (first | (guard_target = wpList _ _ _ (Oper.mk (some 26) _ _ _ _ _ :: _) _ _; refine wpList_load_mid rfl 38 (.tmp 25) rfl b (off + k * 20) rfl y.cells _ HRG.out Tryd.underlying38 rfl HJ.out ?_) | (guard_target = wpList _ _ _ (Oper.mk none (Op.store _ (Operand.tmp 4) _) _ _ _ _ :: _) _ _; refine wpList_store_mid rfl 38 (.tmp 4) (.tmp 26) rfl wr.heap.size 0 y.cells.toArray rfl rfl (by rw [hW1.out]; exact HT2.out) HJ.out hOz ?_; rw [hW1.out, HW2.out]) | fail)
            refine CN.mono ?_
            rintro e u ⟨rfl, hu⟩
            rw [hu]
            clear hu u CN
            go_wp2_with fail
            go_ret
            exact ⟨ret_bool HR2.out.symm, hbT2⟩
          | true =>
            rw [h6, Bool.true_and] at HN HY
            rw [h6] at CN
            clear h6
            cases h7 : okP y.lsn (y.ss.map (·.v)) with
            | false =>
              have HR2 : Hid (R = false) := HN.out (by rw [h7]; rfl)
              rw [h7] at C
              clear HN HY h7
              generalize y.page.cells = pc at *
              go_wp2_with (first | (guard_target = wpList _ _ _ (Oper.mk (some 26) _ _ _ _ _ :: _) _ _; refine wpList_load_mid rfl 38 (.tmp 25) rfl b (off + k * 20) rfl y.cells _ HRG.out Tryd.underlying38 rfl HJ.out ?_) | (guard_target = wpList _ _ _ (Oper.mk none (Op.store _ (Operand.tmp 4) _) _ _ _ _ :: _) _ _; refine wpList_store_mid rfl 38 (.tmp 4) (.tmp 26) rfl wr.heap.size 0 y.cells.toArray rfl rfl (by rw [hW1.out]; exact HT2.out) HJ.out hOz ?_; rw [hW1.out, HW2.out]) | fail)
              refine CN.mono ?_
              rintro e u ⟨rfl, hu⟩
              rw [hu]
              clear hu u CN
              go_wp2_with (first | (guard_target = wpList _ _ _ (Oper.mk (some 33) _ _ _ _ _ :: _) _ _; refine wpList_load_mid_if (by rfl) 34 (.tmp 32) rfl wr.heap.size 1 rfl pc _ xp Tryd.underlying34 rfl HIP ?_) | fail)
              refine C.mono ?_
              rintro e w1 ⟨rfl, hb1⟩
              go_wp2_with fail
              go_ret
              exact ⟨ret_bool HR2.out.symm, hbT2.trans (hb1.mono hbT2.size)⟩
            | true =>
              rw [h7, Bool.true_and] at HN HY
              rw [h7] at C
              clear h7
              generalize y.page.cells = pc at *
              go_wp2_with (first | (guard_target = wpList _ _ _ (Oper.mk (some 26) _ _ _ _ _ :: _) _ _; refine wpList_load_mid rfl 38 (.tmp 25) rfl b (off + k * 20) rfl y.cells _ HRG.out Tryd.underlying38 rfl HJ.out ?_) | (guard_target = wpList _ _ _ (Oper.mk none (Op.store _ (Operand.tmp 4) _) _ _ _ _ :: _) _ _; refine wpList_store_mid rfl 38 (.tmp 4) (.tmp 26) rfl wr.heap.size 0 y.cells.toArray rfl rfl (by rw [hW1.out]; exact HT2.out) HJ.out hOz ?_; rw [hW1.out, HW2.out]) | fail)
              refine CN.mono ?_
              rintro e u ⟨rfl, hu⟩
              rw [hu]
              clear hu u CN
              go_wp2_with (first | (guard_target = wpList _ _ _ (Oper.mk (some 33) _ _ _ _ _ :: _) _ _; refine wpList_load_mid_if (by rfl) 34 (.tmp 32) rfl wr.heap.size 1 rfl pc _ xp Tryd.underlying34 rfl HIP ?_) | fail)
              refine C.mono ?_
              rintro e w1 ⟨rfl, hb1⟩
              have B1 : Below W.heap.size W w1 := hB2.trans (hb1.mono hB2.size)
              have B1' : Below w.heap.size w w1 := hbW.trans (B1.mono hbW.size)
              have CS := HST.out y.no w1 B1'
              have p0 := (HP.out w1 B1).1
              have p1 := (HP.out w1 B1).2
              clear x0 xp C
              have x0 := (HX.out w1 hb1).1
              clear HX HP HST hB2 hbT2 hb1
              by_cases h8 : SD y.no = (k : Int)
              · have HR2 := HY.out (by simpa using h8)
                have HR3 : Hid _ := HR2
                rw [h8] at CS
                have hne : ((k : Int) != (k : Int)) = false := by simp
                clear HN HY HR2 h8
                go_wp2_with fail
                refine CS.mono ?_
                rintro e w2 ⟨rfl, hb2⟩
                have B2 : Below W.heap.size W w2 := B1.trans (hb2.mono B1.size)
                go_wp2_with fail
                go_roundw
                case rel => exact ⟨k + 1, by omega, by go_num, HR3, B2⟩
                case measure => simp [intOf]; omega
              · have HR2 : Hid (R = false) := HN.out (by simpa using h8)
                have hne : (SD y.no != (k : Int)) = true := by simpa using h8
                clear HN HY h8
                generalize SD y.no = sd at *
                go_wp2_with fail
                refine CS.mono ?_
                rintro e w2 ⟨rfl, hb2⟩
                go_wp2_with fail
                go_ret
                exact ⟨ret_bool HR2.out.symm, B1'.trans (hb2.mono B1'.size)⟩
        · have HE : Hid (true = R) := (HALL3.out (fun m hm => hall.out m (by omega))).symm
          clear hall HALL3
          go_wp2
          go_ret
          exact ⟨ret_bool HE.out, hbm⟩
end Go.Proofs.YtoboickdkednkaaDoor

/- The walk of spec.PoolOk. -/
namespace Go.Proofs.YtoboickdkednkaaDoor
open Go.RowKit

theorem seatB_v (s : SeatA) : seatB s.v = (inB s.no 0 7 && okP s.lsn (s.ss.map (·.v))) := rfl

set_option maxHeartbeats 4000000 in
set_option maxRecDepth 100000 in
theorem specPoolOk_any (p : PoolA) (w : World) (hr : p.reads w) (hl : p.short 1099511627776) :
    Calls Tryd.prog 10 #[.agg p.cells.toArray] w fun e w' => e = .returned (.bool (okPool p.v)) ∧ Below w.heap.size w w' := by
  have HLEN : Hid (¬ p.seats.length ≤ 3 → okPool p.v = false) := fun h => okPool_long (by simpa [PoolA.v] using h)
  have HHAND : Hid (inB p.hand 0 2 = false → okPool p.v = false) := fun h => okPool_hand h
  have HNO : Hid (∀ k, k < p.seats.length → seatB (p.seats.getD k zeroSt).v = false → okPool p.v = false) := fun k hk h => okPool_no k (by simpa [PoolA.v] using hk) (fresh_bad (by rw [PoolA.v, seatV_at]; exact h))
  have HDUP : Hid (∀ k j, k < p.seats.length → j < k → (p.seats.getD j zeroSt).no = (p.seats.getD k zeroSt).no → okPool p.v = false) := fun k j hk hj h => okPool_no k (by simpa [PoolA.v] using hk) (fresh_dup hj (by simpa [PoolA.v] using hk) (by rw [PoolA.v, seatV_at, seatV_at]; exact h))
  have HALL : Hid (p.seats.length ≤ 3 → inB p.hand 0 2 = true → (∀ k, k < p.seats.length → seatB (p.seats.getD k zeroSt).v = true ∧ ∀ j, j < k → (p.seats.getD j zeroSt).no ≠ (p.seats.getD k zeroSt).no) → okPool p.v = true) := fun h0 h1 h => okPool_yes (by simpa [PoolA.v] using h0) h1 (fun k hk => by
    have hk' : k < p.seats.length := by simpa [PoolA.v] using hk
    refine fresh_yes hk (by rw [PoolA.v, seatV_at]; exact (h k hk').1) (fun j hj => ?_)
    rw [PoolA.v, seatV_at, seatV_at]
    exact (h k hk').2 j hj)
  generalize okPool p.v = R at *
  have HS : Hid (∀ k, k < p.seats.length → (p.seats.getD k zeroSt).short 1099511627776) := fun k hk => hl.at k hk
  have hlen := hl.len
  obtain ⟨rs, s, a, c⟩ := p
  simp only [PoolA.reads, PoolA.cells] at *
  obtain ⟨W, hW, b0, hbW, hsW⟩ := boxes1 w [.slice a rs.length c, .int .i64 s] 26
  have c0 := b0.cell 0 _ rfl
  have c1 := b0.cell 1 _ rfl
  clear hl hsW
  have HC : Hid (∀ k, k < rs.length → ∃ b off, a = some ⟨b, off, none⟩ ∧ (∀ j, j < rs.length → W.rangeAt b (off + j * 20) (rs.getD j zeroSt).cells) ∧ (rs.getD k zeroSt).reads W) := fun k hk => by
    obtain ⟨b, off, ha, hc⟩ := (ReadsSts.below hr hbW) (by intro e; rw [e] at hk; simp at hk)
    exact ⟨b, off, ha, fun j hj => (hc j hj).1, (hc k hk).2⟩
  clear hr
  by_cases h4 : rs.length ≤ 3
  case neg =>
    have HR : Hid (R = false) := HLEN.out h4
    clear HLEN HHAND HNO HALL HDUP
    go_enter Tryd.func10, Tryd.ntmps10
    go_wp2_with fail
    rw [hW.out]
    go_ret
    exact ⟨ret_bool HR.out.symm, hbW⟩
  case pos =>
    cases h5 : inB s 0 2 with
    | false =>
      have HR : Hid (R = false) := HHAND.out h5
      clear HLEN HHAND HNO HALL HDUP
      have C := l1In_any s 0 2 W
      rw [h5] at C
      clear h5
      go_enter Tryd.func10, Tryd.ntmps10
      go_wp2_with fail
      rw [hW.out]
      refine C.mono ?_
      rintro e u ⟨rfl, hu⟩
      rw [hu]
      clear hu u
      go_wp2
      go_ret
      exact ⟨ret_bool HR.out.symm, hbW⟩
    | true =>
      have HALL2 := HALL.out h4 h5
      have HALL3 : Hid _ := HALL2
      have C := l1In_any s 0 2 W
      rw [h5] at C
      clear h5 HALL2 HALL HLEN HHAND
      go_enter Tryd.func10, Tryd.ntmps10
      go_wp2_with fail
      rw [hW.out]
      refine C.mono ?_
      rintro e u ⟨rfl, hu⟩
      rw [hu]
      clear hu u hW C
      go_wp2_with fail
      go_loopw [3, 4] (fun i _ wr => ∃ k : Nat, k ≤ rs.length ∧ i = .int .i64 k ∧ Hid (∀ m, m < k → seatB (rs.getD m zeroSt).v = true ∧ ∀ j, j < m → (rs.getD j zeroSt).no ≠ (rs.getD m zeroSt).no) ∧ Below W.heap.size W wr) (fun i _ _ => rs.length - (intOf i).toNat)
      case atStart => exact ⟨0, Nat.zero_le _, rfl, fun j hj => by omega, Below.refl _ _⟩
      case round =>
        obtain ⟨k, hk, rfl, hall, hbl⟩ := hrel
        have hbm : Below w.heap.size w wr := hbW.trans (hbl.mono hbW.size)
        have HP : Hid (∀ u, Below W.heap.size W u → u.cell? ⟨w.heap.size, 0, none⟩ = some (.slice a rs.length c)) := fun u hu => (hu.cell (block_lt c0)).trans c0
        have r0 := HP.out wr hbl
        clear c0 c1
        by_cases hlt : k < rs.length
        · obtain ⟨b, off, rfl, hcell, hrd⟩ := HC.out k hlt
          have HCL : Hid (∀ u, Below W.heap.size W u → ∀ j, j < rs.length → u.rangeAt b (off + j * 20) (rs.getD j zeroSt).cells) := fun u hu j hj => rangeSt_below (hcell j hj) hu
          have hyr := HCL.out wr hbl k hlt
          have x0 : wr.cell? ⟨b, off + k * 20, none⟩ = some (.int .i64 (rs.getD k zeroSt).no) := hyr 0 _ rfl
          have HPG : Hid (wr.rangeAt b (off + k * 20 + 1) (rs.getD k zeroSt).page.cells) := by
            intro j v hj
            have hjl := (List.getElem?_eq_some_iff.1 hj).1
            have := hyr (1 + j) v (by rw [SeatA.cells_page, Nat.add_comm, List.getElem?_cons_succ, List.getElem?_append_left hjl]; exact hj)
            rw [show off + k * 20 + 1 + j = off + k * 20 + (1 + j) by omega]
            exact this
          have HIP := (by show _ = some 17; kernel_rfl : (Tryd.prog.info? 34).map (·.size) = some (rs.getD k zeroSt).page.cells.length)
          have C := specPageOk_any (rs.getD k zeroSt).page rfl wr (hrd.below hbl) (HS.out k hlt)
          have CI := l1In_any (rs.getD k zeroSt).no 0 7 wr
          have HN : Hid (seatB (rs.getD k zeroSt).v = false → R = false) := HNO.out k hlt
          have HD : Hid (∀ j, j < k → (rs.getD j zeroSt).no = (rs.getD k zeroSt).no → R = false) := fun j hj h => HDUP.out k j hlt hj h
          have HY : Hid (seatB (rs.getD k zeroSt).v = true → (∀ j, j < k → (rs.getD j zeroSt).no ≠ (rs.getD k zeroSt).no) → ∀ m, m < k + 1 → seatB (rs.getD m zeroSt).v = true ∧ ∀ j, j < m → (rs.getD j zeroSt).no ≠ (rs.getD m zeroSt).no) := fun h h' m hm => by
            by_cases e : m = k
            · rw [e]; exact ⟨h, h'⟩
            · exact hall.out m (by omega)
          have hkk : (k : Int) < (rs.length : Int) := by omega
          have hk0 : (0 : Int) ≤ (k : Int) := by omega
          have HX0 : Hid (∀ u, Below W.heap.size W u → ∀ j, j < rs.length → u.cell? ⟨b, off + j * 20, none⟩ = some (.int .i64 (rs.getD j zeroSt).no)) := fun u hu j hj => HCL.out u hu j hj 0 _ rfl
          have e1 : PageA.cells (rs.getD k zeroSt).page = (rs.getD k zeroSt).page.cells := rfl
          rw [seatB_v] at HN HY
          have e2 : (rs.getD k zeroSt).page.lsn = (rs.getD k zeroSt).lsn := rfl
          have e3 : (rs.getD k zeroSt).page.ss = (rs.getD k zeroSt).ss := rfl
          rw [e2, e3] at C
          clear hcell HC HNO HDUP hall HS hrd hyr HCL e1 e2 e3
          generalize hy : rs.getD k zeroSt = y at *
          have HYE : Hid (rs.getD k zeroSt = y) := hy
          clear hy
          cases h6 : inB y.no 0 7 with
          | false =>
            have HR2 : Hid (R = false) := HN.out (by rw [h6]; rfl)
            rw [h6] at CI
            clear HN HY HD C h6
            go_wp2_with fail
            refine CI.mono ?_
            rintro e u ⟨rfl, hu⟩
            rw [hu]
            clear hu u CI
            go_wp2_with fail
            go_ret
            exact ⟨ret_bool HR2.out.symm, hbm⟩
          | true =>
            rw [h6, Bool.true_and] at HN HY
            rw [h6] at CI
            clear h6
            cases h7 : okP y.lsn (y.ss.map (·.v)) with
            | false =>
              have HR2 : Hid (R = false) := HN.out h7
              rw [h7] at C
              clear HN HY HD h7
              generalize y.page.cells = pc at *
              go_wp2_with fail
              refine CI.mono ?_
              rintro e u ⟨rfl, hu⟩
              rw [hu]
              clear hu u CI
              go_wp2_with (first | (guard_target = wpList _ _ _ (Oper.mk (some 36) _ _ _ _ _ :: _) _ _; refine wpList_load_mid_if (by rfl) 34 (.tmp 35) rfl b (off + k * 20 + 1) rfl pc _ HPG.out Tryd.underlying34 rfl HIP ?_) | fail)
              refine C.mono ?_
              rintro e w1 ⟨rfl, hb1⟩
              go_wp2_with fail
              go_ret
              exact ⟨ret_bool HR2.out.symm, hbm.trans (hb1.mono hbm.size)⟩
            | true =>
              have HY2 := HY.out h7
              have HY3 : Hid _ := HY2
              rw [h7] at C
              clear HN HY h7 HY2
              generalize y.page.cells = pc at *
              go_wp2_with fail
              refine CI.mono ?_
              rintro e u ⟨rfl, hu⟩
              rw [hu]
              clear hu u CI
              go_wp2_with (first | (guard_target = wpList _ _ _ (Oper.mk (some 36) _ _ _ _ _ :: _) _ _; refine wpList_load_mid_if (by rfl) 34 (.tmp 35) rfl b (off + k * 20 + 1) rfl pc _ HPG.out Tryd.underlying34 rfl HIP ?_) | fail)
              refine C.mono ?_
              rintro e w1 ⟨rfl, hb1⟩
              have hbl1 : Below W.heap.size W w1 := hbl.trans (hb1.mono hbl.size)
              clear C hb1 x0 r0 HPG HIP hbl hbm
              have HZK : Hid (∀ u, Below W.heap.size W u → u.cell? ⟨b, off + k * 20, none⟩ = some (.int .i64 y.no)) := fun u hu => by rw [← HYE.out]; exact HX0.out u hu k hlt
              generalize y.no = zk at *
              go_wp2_with fail
              go_loopw [4] (fun i wr => ∃ j : Nat, j ≤ k ∧ i = .int .i64 j ∧ Hid (∀ m, m < j → (rs.getD m zeroSt).no ≠ zk) ∧ Below W.heap.size W wr) (fun i _ => k - (intOf i).toNat)
              case atStart => exact ⟨0, Nat.zero_le _, rfl, fun j hj => by omega, hbl1⟩
              case round =>
                obtain ⟨j, hj, rfl, hal, hbl2⟩ := hrel
                have hbm2 : Below w.heap.size w wr := hbW.trans (hbl2.mono hbW.size)
                by_cases hjk : j < k
                · have hjl : j < rs.length := by omega
                  have hjj : (j : Int) < (rs.length : Int) := by omega
                  have hj0 : (0 : Int) ≤ (j : Int) := by omega
                  have r1 := HP.out wr hbl2
                  have y0 := HZK.out wr hbl2
                  have y1 := HX0.out wr hbl2 j hjl
                  have HD2 : Hid ((rs.getD j zeroSt).no = zk → R = false) := HD.out j hjk
                  have HN2 : Hid ((rs.getD j zeroSt).no ≠ zk → ∀ m, m < j + 1 → (rs.getD m zeroSt).no ≠ zk) := fun h m hm => by
                    by_cases e : m = j
                    · rw [e]; exact h
                    · exact hal.out m (by omega)
                  clear HD hal hbl1
                  generalize (rs.getD j zeroSt).no = zj at *
                  by_cases hq : zj = zk
                  · have HR2 : Hid (R = false) := HD2.out hq
                    have hqb : (zj == zk) = true := by simpa using hq
                    clear hq HD2 HN2
                    go_wp2_with fail
                    go_quiet (fail)
                    go_wp2_with fail
                    go_ret
                    exact ⟨ret_bool HR2.out.symm, below_drewN hbm2 _⟩
                  · have HN3 := HN2.out hq
                    have HN4 : Hid _ := HN3
                    have hqb : (zj == zk) = false := by simpa using hq
                    clear hq HD2 HN2 HN3
                    go_wp2_with fail
                    go_quiet (fail)
                    go_wp2_with fail
                    go_roundw
                    case rel => exact ⟨j + 1, by omega, by go_num, HN4, below_drewN hbl2 _⟩
                    case measure => simp [intOf]; omega
                · have HAL : Hid (∀ m, m < k → (rs.getD m zeroSt).no ≠ zk) := fun m hm => hal.out m (by omega)
                  have HZ := HY3.out HAL.out
                  have HZ2 : Hid _ := HZ
                  clear HZ HY3 HAL hal HD
                  go_wp2_with fail
                  go_roundw
                  case rel => exact ⟨k + 1, by omega, by go_num, HZ2, hbl2⟩
                  case measure => simp [intOf]; omega
        · have HE : Hid (true = R) := (HALL3.out (fun m hm => hall.out m (by omega))).symm
          clear hall HALL3
          go_wp2
          go_ret
          exact ⟨ret_bool HE.out, hbm⟩
end Go.Proofs.YtoboickdkednkaaDoor

/- The walk of spec.l6CopySeat. -/
namespace Go.Proofs.YtoboickdkednkaaDoor
open Go.RowKit

set_option maxHeartbeats 1000000 in
set_option maxRecDepth 100000 in
theorem l6CopySeat_own (s : SeatA) (w : World) (hr : s.reads w) (hl : s.short 1099511627776) :
    Calls Tryd.prog 43 #[.agg s.cells.toArray] w fun e w' => ∃ t : SeatA, e = .returned (.agg t.cells.toArray) ∧ Hid (t.v = s.v) ∧ t.own w' w.heap.size w'.heap.size ∧ Below w.heap.size w w' := by
  obtain ⟨W, hW, b0, b1, hbW, hsW⟩ := boxes2 w s.cells [.int .i64 0, .int .i64 0, .bool false, .int .i64 0, .slice none 0 0, .slice none 0 0, .bool false, .int .i64 0, .slice none 0 0, .slice none 0 0, .bool false, .int .i64 0, .slice none 0 0, .slice none 0 0, .bool false, .int .i64 0, .slice none 0 0, .slice none 0 0, .bool false, .bool false] 38 38
  have b1' : Box W (w.heap.size + 1) zeroSt.cells 38 := b1
  have hs0 : w.heap.size + 1 < W.heap.size := by omega
  have hrg0 : W.rangeAt w.heap.size 1 s.page.cells := seat_page s b0
  have HL := Tryd.infoPg s.page rfl
  have C := l3Copy_own s.page rfl W (hr.below hbW) hl
  clear hsW b1
  go_enter Tryd.func43, Tryd.ntmps43
  go_upto_region 1 with fail
  rw [hW.out]
  clear hW
  go_wp2_with (first | (guard_target = wpList _ _ _ (Oper.mk (some 4) _ _ _ _ _ :: _) _ _; refine wpList_load_mid rfl 34 (.tmp 3) rfl w.heap.size 1 rfl s.page.cells _ hrg0 Tryd.underlying34 rfl HL ?_) | fail)
  clear hrg0 HL
  refine C.mono ?_
  clear C
  rintro e w1 ⟨ts, rfl, hv, ho, hb1⟩
  obtain ⟨y0, y1, y2, y3, rfl⟩ := four_slots' (ts := ts) (by have := congrArg List.length hv.out; simpa [SeatA.page, SeatA.ss] using this)
  have hs1 := hb1.size
  have b01 := b0.below hb1 b0.lt
  have b11 := b1'.below hb1 b1'.lt
  obtain ⟨W2, hW2, b02, hw2, hs2, hth2⟩ := seat_fill s b01 s.page.lsn y0 y1 y2 y3
  obtain ⟨q, hq⟩ : ∃ q : SeatA, Hid ((⟨s.no, s.page.lsn, y0, y1, y2, y3, s.dirty, s.hot⟩ : SeatA) = q) := ⟨_, rfl⟩
  rw [hq.out] at b02
  have b12 := b11.within hw2 (by omega)
  obtain ⟨WF, hWF, hwF, hsF, HTF, HLF, bF⟩ := seat_out q _ rfl b12
  have r4 : W2.rangeAt w.heap.size 0 q.cells := Box.range [] q.cells [] (by simpa using b02)
  have oq : q.own w1 W.heap.size w1.heap.size := by rw [← hq.out]; exact ho
  have HV : Hid (q.v = s.v) := by rw [Hid, ← hq.out]; simp only [SeatA.v, SeatA.ss]; rw [show List.map (fun x : SlotA => x.v) [y0, y1, y2, y3] = s.page.ss.map (·.v) from hv.out]; rfl
  have HFIN : Hid (q.own WF w.heap.size WF.heap.size ∧ Below w.heap.size w WF) := ⟨((oq.within hw2 (.inr (by omega))).within hwF (.inr (by omega))).widen (by omega) (by omega) (Nat.le_refl _), ((hbW.trans (hb1.mono (by omega))).trans (hw2.below (by omega) (by omega))).trans (hwF.below (by omega) (by omega))⟩
  have HI1 := Tryd.infoPg ⟨s.page.lsn, [y0, y1, y2, y3]⟩ rfl
  have HO1 := page_one ⟨s.page.lsn, [y0, y1, y2, y3]⟩
  have HI2 := seat_info q
  have HO2 := seat_one q
  have HW2 : Hid (w1.setCells w.heap.size 1 (PageA.cells ⟨s.page.lsn, [y0, y1, y2, y3]⟩).toArray.toList = W2) := hW2.out
  have HWF : Hid (W2.setCells (w.heap.size + 1) 0 q.cells.toArray.toList = WF) := hWF.out
  have HTF' : W2.there (w.heap.size + 1) 0 q.cells.toArray.size := HTF.out
  clear hW2 hWF HTF hq hs1 hs2 hsF hw2 hwF b01 b11 b02 b12 bF oq ho hv hb1 b0 b1' hbW
  generalize PageA.cells ⟨s.page.lsn, [y0, y1, y2, y3]⟩ = pc at *
  go_wp2_with (first | (guard_target = wpList _ _ _ (Oper.mk none (Op.store _ (Operand.tmp 6) _) _ _ _ _ :: _) _ _; refine wpList_store_mid rfl 34 (.tmp 6) (.tmp 5) rfl w.heap.size 1 pc.toArray rfl rfl hth2 (by rw [List.size_toArray]; exact HI1) HO1 ?_; rw [HW2.out]) | (guard_target = wpList _ _ _ (Oper.mk (some 7) _ _ _ _ _ :: _) _ _; refine wpList_load_mid rfl 38 (.tmp 1) rfl w.heap.size 0 rfl q.cells _ r4 Tryd.underlying38 rfl HI2 ?_) | (guard_target = wpList _ _ _ (Oper.mk none (Op.store _ (Operand.tmp 2) _) _ _ _ _ :: _) _ _; refine wpList_store_mid rfl 38 (.tmp 2) (.tmp 7) rfl (w.heap.size + 1) 0 q.cells.toArray rfl rfl HTF' (by rw [List.size_toArray]; exact HI2) HO2 ?_; rw [HWF.out]) | fail)
  exact bodyPost_ret (v := .agg q.cells.toArray) (results_one Tryd.results43 rfl HLF.out) rfl ⟨q, rfl, HV, HFIN.out.1, HFIN.out.2⟩
end Go.Proofs.YtoboickdkednkaaDoor

/- The walk of spec.l6Copy. -/
namespace Go.Proofs.YtoboickdkednkaaDoor
open Go.RowKit
attribute [local go_sem ↓] Go.wp_at_zero Go.wp_at_succ

set_option maxHeartbeats 4000000 in
set_option maxRecDepth 100000 in
theorem l6Copy_any (l : PoolA) (w : World) (hr : l.reads w) (hl : l.short 1048576) :
    Calls Tryd.prog 27 #[.agg l.cells.toArray] w fun e w' => ∃ t : PoolA, e = .returned (.agg t.cells.toArray) ∧ Hid (t.v = l.v) ∧ t.own w' w.heap.size w'.heap.size ∧ Below w.heap.size w w' := by
  obtain ⟨rs, s, a, c⟩ := l
  have hl2 := (PoolA.short_wide hl).each
  have hl0 := hl.len
  simp only [PoolA.reads, PoolA.cells, PoolA.own] at *
  obtain ⟨W, hW, b0, b1, b2, hbW, hsW⟩ := boxes3 w [.slice a rs.length c, .int .i64 s] [.slice none 0 0, .int .i64 0] [.slice none 0 0, .int .i64 s] 26 26 26
  have hs0 : w.heap.size + 1 + 1 < W.heap.size := by omega
  clear hsW
  have x0 := b0.cell 0 _ rfl
  have x1 := b0.cell 1 _ rfl
  have HC : Hid (∀ k, k < rs.length → ∃ b off, a = some ⟨b, off, none⟩ ∧ w.rangeAt b (off + k * 20) (rs.getD k zeroSt).cells ∧ (rs.getD k zeroSt).reads w ∧ (rs.getD k zeroSt).short 1099511627776) := fun k hk => by
    obtain ⟨b, off, ha, hc⟩ := hr (by intro e; rw [e] at hk; simp at hk)
    exact ⟨b, off, ha, (hc k hk).1, (hc k hk).2, hl2 _ (seatD_mem rs k hk)⟩
  have HI : Hid ((Tryd.prog.info? 38).map (·.size) = some 20) := by rw [Hid]; kernel_rfl
  clear hr hl hl2
  go_enter Tryd.func27, Tryd.ntmps27
  go_wp2_with fail
  rw [hW.out]
  clear hW x0 x1
  go_loopw [4] (fun i wr => ∃ (k : Nat) (ts : List SeatA) (a' : Option Addr) (c' : Nat), k ≤ rs.length ∧ i = .int .i64 k ∧ Hid (CameSt rs ts k) ∧ Box wr (w.heap.size + 1 + 1) [.slice a' ts.length c', .int .i64 s] 26 ∧ Box wr w.heap.size [.slice a rs.length c, .int .i64 s] 26 ∧ Box wr (w.heap.size + 1) [.slice none 0 0, .int .i64 0] 26 ∧ OwnSts wr W.heap.size wr.heap.size a' c' ts ∧ Below w.heap.size w wr ∧ W.heap.size ≤ wr.heap.size)
    (fun i _ => rs.length - (intOf i).toNat)
  case atStart => exact ⟨0, [], none, 0, Nat.zero_le _, rfl, cameSt_none rs, b2, b0, b1, ownSts_nil _ _ _ (Nat.le_refl _), hbW, Nat.le_refl _⟩
  case round =>
    obtain ⟨k, ts, a', c', hk, rfl, hc, k2, k0, k1, hown, hnx, hsz⟩ := hrel
    clear b0 b1 b2 hbW
    have x0 := k0.cell 0 _ rfl
    by_cases hlt : k < rs.length
    · obtain ⟨b, off, rfl, hcell, hrd, hsh⟩ := HC.out k hlt
      have hbB := rangeSt_lt hcell
      have hnw := hnx.size
      have HR : Hid (∀ u, Below w.heap.size w u → u.rangeAt b (off + k * 20) (rs.getD k zeroSt).cells) := fun u hu => rangeAt_below hcell hu hbB
      have HS : Hid (∀ q : SeatA, q.v = (rs.getD k zeroSt).v → CameSt rs (ts ++ [q]) (k + 1)) := fun q hq => hc.out.snoc hlt hq
      have HL : Hid (ts.length = k) := hc.out.1
      clear hcell HC
      generalize rs.getD k zeroSt = z at *
      have e0 := k2.cell 0 _ rfl
      have HSS : Hid (∀ u, Below w.heap.size w u → Box u w.heap.size [.slice (some ⟨b, off, none⟩) rs.length c, .int .i64 s] 26 → u.rangeAt b (off + k * 20) z.cells ∧ u.cell? ⟨w.heap.size, 0, none⟩ = some (.slice (some ⟨b, off, none⟩) rs.length c)) := fun u h1 h2 => ⟨HR.out u h1, h2.cell 0 _ rfl⟩
      go_wp2_with fail
      refine wp_region_held_drew (S := fun w' => w'.rangeAt b (off + k * 20) z.cells ∧ w'.cell? ⟨w.heap.size, 0, none⟩ = some (.slice (some ⟨b, off, none⟩) rs.length c)) (by kernel_rfl) ?_ (fun hHeld => ?_)
      · exact HSS.out _ hnx.drew (k0.drewN 1)
      refine wpAnyH_take (i := 0) (v := .pointer (some ⟨w.heap.size + 1 + 1, 0, none⟩)) rfl (by kernel_rfl) (by kernel_rfl) (by kernel_rfl) (fun _ _ _ h => h) (Or.inl ⟨by rfl, ?_⟩) hHeld ?_
      · intro w' hSw
        go_simp <;> rfl
      try simp only [Act.put, List.getElem_toArray, List.getElem_cons_zero, List.setIfInBounds_toArray, List.set_cons_zero, List.set_cons_succ]
      refine wpAnyH_take (i := 2) (v := .pointer (some ⟨w.heap.size, 0, none⟩)) rfl (by kernel_rfl) (by kernel_rfl) (by kernel_rfl) (fun _ _ _ h => h) (Or.inl ⟨by rfl, ?_⟩) hHeld ?_
      · intro w' hSw
        go_simp <;> rfl
      try simp only [Act.put, List.getElem_toArray, List.getElem_cons_zero, List.getElem_cons_succ, List.setIfInBounds_toArray, List.set_cons_zero, List.set_cons_succ]
      refine wpAnyH_take (i := 3) (v := .slice (some ⟨b, off, none⟩) rs.length c) rfl (by kernel_rfl) (by kernel_rfl) (by kernel_rfl) (fun _ _ _ h => h) (Or.inl ⟨by rfl, ?_⟩) hHeld ?_
      · intro w' hSw
        have hx := hSw.2
        go_simp <;> rfl
      try simp only [Act.put, List.getElem_toArray, List.getElem_cons_zero, List.getElem_cons_succ, List.setIfInBounds_toArray, List.set_cons_zero, List.set_cons_succ]
      refine wpAnyH_take (i := 4) (v := .int .i64 k) rfl (by kernel_rfl) (by kernel_rfl) (by kernel_rfl) (fun _ _ _ h => h) (Or.inl ⟨by rfl, ?_⟩) hHeld ?_
      · intro w' hSw
        go_simp <;> rfl
      try simp only [Act.put, List.getElem_toArray, List.getElem_cons_zero, List.getElem_cons_succ, List.setIfInBounds_toArray, List.set_cons_zero, List.set_cons_succ]
      refine wpAnyH_take (i := 5) (v := .pointer (some ⟨b, off + k * 20, none⟩)) rfl (by kernel_rfl) (by kernel_rfl) (by kernel_rfl) (fun _ _ _ h => h) (Or.inl ⟨by rfl, ?_⟩) hHeld ?_
      · intro w' hSw
        go_simp <;> rfl
      try simp only [Act.put, List.getElem_toArray, List.getElem_cons_zero, List.getElem_cons_succ, List.setIfInBounds_toArray, List.set_cons_zero, List.set_cons_succ]
      refine wpAnyH_take (i := 6) rfl (by kernel_rfl) (by kernel_rfl) (by kernel_rfl) (fun _ _ _ h => h) (yieldsIf_load_mid (by rfl) _ _ rfl _ _ rfl z.cells _ (fun _ h => h.1) Tryd.underlying38 rfl HI.out) hHeld ?_
      try simp only [Act.put, List.getElem_toArray, List.getElem_cons_zero, List.getElem_cons_succ, List.setIfInBounds_toArray, List.set_cons_zero, List.set_cons_succ]
      have hnd : Below wr.heap.size wr wr.drew := (Below.refl _ _).drew
      have C := l6CopySeat_own z wr.drew (hrd.below hnx.drew) hsh
      refine wpAnyH_ready (rs := [1, 7]) (by kernel_rfl) (by simp) ?_
      refine AllReadyH.cons rfl (fun K hK => ?_) (AllReadyH.cons rfl (fun K hK => ?_) AllReadyH.nil)
      · go_simp
        refine hK.out _ _ (hHeld) (fun hHeld => ?_)
        clear hK K
        try simp only [Act.put, List.getElem_toArray, List.getElem_cons_zero, List.getElem_cons_succ, List.setIfInBounds_toArray, List.set_cons_zero, List.set_cons_succ]
        refine wpAnyH_ready (rs := [7]) (by kernel_rfl) (by simp) ?_
        refine AllReadyH.cons rfl (fun K hK => ?_) AllReadyH.nil
        go_simp
        refine C.mono ?_
        clear C
        rintro e u2 ⟨q, rfl, hq, hqo, hb2⟩
        have hb2' : Below wr.heap.size wr u2 := hnd.trans hb2
        have hn2 : Below w.heap.size w u2 := hnx.trans (hb2'.mono hnw)
        have k22 := k2.below hb2' k2.lt
        have k02 := k0.below hb2' k0.lt
        have k12 := k1.below hb2' k1.lt
        have o2 := hown.below hb2'
        have hqo2 : q.own u2 wr.heap.size u2.heap.size := hqo
        have hs2 := hb2'.size
        refine hK.out _ _ (HSS.out _ hn2 k02) (fun hHeld => ?_)
        clear hK K
        try simp only [Act.put, List.getElem_toArray, List.getElem_cons_zero, List.getElem_cons_succ, List.setIfInBounds_toArray, List.set_cons_zero, List.set_cons_succ]
        refine wpAnyH_ready (rs := [8]) (by kernel_rfl) (by simp) ?_
        refine AllReadyH.cons rfl (fun K hK => ?_) AllReadyH.nil
        go_simp
        simp only [cellsSt_len, lit_seat, not_true_eq_false, Nat.lt_irrefl, or_self, if_false]
        go_simp
        obtain ⟨W3, hW3, b3, hb3, hs3⟩ := boxes1 u2 q.cells 38
        rw [hW3.out]
        have hn3 : Below w.heap.size w W3 := hn2.trans (hb3.mono hn2.size)
        have k23 := k22.below hb3 k22.lt
        have k03 := k02.below hb3 k02.lt
        have k13 := k12.below hb3 k12.lt
        have o3 := o2.below hb3
        have hqo3 := hqo2.below hb3
        have r3 : W3.rangeAt u2.heap.size 0 q.cells := Box.range [] q.cells [] (by simpa using b3)
        have hs3' := b3.lt
        clear hs3 hb3 hW3 b3 k02 k12 o2 hqo2
        refine hK.out _ _ (HSS.out _ hn3 k03) (fun hHeld => ?_)
        clear hK K
        try simp only [Act.put, List.getElem_toArray, List.getElem_cons_zero, List.getElem_cons_succ, List.setIfInBounds_toArray, List.set_cons_zero, List.set_cons_succ]
        have hll : ts.length + 1 ≤ 68719476736 := by have := HL.out; omega
        refine wpAnyH_ready (rs := [9]) (by kernel_rfl) (by simp) ?_
        refine AllReadyH.cons rfl (fun K hK => ?_) AllReadyH.nil
        refine step_append_seat rfl (.tmp 16) (.tmp 23) rfl W.heap.size wr.heap.size a' c' ts rfl o3 u2.heap.size 0 1 q rfl r3 wr.heap.size u2.heap.size hqo3 (Nat.le_refl _) (by omega) hll hsz ?_
        intro a9 c9 w9 o9 g9 _
        have HCM := HS.out q hq.out
        obtain ⟨ys, hys⟩ : ∃ ys, Hid (ts ++ [q] = ys) := ⟨_, rfl⟩
        rw [hys.out] at o9 HCM ⊢
        have hw9 : Within W.heap.size wr.heap.size W3 w9 := Within.of_grown g9 (fun j hj => ⟨(o3.row.lt j hj).1, o3.blk j hj⟩)
        have hs9 := hw9.size
        have hn9 : Below w.heap.size w w9 := hn3.trans (hw9.below (by omega) (by omega))
        have k29 := k23.within hw9 (by omega)
        have k09 := k03.within hw9 (by omega)
        have k19 := k13.within hw9 (by omega)
        refine hK.out _ _ (HSS.out _ hn9 k09) (fun hHeld => ?_)
        clear hK K hw9 g9 o3 r3 hqo3 k23 k03 k13
        try simp only [Act.put, List.getElem_toArray, List.getElem_cons_zero, List.getElem_cons_succ, List.setIfInBounds_toArray, List.set_cons_zero, List.set_cons_succ]
        refine wpAnyH_take (i := 10) (v := .pointer (some ⟨w.heap.size + 1 + 1, 0, none⟩)) rfl (by kernel_rfl) (by kernel_rfl) (by kernel_rfl) (fun _ _ _ h => h) (Or.inl ⟨by rfl, ?_⟩) hHeld ?_
        · intro w' hSw
          go_simp <;> rfl
        try simp only [Act.put, List.getElem_toArray, List.getElem_cons_zero, List.getElem_cons_succ, List.setIfInBounds_toArray, List.set_cons_zero, List.set_cons_succ]
        have m0 := k29.cell 0 _ rfl
        have mf0 := k29.frozen 0
        obtain ⟨WF, hWF, kF, hwF, hsF⟩ := box_set k29 0 (.slice a9 ys.length c9)
        simp only [List.set] at kF
        have hsFa := Nat.le_of_eq hsF
        have hsFb := Nat.le_of_eq hsF.symm
        clear hsF
        have k0F := k09.within hwF (by omega)
        have k1F := k19.within hwF (by omega)
        have oF := (o9.within hwF (.inr (by omega))).widen (Nat.le_refl _) hsFb (Nat.le_refl _)
        have hnF : Below w.heap.size w WF := hn9.trans (hwF.below (by omega) (by omega))
        clear hwF k29 k09 k19 o9
        refine wpAnyH_ready (rs := [11]) (by kernel_rfl) (by simp) ?_
        refine AllReadyH.cons rfl (fun K hK => ?_) AllReadyH.nil
        go_simp
        rw [hWF.out]
        refine hK.out _ _ (HSS.out _ hnF k0F) (fun hHeld => ?_)
        clear hK K
        try simp only [Act.put, List.getElem_toArray, List.getElem_cons_zero, List.getElem_cons_succ, List.setIfInBounds_toArray, List.set_cons_zero, List.set_cons_succ]
        refine wpAnyH_done (by kernel_rfl) ?_ _
        clear m0 mf0 hWF
        go_wp2_with fail
        go_roundw
        case rel => exact ⟨k + 1, ys, a9, c9, by omega, by go_num, HCM, kF, k0F, k1F, oF, hnF, by omega⟩
        case measure => simp [intOf]; omega
      · go_simp
        refine C.mono ?_
        clear C
        rintro e u2 ⟨q, rfl, hq, hqo, hb2⟩
        have hb2' : Below wr.heap.size wr u2 := hnd.trans hb2
        have hn2 : Below w.heap.size w u2 := hnx.trans (hb2'.mono hnw)
        have k22 := k2.below hb2' k2.lt
        have k02 := k0.below hb2' k0.lt
        have k12 := k1.below hb2' k1.lt
        have o2 := hown.below hb2'
        have hqo2 : q.own u2 wr.heap.size u2.heap.size := hqo
        have hs2 := hb2'.size
        refine hK.out _ _ (HSS.out _ hn2 k02) (fun hHeld => ?_)
        clear hK K
        try simp only [Act.put, List.getElem_toArray, List.getElem_cons_zero, List.getElem_cons_succ, List.setIfInBounds_toArray, List.set_cons_zero, List.set_cons_succ]
        refine wpAnyH_ready (rs := [1, 8]) (by kernel_rfl) (by simp) ?_
        refine AllReadyH.cons rfl (fun K hK => ?_) (AllReadyH.cons rfl (fun K hK => ?_) AllReadyH.nil)
        · have d0 := k22.cell 0 _ rfl
          go_simp
          refine hK.out _ _ (hHeld) (fun hHeld => ?_)
          clear hK K
          try simp only [Act.put, List.getElem_toArray, List.getElem_cons_zero, List.getElem_cons_succ, List.setIfInBounds_toArray, List.set_cons_zero, List.set_cons_succ]
          refine wpAnyH_ready (rs := [8]) (by kernel_rfl) (by simp) ?_
          refine AllReadyH.cons rfl (fun K hK => ?_) AllReadyH.nil
          go_simp
          simp only [cellsSt_len, lit_seat, not_true_eq_false, Nat.lt_irrefl, or_self, if_false]
          go_simp
          obtain ⟨W3, hW3, b3, hb3, hs3⟩ := boxes1 u2 q.cells 38
          rw [hW3.out]
          have hn3 : Below w.heap.size w W3 := hn2.trans (hb3.mono hn2.size)
          have k23 := k22.below hb3 k22.lt
          have k03 := k02.below hb3 k02.lt
          have k13 := k12.below hb3 k12.lt
          have o3 := o2.below hb3
          have hqo3 := hqo2.below hb3
          have r3 : W3.rangeAt u2.heap.size 0 q.cells := Box.range [] q.cells [] (by simpa using b3)
          have hs3' := b3.lt
          clear hs3 hb3 hW3 b3 k02 k12 o2 hqo2
          refine hK.out _ _ (HSS.out _ hn3 k03) (fun hHeld => ?_)
          clear hK K
          try simp only [Act.put, List.getElem_toArray, List.getElem_cons_zero, List.getElem_cons_succ, List.setIfInBounds_toArray, List.set_cons_zero, List.set_cons_succ]
          have hll : ts.length + 1 ≤ 68719476736 := by have := HL.out; omega
          refine wpAnyH_ready (rs := [9]) (by kernel_rfl) (by simp) ?_
          refine AllReadyH.cons rfl (fun K hK => ?_) AllReadyH.nil
          refine step_append_seat rfl (.tmp 16) (.tmp 23) rfl W.heap.size wr.heap.size a' c' ts rfl o3 u2.heap.size 0 1 q rfl r3 wr.heap.size u2.heap.size hqo3 (Nat.le_refl _) (by omega) hll hsz ?_
          intro a9 c9 w9 o9 g9 _
          have HCM := HS.out q hq.out
          obtain ⟨ys, hys⟩ : ∃ ys, Hid (ts ++ [q] = ys) := ⟨_, rfl⟩
          rw [hys.out] at o9 HCM ⊢
          have hw9 : Within W.heap.size wr.heap.size W3 w9 := Within.of_grown g9 (fun j hj => ⟨(o3.row.lt j hj).1, o3.blk j hj⟩)
          have hs9 := hw9.size
          have hn9 : Below w.heap.size w w9 := hn3.trans (hw9.below (by omega) (by omega))
          have k29 := k23.within hw9 (by omega)
          have k09 := k03.within hw9 (by omega)
          have k19 := k13.within hw9 (by omega)
          refine hK.out _ _ (HSS.out _ hn9 k09) (fun hHeld => ?_)
          clear hK K hw9 g9 o3 r3 hqo3 k23 k03 k13
          try simp only [Act.put, List.getElem_toArray, List.getElem_cons_zero, List.getElem_cons_succ, List.setIfInBounds_toArray, List.set_cons_zero, List.set_cons_succ]
          refine wpAnyH_take (i := 10) (v := .pointer (some ⟨w.heap.size + 1 + 1, 0, none⟩)) rfl (by kernel_rfl) (by kernel_rfl) (by kernel_rfl) (fun _ _ _ h => h) (Or.inl ⟨by rfl, ?_⟩) hHeld ?_
          · intro w' hSw
            go_simp <;> rfl
          try simp only [Act.put, List.getElem_toArray, List.getElem_cons_zero, List.getElem_cons_succ, List.setIfInBounds_toArray, List.set_cons_zero, List.set_cons_succ]
          have m0 := k29.cell 0 _ rfl
          have mf0 := k29.frozen 0
          obtain ⟨WF, hWF, kF, hwF, hsF⟩ := box_set k29 0 (.slice a9 ys.length c9)
          simp only [List.set] at kF
          have hsFa := Nat.le_of_eq hsF
          have hsFb := Nat.le_of_eq hsF.symm
          clear hsF
          have k0F := k09.within hwF (by omega)
          have k1F := k19.within hwF (by omega)
          have oF := (o9.within hwF (.inr (by omega))).widen (Nat.le_refl _) hsFb (Nat.le_refl _)
          have hnF : Below w.heap.size w WF := hn9.trans (hwF.below (by omega) (by omega))
          clear hwF k29 k09 k19 o9
          refine wpAnyH_ready (rs := [11]) (by kernel_rfl) (by simp) ?_
          refine AllReadyH.cons rfl (fun K hK => ?_) AllReadyH.nil
          go_simp
          rw [hWF.out]
          refine hK.out _ _ (HSS.out _ hnF k0F) (fun hHeld => ?_)
          clear hK K
          try simp only [Act.put, List.getElem_toArray, List.getElem_cons_zero, List.getElem_cons_succ, List.setIfInBounds_toArray, List.set_cons_zero, List.set_cons_succ]
          refine wpAnyH_done (by kernel_rfl) ?_ _
          clear m0 mf0 hWF
          go_wp2_with fail
          go_roundw
          case rel => exact ⟨k + 1, ys, a9, c9, by omega, by go_num, HCM, kF, k0F, k1F, oF, hnF, by omega⟩
          case measure => simp [intOf]; omega
        · go_simp
          simp only [cellsSt_len, lit_seat, not_true_eq_false, Nat.lt_irrefl, or_self, if_false]
          go_simp
          obtain ⟨W3, hW3, b3, hb3, hs3⟩ := boxes1 u2 q.cells 38
          rw [hW3.out]
          have hn3 : Below w.heap.size w W3 := hn2.trans (hb3.mono hn2.size)
          have k23 := k22.below hb3 k22.lt
          have k03 := k02.below hb3 k02.lt
          have k13 := k12.below hb3 k12.lt
          have o3 := o2.below hb3
          have hqo3 := hqo2.below hb3
          have r3 : W3.rangeAt u2.heap.size 0 q.cells := Box.range [] q.cells [] (by simpa using b3)
          have hs3' := b3.lt
          clear hs3 hb3 hW3 b3 k02 k12 o2 hqo2
          refine hK.out _ _ (HSS.out _ hn3 k03) (fun hHeld => ?_)
          clear hK K
          try simp only [Act.put, List.getElem_toArray, List.getElem_cons_zero, List.getElem_cons_succ, List.setIfInBounds_toArray, List.set_cons_zero, List.set_cons_succ]
          have d0 := k23.cell 0 _ rfl
          refine wpAnyH_ready (rs := [1]) (by kernel_rfl) (by simp) ?_
          refine AllReadyH.cons rfl (fun K hK => ?_) AllReadyH.nil
          go_simp
          refine hK.out _ _ (hHeld) (fun hHeld => ?_)
          clear hK K
          try simp only [Act.put, List.getElem_toArray, List.getElem_cons_zero, List.getElem_cons_succ, List.setIfInBounds_toArray, List.set_cons_zero, List.set_cons_succ]
          have hll : ts.length + 1 ≤ 68719476736 := by have := HL.out; omega
          refine wpAnyH_ready (rs := [9]) (by kernel_rfl) (by simp) ?_
          refine AllReadyH.cons rfl (fun K hK => ?_) AllReadyH.nil
          refine step_append_seat rfl (.tmp 16) (.tmp 23) rfl W.heap.size wr.heap.size a' c' ts rfl o3 u2.heap.size 0 1 q rfl r3 wr.heap.size u2.heap.size hqo3 (Nat.le_refl _) (by omega) hll hsz ?_
          intro a9 c9 w9 o9 g9 _
          have HCM := HS.out q hq.out
          obtain ⟨ys, hys⟩ : ∃ ys, Hid (ts ++ [q] = ys) := ⟨_, rfl⟩
          rw [hys.out] at o9 HCM ⊢
          have hw9 : Within W.heap.size wr.heap.size W3 w9 := Within.of_grown g9 (fun j hj => ⟨(o3.row.lt j hj).1, o3.blk j hj⟩)
          have hs9 := hw9.size
          have hn9 : Below w.heap.size w w9 := hn3.trans (hw9.below (by omega) (by omega))
          have k29 := k23.within hw9 (by omega)
          have k09 := k03.within hw9 (by omega)
          have k19 := k13.within hw9 (by omega)
          refine hK.out _ _ (HSS.out _ hn9 k09) (fun hHeld => ?_)
          clear hK K hw9 g9 o3 r3 hqo3 k23 k03 k13
          try simp only [Act.put, List.getElem_toArray, List.getElem_cons_zero, List.getElem_cons_succ, List.setIfInBounds_toArray, List.set_cons_zero, List.set_cons_succ]
          refine wpAnyH_take (i := 10) (v := .pointer (some ⟨w.heap.size + 1 + 1, 0, none⟩)) rfl (by kernel_rfl) (by kernel_rfl) (by kernel_rfl) (fun _ _ _ h => h) (Or.inl ⟨by rfl, ?_⟩) hHeld ?_
          · intro w' hSw
            go_simp <;> rfl
          try simp only [Act.put, List.getElem_toArray, List.getElem_cons_zero, List.getElem_cons_succ, List.setIfInBounds_toArray, List.set_cons_zero, List.set_cons_succ]
          have m0 := k29.cell 0 _ rfl
          have mf0 := k29.frozen 0
          obtain ⟨WF, hWF, kF, hwF, hsF⟩ := box_set k29 0 (.slice a9 ys.length c9)
          simp only [List.set] at kF
          have hsFa := Nat.le_of_eq hsF
          have hsFb := Nat.le_of_eq hsF.symm
          clear hsF
          have k0F := k09.within hwF (by omega)
          have k1F := k19.within hwF (by omega)
          have oF := (o9.within hwF (.inr (by omega))).widen (Nat.le_refl _) hsFb (Nat.le_refl _)
          have hnF : Below w.heap.size w WF := hn9.trans (hwF.below (by omega) (by omega))
          clear hwF k29 k09 k19 o9
          refine wpAnyH_ready (rs := [11]) (by kernel_rfl) (by simp) ?_
          refine AllReadyH.cons rfl (fun K hK => ?_) AllReadyH.nil
          go_simp
          rw [hWF.out]
          refine hK.out _ _ (HSS.out _ hnF k0F) (fun hHeld => ?_)
          clear hK K
          try simp only [Act.put, List.getElem_toArray, List.getElem_cons_zero, List.getElem_cons_succ, List.setIfInBounds_toArray, List.set_cons_zero, List.set_cons_succ]
          refine wpAnyH_done (by kernel_rfl) ?_ _
          clear m0 mf0 hWF
          go_wp2_with fail
          go_roundw
          case rel => exact ⟨k + 1, ys, a9, c9, by omega, by go_num, HCM, kF, k0F, k1F, oF, hnF, by omega⟩
          case measure => simp [intOf]; omega
    · have HE : Hid (ts.map SeatA.v = rs.map SeatA.v) := by
        have e : k = rs.length := by omega
        rw [e] at hc
        exact hc.out.all
      have e0 := k2.cell 0 _ rfl
      have e1 := k2.cell 1 _ rfl
      have m0 := k1.cell 0 _ rfl
      have m1 := k1.cell 1 _ rfl
      have mf0 := k1.frozen 0
      have mf1 := k1.frozen 1
      obtain ⟨WF, hWF, bF, hwF, hsF⟩ := box2_fill k1 (.slice a' ts.length c') (.int .i64 s)
      have q0 := bF.cell 0 _ rfl
      have q1 := bF.cell 1 _ rfl
      have hoF := (hown.within hwF (.inr (by omega))).widen (show w.heap.size ≤ W.heap.size by omega) (show wr.heap.size ≤ WF.heap.size by omega) (Nat.le_refl _)
      have hbF : Below w.heap.size w WF := hnx.trans (hwF.below (by omega) (by have := hnx.size; omega))
      clear hwF hsF bF
      go_wp2
      rw [hWF.out]
      exact bodyPost_ret (v := .agg #[.slice a' ts.length c', .int .i64 s]) (by simp [results, Tryd.results27, go_sem, q0, q1]) rfl ⟨⟨ts, s, a', c'⟩, rfl, by simp only [Hid, PoolA.v]; rw [HE.out], hoF, hbF⟩
end Go.Proofs.YtoboickdkednkaaDoor

/- The walk of impl.copyPage. -/
namespace Go.Proofs.YtoboickdkednkaaDoor
open Go.RowKit

set_option maxHeartbeats 2000000 in
set_option maxRecDepth 100000 in
theorem copyPage_own (p : PageA) (h4 : p.ss.length = 4) (w : World) (hr : ReadsS w p.ss) (hl : Fit p.ss) :
    Calls Tryd.prog 26 #[.agg p.cells.toArray] w fun e w' => ∃ ts : List SlotA, e = .returned (.agg (PageA.cells ⟨p.lsn, ts⟩).toArray) ∧ Hid (ts.map (·.v) = p.ss.map (·.v)) ∧ OwnS w' w.heap.size w'.heap.size ts ∧ Below w.heap.size w w' := by
  obtain ⟨n, ss⟩ := p
  simp only [PageA.cells] at *
  obtain ⟨W, hW, b0, b1, b2, hbW, hsW⟩ := boxes3 w (.int .i64 n :: cellsS ss) [.int .i64 0, .bool false, .int .i64 0, .slice none 0 0, .slice none 0 0, .bool false, .int .i64 0, .slice none 0 0, .slice none 0 0, .bool false, .int .i64 0, .slice none 0 0, .slice none 0 0, .bool false, .int .i64 0, .slice none 0 0, .slice none 0 0] [.int .i64 n, .bool false, .int .i64 0, .slice none 0 0, .slice none 0 0, .bool false, .int .i64 0, .slice none 0 0, .slice none 0 0, .bool false, .int .i64 0, .slice none 0 0, .slice none 0 0, .bool false, .int .i64 0, .slice none 0 0, .slice none 0 0] 34 34 34
  have b1' : Box W (w.heap.size + 1) ([] ++ ((.int .i64 0 :: cellsS zero4) ++ [])) 34 := b1
  have b2' : Box W (w.heap.size + 1 + 1) (.int .i64 n :: cellsS ([] ++ List.replicate (4 - 0) zeroS)) 34 := b2
  have hsW' : w.heap.size + 1 + 1 < W.heap.size := by omega
  have hc0 : (((w.alloc (.cells (.int .i64 n :: cellsS ss).toArray 34)).alloc (.cells #[.int .i64 0, .bool false, .int .i64 0, .slice none 0 0, .slice none 0 0, .bool false, .int .i64 0, .slice none 0 0, .slice none 0 0, .bool false, .int .i64 0, .slice none 0 0, .slice none 0 0, .bool false, .int .i64 0, .slice none 0 0, .slice none 0 0] 34))).cell? ⟨w.heap.size, 0, none⟩ = some (.int .i64 n) := ((box_new w (.int .i64 n :: cellsS ss) 34).alloc _).cell 0 _ rfl
  have hrg0 : W.rangeAt w.heap.size 1 (cellsS ss) := Box.range [.int .i64 n] (cellsS ss) [] (by simpa using b0)
  have hi0 : (Tryd.prog.info? 32).map (·.size) = some (cellsS ss).length := by rw [cellsS_len, h4]; kernel_rfl
  have HX := run_index_slot ss h4
  have H4 : Hid (ss.length = 4) := h4
  clear b1 b2 hsW h4
  go_enter Tryd.func26, Tryd.ntmps26
  go_wp2_with (first | (guard_target = wpList _ _ _ (Oper.mk (some 10) _ _ _ _ _ :: _) _ _; refine wpList_load_mid rfl 32 (.tmp 9) rfl w.heap.size 1 rfl (cellsS ss) _ (by rw [hW.out]; exact hrg0) Tryd.underlying32 rfl hi0 ?_) | fail)
  rw [hW.out]
  clear hW hrg0 hi0 hc0
  go_loopw [11] (fun i wr => ∃ (k : Nat) (ts : List SlotA), i = .int .i64 k ∧ k ≤ 4 ∧ Hid (ts.length = k ∧ ts.map (·.v) = (ss.take k).map (·.v)) ∧ OwnS wr W.heap.size wr.heap.size ts ∧ Box wr (w.heap.size + 1 + 1) (.int .i64 n :: cellsS (ts ++ List.replicate (4 - k) zeroS)) 34 ∧ Below (w.heap.size + 1 + 1) W wr)
    (fun i _ => 4 - (intOf i).toNat)
  case atStart => exact ⟨0, [], rfl, by omega, ⟨rfl, rfl⟩, OwnS.nil _ _ _, b2', Below.refl _ _⟩
  case round =>
    obtain ⟨k, ts, rfl, hk, hts, hown, hbox, hbl⟩ := hrel
    clear b2'
    have b1r := b1'.below hbl (by omega)
    have hsr := hbl.size
    have hsz := hbox.lt
    by_cases hlt : k < 4
    · have hkl : k < ss.length := by rw [H4.out]; exact hlt
      have hx := HX k hlt
      clear HX
      have hrk := (hr _ (getD_mem hkl)).below (hbW.trans (hbl.mono (by omega)))
      have hlk := hl _ (getD_mem hkl)
      have HV : Hid ((ss.take (k + 1)).map (·.v) = (ss.take k).map (·.v) ++ [(ss.getD k zeroS).v]) := by
        rw [Hid, List.take_add_one, List.map_append]
        simp [List.getD, hkl]
      generalize ss.getD k zeroS = s at *
      simp only [SlotA.cells] at hx
      obtain ⟨W1, hW1, bx, hbx1, hsx1⟩ := boxes1 wr [.bool s.v.has, .int .i64 s.v.o.kind, .slice s.aI s.v.o.ints.length s.cI, .slice s.aR s.v.o.refs.length s.cR] 31
      have C := copySlot_own s W1 (ReadsO.below hrk hbx1) hlk.1 hlk.2
      simp only [SlotA.cells] at C
      go_wp2_with fail
      rw [hW1.out]
      refine C.mono ?_
      clear C hx hrk hlk
      rintro e w1 ⟨t, rfl, hv, ho, hb1⟩
      have hs1 := hb1.size
      have N1 : Below wr.heap.size wr w1 := hbx1.trans (hb1.mono (by omega))
      have hbx := hbox.below N1 hsz
      have hkt : k < (ts ++ List.replicate (4 - k) zeroS).length := by have := hts.out.1; simp; omega
      obtain ⟨W2, hW2, b2, hw2, hs2⟩ := pslot_fill hbx k hkt t
      obtain ⟨x0, x1, x2, x3, hfz⟩ := hbx.pslot k hkt
      have f0 := hfz (1 + k * 4)
      have f1 := hfz (1 + k * 4 + 1)
      have f2 := hfz (1 + k * 4 + 2)
      have f3 := hfz (1 + k * 4 + 3)
      generalize (ts ++ List.replicate (4 - k) zeroS).getD k zeroS = old at *
      have b2' : Box W2 (w.heap.size + 1 + 1) (.int .i64 n :: cellsS ((ts ++ [t]) ++ List.replicate (4 - (k + 1)) zeroS)) 34 := by
        rw [show 4 - k = (4 - (k + 1)) + 1 by omega] at b2
        have e := set_snoc ts (4 - (k + 1)) t
        rw [hts.out.1] at e
        rw [e] at b2
        exact b2
      have hown1 : OwnS w1 W.heap.size W1.heap.size ts := (hown.below N1).widen (Nat.le_refl _) (by omega) (by omega)
      have hO1 : OwnS w1 W.heap.size w1.heap.size (ts ++ [t]) := hown1.snoc ho (by omega) hs1 (Nat.le_refl _)
      have hO2 : OwnS W2 W.heap.size W2.heap.size (ts ++ [t]) := (hO1.within hw2 (.inr (by omega))).widen (Nat.le_refl _) (by omega) (Nat.le_refl _)
      have hB2 : Below (w.heap.size + 1 + 1) W W2 := (hbl.trans (N1.mono (by omega))).trans (hw2.below (Nat.le_refl _) (by omega))
      have HT : Hid ((ts ++ [t]).length = k + 1 ∧ (ts ++ [t]).map (·.v) = (ss.take (k + 1)).map (·.v)) := by
        refine ⟨by have := hts.out.1; simp; omega, ?_⟩
        rw [HV.out, List.map_append, hts.out.2, ← hv.out]
        rfl
      have hi0 : (0 : Int) ≤ (k : Int) := by omega
      have hi4 : (k : Int) < 4 := by omega
      clear hfz hs2 hw2 b2 hO1 hown hown1 hbox hbx hts HV hkt hb1 ho N1 hbx1
      go_wp2_with fail
      rw [hW2.out]
      go_roundw
      case rel => exact ⟨k + 1, ts ++ [t], by go_num, by omega, HT, hO2, b2', hB2⟩
      case measure => simp [intOf]; omega
    · obtain rfl : k = 4 := by omega
      have hkk : ¬ ((4 : Nat) : Int) < 4 := by omega
      have hrp : ts ++ List.replicate (4 - 4) zeroS = ts := by simp
      rw [hrp] at hbox
      have htl : ts.length = 4 := hts.out.1
      have HMV : Hid (ts.map (·.v) = ss.map (·.v)) := by rw [Hid, hts.out.2, List.take_of_length_le (by rw [H4.out]; omega)]
      obtain ⟨WF, hWF, bF, hwF, hsF⟩ := range_fill [] (.int .i64 0 :: cellsS zero4) (.int .i64 n :: cellsS ts) [] b1r (by simp only [List.length_cons, cellsS_len, htl]; rfl)
      have HWF : Hid (wr.setCells (w.heap.size + 1) 0 (.int .i64 n :: cellsS ts) = WF) := hWF.out
      have HR2 : Hid (wr.rangeAt (w.heap.size + 1 + 1) 0 (.int .i64 n :: cellsS ts)) := Box.range [] (.int .i64 n :: cellsS ts) [] (by simpa using hbox)
      have HTF : Hid (wr.there (w.heap.size + 1) 0 (.int .i64 n :: cellsS ts).toArray.size) := b1r.there 0 _ (by simp only [List.size_toArray, cellsS_len, htl, List.length_append, List.length_cons, List.length_nil]; decide)
      have hrF : WF.rangeAt (w.heap.size + 1) 0 (.int .i64 n :: cellsS ts) := Box.range [] (.int .i64 n :: cellsS ts) [] (by simpa using bF)
      have HI : Hid ((Tryd.prog.info? 34).map (·.size) = some (.int .i64 n :: cellsS ts).length) := by rw [Hid, List.length_cons, cellsS_len, htl]; kernel_rfl
      have HO : Hid (_) := all_oneCell_toArray (oneP ⟨n, ts⟩)
      have HLF : Hid (_) := run_loadVar_mid (P := Tryd.prog) _ (w.heap.size + 1) 0 34 (.int .i64 n :: cellsS ts) _ hrF Tryd.underlying34 rfl HI.out
      have HOF : Hid (OwnS WF w.heap.size WF.heap.size ts) := (hown.within hwF (.inr (by omega))).widen (by omega) (by omega) (Nat.le_refl _)
      have HBF : Hid (Below w.heap.size w WF) := (hbW.trans (hbl.mono (by omega))).trans (hwF.below (by omega) (by omega))
      simp only [PageA.cells] at HO
      clear hWF bF hwF hsF hrF hrp htl hbox hown HX hts
      go_wp2_with (first | (guard_target = wpList _ _ _ (Oper.mk (some 21) _ _ _ _ _ :: _) _ _; refine wpList_load_mid rfl 34 (.tmp 3) rfl (w.heap.size + 1 + 1) 0 rfl (.int .i64 n :: cellsS ts) _ HR2.out Tryd.underlying34 rfl HI.out ?_) | (guard_target = wpList _ _ _ (Oper.mk none (Op.store _ (Operand.tmp 2) _) _ _ _ _ :: _) _ _; refine wpList_store_mid rfl 34 (.tmp 2) (.tmp 21) rfl (w.heap.size + 1) 0 (.int .i64 n :: cellsS ts).toArray rfl rfl HTF.out (by rw [List.size_toArray]; exact HI.out) HO.out ?_) | fail)
      rw [HWF.out]
      exact bodyPost_ret (v := .agg (.int .i64 n :: cellsS ts).toArray) (results_one Tryd.results26 rfl HLF.out) rfl ⟨ts, rfl, HMV, HOF.out, HBF.out⟩
end Go.Proofs.YtoboickdkednkaaDoor
