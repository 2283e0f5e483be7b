/- Several texts in one, in their order. -/
import Derived.Test.YtoboickdkednkabGreatDoorPEngineOkx9
import Derived.Test.YtoboickdkednkabGreatDoorPEngineOkx8
import Derived.Test.YtoboickdkednkabGreatDoorPEngineOkx3
import Derived.Test.YtoboickdkednkabGreatDoorPEngineOkx4
import Derived.BigQuiet
import Derived.Test.YtoboickdkednkabGreatDoorPEngineOkx1
set_option maxHeartbeats 8000000
set_option maxRecDepth 100000
namespace Go.Proofs.YtoboickdkednkabGreatDoor
open Go.RowKit
theorem okEng_next {e : EngV} {k : Nat} (hk : k < e.log.recs.length) (h : nextAt e k = false) : okEng e = false := by
 have : nextB e = false := all_no k hk h
 simp [okEng, this]
theorem okEng_disk {e : EngV} {k : Nat} (hk : k < 8) (h : diskAt e k = false) : okEng e = false := by
 have : diskB e = false := all_no k hk h
 simp [okEng, this]
theorem okEng_seat {e : EngV} {k : Nat} (hk : k < e.seats.length) (h : seatAt e k = false) : okEng e = false := by
 have : seatsB e = false := all_no k hk h
 simp [okEng, this]
theorem okEng_all {e : EngV} (h1 : okLog e.log = true) (h2 : okPool e.poolV = true) (h3 : inB e.next 1 1001 = true) (h4 : okTxs e = true) (h5 : ∀ k, k < e.log.recs.length → nextAt e k = true) (h6 : ∀ k, k < 8 → diskAt e k = true) (h7 : ∀ k, k < e.seats.length → seatAt e k = true) : okEng e = (!e.down || bareB e) := by
 have a : nextB e = true := all_yes h5
 have b : diskB e = true := all_yes h6
 have c : seatsB e = true := all_yes h7
 simp [okEng, h1, h2, h3, h4, a, b, c]
theorem seat_no {e : EngV} (h : okPool e.poolV = true) (k : Nat) (hk : k < e.seats.length) : ∃ n : Nat, (e.seats.getD k zeroStV).no = n ∧ n < 8 := by
 obtain ⟨_, _, h3⟩ := okPool_iff h
 have := h3 k hk
 simp only [freshAt, seatB, Bool.and_eq_true] at this
 have hb := this.1.1
 simp only [inB, decide_eq_true_eq] at hb
 exact ⟨(e.seats.getD k zeroStV).no.toNat, (Int.toNat_of_nonneg hb.1).symm, by have h2 := hb.2; have h1 := hb.1; show (e.poolV.seats.getD k zeroStV).no.toNat < 8; omega⟩
theorem seat_rngE {w : World} {a : Option Addr} {ss : List SeatA} (h : ReadsSts w a ss) (k : Nat) (hk : k < ss.length) : ∃ b off, a = some ⟨b, off, none⟩ ∧ (∀ j, j < ss.length → w.rangeAt b (off + j * 20) (ss.getD j zeroSt).cells ∧ ReadsS w (ss.getD j zeroSt).ss) := by
 obtain ⟨b, off, ha, hh⟩ := h (by intro e; rw [e] at hk; simp at hk)
 exact ⟨b, off, ha, fun j hj => hh j hj⟩
theorem implSeated_any (p : PoolA) (no : Int) (w : World) (hr : p.reads w) (hl : p.short 1099511627776) :
  Calls Tryz.prog 99 #[.agg p.cells.toArray, .int .i64 no] w fun r w' => r = .returned (.int .i64 (seatedOf p.v.seats no)) ∧ Below w.heap.size w w' := by
 obtain ⟨ls, hand, a, c⟩ := p
 have hlen := hl.len
 simp only [PoolA.cells, PoolA.reads, PoolA.v] at *
 obtain ⟨W, hW, b0, hbW, hsW⟩ := boxes1 w [.slice a ls.length c, .int .i64 hand] 52
 have HR : Hid (∀ u, Below W.heap.size W u → ReadsSts u a ls) := fun u hu => hr.below (hbW.trans (hu.mono hbW.size))
 have HF : Hid (seatFrom no ((ls.map SeatA.v).drop 0) 0 = seatedOf (ls.map SeatA.v) no) := rfl
 have HJ : Hid ((Tryz.prog.info? 88).map (·.size) = some 20) := by rw [Hid]; kernel_rfl
 generalize seatedOf (ls.map SeatA.v) no = R at *
 clear hsW hr hl
 have x0 := b0.cell 0 _ rfl
 go_enter Tryz.func99, Tryz.ntmps99
 go_upto_region 1 with fail
 rw [hW.out]
 clear hW
 go_wp2_with fail
 clear x0 b0
 go_loopw [10] (fun i wr => ∃ (k : Nat), i = .int .i64 k ∧ k ≤ ls.length ∧ Hid (seatFrom no ((ls.map SeatA.v).drop k) k = R) ∧ Below W.heap.size W wr)
  (fun i _ => ls.length - (intOf i).toNat)
 case atStart => exact ⟨0, rfl, by omega, HF, Below.refl _ _⟩
 case round =>
  obtain ⟨k, rfl, hk, hR, hbl⟩ := hrel
  have hrr := HR.out wr hbl
  have hbT : Below w.heap.size w wr := hbW.trans (hbl.mono hbW.size)
  by_cases hlt : k < ls.length
  ·obtain ⟨b, off, rfl, hcell⟩ := hrr (by rintro rfl; simp at hlt)
   have HRG : Hid (wr.rangeAt b (off + k * 20) (ls.getD k zeroSt).cells) := (hcell k hlt).1
   clear hcell
   have hkk : (k : Int) < (ls.length : Int) := by omega
   have hi0 : (0 : Int) ≤ (k : Int) := by omega
   have HR2 : Hid ((if (ls.getD k zeroSt).no = no then (k : Int) else seatFrom no ((ls.map SeatA.v).drop (k + 1)) (k + 1)) = R) := by
    have h := hR.out
    rw [dropSt_at ls k hlt, seatFrom] at h
    exact h
   generalize ls.getD k zeroSt = z at *
   obtain ⟨W1, hW1, b1, hb1, hs1⟩ := boxes1 wr [.int .i64 0, .int .i64 0, .bool false, .int .i64 0, .slice none 0 0, .slice none 0 0, .bool false, .int .i64 0, .slice none 0 0, .slice none 0 0, .bool false, .int .i64 0, .slice none 0 0, .slice none 0 0, .bool false, .int .i64 0, .slice none 0 0, .slice none 0 0, .bool false, .bool false] 88
   obtain ⟨W2, hW2, hw2, hs2, HT2, _, b2⟩ := seat_out z _ rfl b1
   have hB2 : Below W.heap.size W W2 := (hbl.trans (hb1.mono hbl.size)).trans (hw2.below hbl.size (by have := hbl.size; omega))
   have hbT2 : Below w.heap.size w W2 := hbW.trans (hB2.mono hbW.size)
   have x0 : W2.cell? ⟨wr.heap.size, 0, none⟩ = some (.int .i64 z.no) := b2.cell 0 _ rfl
   have HW2 : Hid (W1.setCells wr.heap.size 0 z.cells.toArray.toList = W2) := hW2.out
   have hOz := seat_one z
   clear hs1 hs2 b1 b2 hb1 hw2 hW2 hR hbl hbT
   by_cases hq : z.no = no
   ·have HR3 : Hid ((k : Int) = R) := by have h := HR2.out; rw [if_pos hq] at h; exact h
    have hqb : (z.no == no) = true := by simpa using hq
    clear hq HR2
    go_wp2_with (first | (guard_target = wpList _ _ _ (Oper.mk (some 14) _ _ _ _ _ :: _) _ _; refine wpList_load_mid rfl 88 (.tmp 13) rfl b (off + k * 20) rfl z.cells _ HRG.out Tryz.underlying88 rfl HJ.out ?_) | (guard_target = wpList _ _ _ (Oper.mk none (Op.store _ (Operand.tmp 6) _) _ _ _ _ :: _) _ _; refine wpList_store_mid rfl 88 (.tmp 6) (.tmp 14) rfl wr.heap.size 0 z.cells.toArray rfl rfl (by rw [hW1.out]; exact HT2.out) HJ.out hOz ?_; rw [hW1.out, HW2.out]) | fail)
    go_ret
    exact ⟨ret_int HR3.out, hbT2⟩
   ·have HR3 : Hid (seatFrom no ((ls.map SeatA.v).drop (k + 1)) (k + 1) = R) := by have h := HR2.out; rw [if_neg hq] at h; exact h
    have hqb : (z.no == no) = false := by simpa using hq
    clear hq HR2
    go_wp2_with (first | (guard_target = wpList _ _ _ (Oper.mk (some 14) _ _ _ _ _ :: _) _ _; refine wpList_load_mid rfl 88 (.tmp 13) rfl b (off + k * 20) rfl z.cells _ HRG.out Tryz.underlying88 rfl HJ.out ?_) | (guard_target = wpList _ _ _ (Oper.mk none (Op.store _ (Operand.tmp 6) _) _ _ _ _ :: _) _ _; refine wpList_store_mid rfl 88 (.tmp 6) (.tmp 14) rfl wr.heap.size 0 z.cells.toArray rfl rfl (by rw [hW1.out]; exact HT2.out) HJ.out hOz ?_; rw [hW1.out, HW2.out]) | fail)
    go_roundw
    case rel => exact ⟨k + 1, by go_num, by omega, HR3, hB2⟩
    case measure => simp [intOf]; omega
  ·have hkk : ¬ (k : Int) < (ls.length : Int) := by omega
   have HR' : Hid (-1 = R) := by
    have h := hR.out
    rw [List.drop_eq_nil_of_le (by rw [List.length_map]; omega), seatFrom] at h
    exact h
   clear hR
   go_wp2
   go_ret
   exact ⟨ret_int HR'.out, hbT⟩
end Go.Proofs.YtoboickdkednkabGreatDoor
namespace Go.Proofs.YtoboickdkednkabGreatDoor
open Go.RowKit
theorem seatB_v (s : SeatA) : seatB s.v = (inB s.no 0 7 && okP s.lsn (s.ss.map (·.v))) := rfl
theorem specPoolOk_any (p : PoolA) (w : World) (hr : p.reads w) (hl : p.short 1099511627776) :
  Calls Tryz.prog 31 #[.agg p.cells.toArray] w fun e w' => e = .returned (.bool (okPool p.v)) ∧ Below w.heap.size w w' := by
 have HLEN : Hid (¬ p.seats.length ≤ 3 → okPool p.v = false) := fun h => okPool_long (by simpa [PoolA.v] using h)
 have HHAND : Hid (inB p.hand 0 2 = false → okPool p.v = false) := fun h => okPool_hand h
 have HNO : Hid (∀ k, k < p.seats.length → seatB (p.seats.getD k zeroSt).v = false → okPool p.v = false) := fun k hk h => okPool_no k (by simpa [PoolA.v] using hk) (fresh_bad (by rw [PoolA.v, seatV_at]; exact h))
 have HDUP : Hid (∀ k j, k < p.seats.length → j < k → (p.seats.getD j zeroSt).no = (p.seats.getD k zeroSt).no → okPool p.v = false) := fun k j hk hj h => okPool_no k (by simpa [PoolA.v] using hk) (fresh_dup hj (by simpa [PoolA.v] using hk) (by rw [PoolA.v, seatV_at, seatV_at]; exact h))
 have HALL : Hid (p.seats.length ≤ 3 → inB p.hand 0 2 = true → (∀ k, k < p.seats.length → seatB (p.seats.getD k zeroSt).v = true ∧ ∀ j, j < k → (p.seats.getD j zeroSt).no ≠ (p.seats.getD k zeroSt).no) → okPool p.v = true) := fun h0 h1 h => okPool_yes (by simpa [PoolA.v] using h0) h1 (fun k hk => by
  have hk' : k < p.seats.length := by simpa [PoolA.v] using hk
  refine fresh_yes hk (by rw [PoolA.v, seatV_at]; exact (h k hk').1) (fun j hj => ?_)
  rw [PoolA.v, seatV_at, seatV_at]
  exact (h k hk').2 j hj)
 generalize okPool p.v = R at *
 have HS : Hid (∀ k, k < p.seats.length → (p.seats.getD k zeroSt).short 1099511627776) := fun k hk => hl.at k hk
 have hlen := hl.len
 obtain ⟨rs, s, a, c⟩ := p
 simp only [PoolA.reads, PoolA.cells] at *
 obtain ⟨W, hW, b0, hbW, hsW⟩ := boxes1 w [.slice a rs.length c, .int .i64 s] 52
 have c0 := b0.cell 0 _ rfl
 have c1 := b0.cell 1 _ rfl
 clear hl hsW
 have HC : Hid (∀ k, k < rs.length → ∃ b off, a = some ⟨b, off, none⟩ ∧ (∀ j, j < rs.length → W.rangeAt b (off + j * 20) (rs.getD j zeroSt).cells) ∧ (rs.getD k zeroSt).reads W) := fun k hk => by
  obtain ⟨b, off, ha, hc⟩ := (ReadsSts.below hr hbW) (by intro e; rw [e] at hk; simp at hk)
  exact ⟨b, off, ha, fun j hj => (hc j hj).1, (hc k hk).2⟩
 clear hr
 by_cases h4 : rs.length ≤ 3
 case neg =>
  have HR : Hid (R = false) := HLEN.out h4
  clear HLEN HHAND HNO HALL HDUP
  go_enter Tryz.func31, Tryz.ntmps31
  go_wp2_with fail
  rw [hW.out]
  go_ret
  exact ⟨ret_bool HR.out.symm, hbW⟩
 case pos =>
  cases h5 : inB s 0 2 with
  | false =>
   have HR : Hid (R = false) := HHAND.out h5
   clear HLEN HHAND HNO HALL HDUP
   have C := l1In_any s 0 2 W
   rw [h5] at C
   clear h5
   go_enter Tryz.func31, Tryz.ntmps31
   go_wp2_with fail
   rw [hW.out]
   refine C.mono ?_
   rintro e u ⟨rfl, hu⟩
   rw [hu]
   clear hu u
   go_wp2
   go_ret
   exact ⟨ret_bool HR.out.symm, hbW⟩
  | true =>
   have HALL2 := HALL.out h4 h5
   have HALL3 : Hid _ := HALL2
   have C := l1In_any s 0 2 W
   rw [h5] at C
   clear h5 HALL2 HALL HLEN HHAND
   go_enter Tryz.func31, Tryz.ntmps31
   go_wp2_with fail
   rw [hW.out]
   refine C.mono ?_
   rintro e u ⟨rfl, hu⟩
   rw [hu]
   clear hu u hW C
   go_wp2_with fail
   go_loopw [3, 4] (fun i _ wr => ∃ k : Nat, k ≤ rs.length ∧ i = .int .i64 k ∧ Hid (∀ m, m < k → seatB (rs.getD m zeroSt).v = true ∧ ∀ j, j < m → (rs.getD j zeroSt).no ≠ (rs.getD m zeroSt).no) ∧ Below W.heap.size W wr) (fun i _ _ => rs.length - (intOf i).toNat)
   case atStart => exact ⟨0, Nat.zero_le _, rfl, fun j hj => by omega, Below.refl _ _⟩
   case round =>
    obtain ⟨k, hk, rfl, hall, hbl⟩ := hrel
    have hbm : Below w.heap.size w wr := hbW.trans (hbl.mono hbW.size)
    have HP : Hid (∀ u, Below W.heap.size W u → u.cell? ⟨w.heap.size, 0, none⟩ = some (.slice a rs.length c)) := fun u hu => (hu.cell (block_lt c0)).trans c0
    have r0 := HP.out wr hbl
    clear c0 c1
    by_cases hlt : k < rs.length
    ·obtain ⟨b, off, rfl, hcell, hrd⟩ := HC.out k hlt
     have HCL : Hid (∀ u, Below W.heap.size W u → ∀ j, j < rs.length → u.rangeAt b (off + j * 20) (rs.getD j zeroSt).cells) := fun u hu j hj => rangeSt_below (hcell j hj) hu
     have hyr := HCL.out wr hbl k hlt
     have x0 : wr.cell? ⟨b, off + k * 20, none⟩ = some (.int .i64 (rs.getD k zeroSt).no) := hyr 0 _ rfl
     have HPG : Hid (wr.rangeAt b (off + k * 20 + 1) (rs.getD k zeroSt).page.cells) := by
      intro j v hj
      have hjl := (List.getElem?_eq_some_iff.1 hj).1
      have := hyr (1 + j) v (by rw [SeatA.cells_page, Nat.add_comm, List.getElem?_cons_succ, List.getElem?_append_left hjl]; exact hj)
      rw [show off + k * 20 + 1 + j = off + k * 20 + (1 + j) by omega]
      exact this
     have HIP := (by show _ = some 17; kernel_rfl : (Tryz.prog.info? 48).map (·.size) = some (rs.getD k zeroSt).page.cells.length)
     have C := specPageOk_any (rs.getD k zeroSt).page rfl wr (hrd.below hbl) (HS.out k hlt)
     have CI := l1In_any (rs.getD k zeroSt).no 0 7 wr
     have HN : Hid (seatB (rs.getD k zeroSt).v = false → R = false) := HNO.out k hlt
     have HD : Hid (∀ j, j < k → (rs.getD j zeroSt).no = (rs.getD k zeroSt).no → R = false) := fun j hj h => HDUP.out k j hlt hj h
     have HY : Hid (seatB (rs.getD k zeroSt).v = true → (∀ j, j < k → (rs.getD j zeroSt).no ≠ (rs.getD k zeroSt).no) → ∀ m, m < k + 1 → seatB (rs.getD m zeroSt).v = true ∧ ∀ j, j < m → (rs.getD j zeroSt).no ≠ (rs.getD m zeroSt).no) := fun h h' m hm => by
      by_cases e : m = k
      ·rw [e]; exact ⟨h, h'⟩
      ·exact hall.out m (by omega)
     have hkk : (k : Int) < (rs.length : Int) := by omega
     have hk0 : (0 : Int) ≤ (k : Int) := by omega
     have HX0 : Hid (∀ u, Below W.heap.size W u → ∀ j, j < rs.length → u.cell? ⟨b, off + j * 20, none⟩ = some (.int .i64 (rs.getD j zeroSt).no)) := fun u hu j hj => HCL.out u hu j hj 0 _ rfl
     have e1 : PageA.cells (rs.getD k zeroSt).page = (rs.getD k zeroSt).page.cells := rfl
     rw [seatB_v] at HN HY
     have e2 : (rs.getD k zeroSt).page.lsn = (rs.getD k zeroSt).lsn := rfl
     have e3 : (rs.getD k zeroSt).page.ss = (rs.getD k zeroSt).ss := rfl
     rw [e2, e3] at C
     clear hcell HC HNO HDUP hall HS hrd hyr HCL e1 e2 e3
     generalize hy : rs.getD k zeroSt = y at *
     have HYE : Hid (rs.getD k zeroSt = y) := hy
     clear hy
     cases h6 : inB y.no 0 7 with
     | false =>
      have HR2 : Hid (R = false) := HN.out (by rw [h6]; rfl)
      rw [h6] at CI
      clear HN HY HD C h6
      go_wp2_with fail
      refine CI.mono ?_
      rintro e u ⟨rfl, hu⟩
      rw [hu]
      clear hu u CI
      go_wp2_with fail
      go_ret
      exact ⟨ret_bool HR2.out.symm, hbm⟩
     | true =>
      rw [h6, Bool.true_and] at HN HY
      rw [h6] at CI
      clear h6
      cases h7 : okP y.lsn (y.ss.map (·.v)) with
      | false =>
       have HR2 : Hid (R = false) := HN.out h7
       rw [h7] at C
       clear HN HY HD h7
       generalize y.page.cells = pc at *
       go_wp2_with fail
       refine CI.mono ?_
       rintro e u ⟨rfl, hu⟩
       rw [hu]
       clear hu u CI
       go_wp2_with (first | (guard_target = wpList _ _ _ (Oper.mk (some 36) _ _ _ _ _ :: _) _ _; refine wpList_load_mid_if (by rfl) 48 (.tmp 35) rfl b (off + k * 20 + 1) rfl pc _ HPG.out Tryz.underlying48 rfl HIP ?_) | fail)
       refine C.mono ?_
       rintro e w1 ⟨rfl, hb1⟩
       go_wp2_with fail
       go_ret
       exact ⟨ret_bool HR2.out.symm, hbm.trans (hb1.mono hbm.size)⟩
      | true =>
       have HY2 := HY.out h7
       have HY3 : Hid _ := HY2
       rw [h7] at C
       clear HN HY h7 HY2
       generalize y.page.cells = pc at *
       go_wp2_with fail
       refine CI.mono ?_
       rintro e u ⟨rfl, hu⟩
       rw [hu]
       clear hu u CI
       go_wp2_with (first | (guard_target = wpList _ _ _ (Oper.mk (some 36) _ _ _ _ _ :: _) _ _; refine wpList_load_mid_if (by rfl) 48 (.tmp 35) rfl b (off + k * 20 + 1) rfl pc _ HPG.out Tryz.underlying48 rfl HIP ?_) | fail)
       refine C.mono ?_
       rintro e w1 ⟨rfl, hb1⟩
       have hbl1 : Below W.heap.size W w1 := hbl.trans (hb1.mono hbl.size)
       clear C hb1 x0 r0 HPG HIP hbl hbm
       have HZK : Hid (∀ u, Below W.heap.size W u → u.cell? ⟨b, off + k * 20, none⟩ = some (.int .i64 y.no)) := fun u hu => by rw [← HYE.out]; exact HX0.out u hu k hlt
       generalize y.no = zk at *
       go_wp2_with fail
       go_loopw [4] (fun i wr => ∃ j : Nat, j ≤ k ∧ i = .int .i64 j ∧ Hid (∀ m, m < j → (rs.getD m zeroSt).no ≠ zk) ∧ Below W.heap.size W wr) (fun i _ => k - (intOf i).toNat)
       case atStart => exact ⟨0, Nat.zero_le _, rfl, fun j hj => by omega, hbl1⟩
       case round =>
        obtain ⟨j, hj, rfl, hal, hbl2⟩ := hrel
        have hbm2 : Below w.heap.size w wr := hbW.trans (hbl2.mono hbW.size)
        by_cases hjk : j < k
        ·have hjl : j < rs.length := by omega
         have hjj : (j : Int) < (rs.length : Int) := by omega
         have hj0 : (0 : Int) ≤ (j : Int) := by omega
         have r1 := HP.out wr hbl2
         have y0 := HZK.out wr hbl2
         have y1 := HX0.out wr hbl2 j hjl
         have HD2 : Hid ((rs.getD j zeroSt).no = zk → R = false) := HD.out j hjk
         have HN2 : Hid ((rs.getD j zeroSt).no ≠ zk → ∀ m, m < j + 1 → (rs.getD m zeroSt).no ≠ zk) := fun h m hm => by
          by_cases e : m = j
          ·rw [e]; exact h
          ·exact hal.out m (by omega)
         clear HD hal hbl1
         generalize (rs.getD j zeroSt).no = zj at *
         by_cases hq : zj = zk
         ·have HR2 : Hid (R = false) := HD2.out hq
          have hqb : (zj == zk) = true := by simpa using hq
          clear hq HD2 HN2
          go_wp2_with fail
          go_quiet (fail)
          go_wp2_with fail
          go_ret
          exact ⟨ret_bool HR2.out.symm, below_drewN hbm2 _⟩
         ·have HN3 := HN2.out hq
          have HN4 : Hid _ := HN3
          have hqb : (zj == zk) = false := by simpa using hq
          clear hq HD2 HN2 HN3
          go_wp2_with fail
          go_quiet (fail)
          go_wp2_with fail
          go_roundw
          case rel => exact ⟨j + 1, by omega, by go_num, HN4, below_drewN hbl2 _⟩
          case measure => simp [intOf]; omega
        ·have HAL : Hid (∀ m, m < k → (rs.getD m zeroSt).no ≠ zk) := fun m hm => hal.out m (by omega)
         have HZ := HY3.out HAL.out
         have HZ2 : Hid _ := HZ
         clear HZ HY3 HAL hal HD
         go_wp2_with fail
         go_roundw
         case rel => exact ⟨k + 1, by omega, by go_num, HZ2, hbl2⟩
         case measure => simp [intOf]; omega
    ·have HE : Hid (true = R) := (HALL3.out (fun m hm => hall.out m (by omega))).symm
     clear hall HALL3
     go_wp2
     go_ret
     exact ⟨ret_bool HE.out, hbm⟩
end Go.Proofs.YtoboickdkednkabGreatDoor