/- Several texts in one, in their order. -/
import Derived.Test.YtoboickdkednkaaDoorPFnPoolsx18
import Derived.Test.YtoboickdkednkaaDoorPFnPoolsx20
import Derived.Test.YtoboickdkednkaaDoorPFnPoolsx19
import Derived.Test.YtoboickdkednkaaDoorPFnPoolsx17
import Derived.Test.YtoboickdkednkaaDoorRows
import Derived.Test.YtoboickdkednkaaDoorPFnPoolsx11
import Derived.LaidLaws
import Derived.LaidHandle
import Derived.Stop.Joined
import Derived.ChangeVars
/- The walk of laws.FnPools. -/
namespace Go.Proofs.YtoboickdkednkaaDoor
open Go.RowKit

def hotsUpto (ss : List SeatA) (m : Nat) : Bool := (ss.take m).all (·.hot)
theorem hots_succ (ss : List SeatA) (m : Nat) (h : m < ss.length) : hotsUpto ss (m + 1) = (hotsUpto ss m && (ss.getD m zeroSt).hot) := by
  unfold hotsUpto
  rw [List.take_succ_eq_append_getElem h, List.all_append]
  simp [List.getD, h]
theorem hots_all {ss : List SeatA} (h : ∀ j, j < ss.length → (ss.getD j zeroSt).hot = true) (m : Nat) : hotsUpto ss m = true := by
  unfold hotsUpto
  rw [List.all_eq_true]
  intro s hs
  obtain ⟨k, hk, rfl⟩ := List.getElem_of_mem (List.mem_of_mem_take hs)
  have := h k hk
  simpa [List.getD, hk] using this

set_option maxHeartbeats 16000000 in
set_option maxRecDepth 100000 in
theorem lawPools_walk (a : Option Addr) (cap : Nat) (zs : List Int) (w : World) (hg : ErrT w) (hr : Reads w a zs) :
    Calls Tryd.prog 3 #[.slice a zs.length cap] w fun e w' => e = .returned (.bool true) ∧ Below w.heap.size w w' := by
  by_cases hbig : 1048576 < zs.length
  · have hd : decide (1048576 < zs.length) = true := decide_eq_true hbig
    go_enter Tryd.func3, Tryd.ntmps3
    go_wp2_with (go_at_call 5; refine (big_any _ _ _ _).mono ?_; rintro e w' ⟨rfl, rfl⟩)
    go_ret
    exact ⟨rfl, Below.refl _ _⟩
  have hd : decide (1048576 < zs.length) = false := decide_eq_false hbig
  go_enter Tryd.func3, Tryd.ntmps3
  go_wp2_with fail
  refine (big_any _ _ _ _).mono ?_
  rintro e w0 ⟨rfl, rfl⟩
  go_wp2_with fail
  refine (drawBring_any a cap zs w0 hr (by omega)).mono ?_
  rintro e w1 ⟨p, no, r, rfl, hp4, hps, hr4, hrs, hrp, hrr, hb1⟩
  have hs1 := hb1.size
  have hpS := pool7 hp4 hps
  have hfr : Fit r.ss := fun s hs => by have := hrs s hs; omega
  have HRS : Hid (_) := hrs
  clear hrs
  have HIr : Hid ((Tryd.prog.info? 34).map (·.size) = some r.cells.length) := by rw [Hid, page_len _ hr4]; kernel_rfl
  have HOr : Hid (_) := all_oneCell_toArray (oneP r)
  obtain ⟨V2, hV2, bz0, bz1, hbz, hsz⟩ := boxes2 w1 [.slice none 0 0, .int .i64 0] [.int .i64 0, .bool false, .int .i64 0, .slice none 0 0, .slice none 0 0, .bool false, .int .i64 0, .slice none 0 0, .slice none 0 0, .bool false, .int .i64 0, .slice none 0 0, .slice none 0 0, .bool false, .int .i64 0, .slice none 0 0, .slice none 0 0] 26 34
  obtain ⟨V3, hV3, hw3, hs3, HT3, _, bp3⟩ := pool_out p _ rfl bz0
  obtain ⟨W2, hW2, hw2, hs2, HT2, _, br⟩ := page_out (C := w1.heap.size + 1) (T := 34) r hr4 _ rfl (bz1.within hw3 (by omega)) Tryd.underlying34 rfl (by kernel_rfl)
  have bp := bp3.within hw2 (by omega)
  have M2 : Below w1.heap.size w1 W2 := (hbz.trans (hw3.below (Nat.le_refl _) (by omega))).trans (hw2.below (by omega) (by omega))
  have rp2 : p.reads W2 := hrp.below M2
  have rr2 := hrr.below M2
  have B2 : Below w0.heap.size w0 W2 := hb1.trans (M2.mono hs1)
  have hRp : ∀ w', Below W2.heap.size W2 w' → p.reads w' := fun w' hh => rp2.below hh
  have hRr : ∀ w', Below W2.heap.size W2 w' → ReadsS w' r.ss := fun w' hh => rr2.below hh
  have hgB : ∀ w', Below W2.heap.size W2 w' → ErrT w' := fun w' hh => hg.keep (B2.trans (hh.mono B2.size))
  have lp := bp.lt
  have lr := br.lt
  have N : Below W2.heap.size W2 W2 := Below.refl _ _
  clear bz0 bz1 hbz hsz hw3 hs3 bp3 hw2 hs2 M2 hrp hrr hd hbig hps
  go_wp2_with (first | (guard_target = wpList _ _ _ (Oper.mk none (Op.store _ (Operand.tmp 3) _) _ _ _ _ :: _) _ _; refine wpList_store_mid rfl 26 (.tmp 3) (.tmp 22) rfl w1.heap.size 0 (p.cells).toArray rfl rfl (by rw [hV2.out]; exact HT3.out) (by rw [List.size_toArray]; exact (pool_info _)) (pool_one _) ?_) | (guard_target = wpList _ _ _ (Oper.mk none (Op.store _ (Operand.tmp 5) _) _ _ _ _ :: _) _ _; refine wpList_store_mid rfl 34 (.tmp 5) (.tmp 24) rfl (w1.heap.size + 1) 0 (r.cells).toArray rfl rfl (by rw [hV2.out, hV3.out]; exact HT2.out) (by rw [List.size_toArray]; exact HIr.out) HOr.out ?_) | (guard_target = wpList _ _ _ (Oper.mk (some 26) _ _ _ _ _ :: _) _ _; refine wpList_load_mid rfl 26 (.tmp 3) rfl w1.heap.size 0 rfl (p.cells) _ (by rw [hV2.out, hV3.out, hW2.out]; exact (Box.range [] (p.cells) [] (by simpa using bp))) Tryd.underlying26 rfl (pool_info _) ?_) | (guard_target = wpList _ _ _ (Oper.mk (some 28) _ _ _ _ _ :: _) _ _; refine wpList_load_mid rfl 34 (.tmp 5) rfl (w1.heap.size + 1) 0 rfl (r.cells) _ (by rw [hV2.out, hV3.out, hW2.out]; exact (Box.range [] (r.cells) [] (by simpa using br))) Tryd.underlying34 rfl HIr.out ?_) | fail)
  rw [hV2.out, hV3.out, hW2.out]
  clear hV2 hV3 hW2 HT3 HT2
  refine (implBring_any p no r hr4 W2 (hgB _ N) (hRp _ N) hpS (hRr _ N) hfr).mono ?_
  rintro e w3 ⟨n, old, went, rfl, HVB, on, oo, hb3⟩
  replace bp := bp.below hb3 bp.lt
  replace br := br.below hb3 br.lt
  replace N := N.trans (hb3.mono N.size)
  have s3 := hb3.size
  clear hb3 oo
  obtain ⟨Zw4, hZw4, bZ, bY, hbZ, hsZ⟩ := boxes2 w3 [.slice none 0 0, .int .i64 0] [.int .i64 0, .int .i64 0, .bool false, .int .i64 0, .slice none 0 0, .slice none 0 0, .bool false, .int .i64 0, .slice none 0 0, .slice none 0 0, .bool false, .int .i64 0, .slice none 0 0, .slice none 0 0, .bool false, .int .i64 0, .slice none 0 0, .slice none 0 0, .bool false, .bool false] 26 38
  obtain ⟨Yw4, hYw4, hwY, hzY, HYw4, _, bn⟩ := pool_out n _ rfl bZ
  obtain ⟨w4, hSw4, hwZ, hzZ, HTw4, _, bo⟩ := seat_out old _ rfl (bY.within hwY (by omega))
  replace bn := bn.within hwZ (by omega)
  have hbw4 : Below w3.heap.size w3 w4 := (hbZ.trans (hwY.below (Nat.le_refl _) (by omega))).trans (hwZ.below (by omega) (by omega))
  clear bZ bY hbZ hsZ hwZ hzZ hwY hzY
  replace bp := bp.below hbw4 bp.lt
  replace br := br.below hbw4 br.lt
  replace on := on.below hbw4
  replace N := N.trans (hbw4.mono N.size)
  have sw4 := hbw4.size
  have lw4 := bn.lt
  have mw4 := bo.lt
  clear hbw4
  go_wp2_with (first | (guard_target = wpList _ _ _ (Oper.mk none (Op.store _ (Operand.tmp 6) _) _ _ _ _ :: _) _ _; refine wpList_store_mid rfl 26 (.tmp 6) (.tmp 30) rfl w3.heap.size 0 (PoolA.cells n).toArray rfl rfl (by rw [hZw4.out]; exact HYw4.out) (by rw [List.size_toArray]; exact (pool_info _)) (pool_one _) ?_) | (guard_target = wpList _ _ _ (Oper.mk none (Op.store _ (Operand.tmp 7) _) _ _ _ _ :: _) _ _; refine wpList_store_mid rfl 38 (.tmp 7) (.tmp 31) rfl (w3.heap.size + 1) 0 (SeatA.cells old).toArray rfl rfl (by rw [hZw4.out, hYw4.out]; exact HTw4.out) (by rw [List.size_toArray]; exact (seat_info _)) (seat_one _) ?_) | (guard_target = wpList _ _ _ (Oper.mk (some 34) _ _ _ _ _ :: _) _ _; refine wpList_load_mid rfl 26 (.tmp 3) rfl w1.heap.size 0 rfl (p.cells) _ (by rw [hZw4.out, hYw4.out, hSw4.out]; exact (Box.range [] (p.cells) [] (by simpa using bp))) Tryd.underlying26 rfl (pool_info _) ?_) | (guard_target = wpList _ _ _ (Oper.mk (some 36) _ _ _ _ _ :: _) _ _; refine wpList_load_mid rfl 34 (.tmp 5) rfl (w1.heap.size + 1) 0 rfl (r.cells) _ (by rw [hZw4.out, hYw4.out, hSw4.out]; exact (Box.range [] (r.cells) [] (by simpa using br))) Tryd.underlying34 rfl HIr.out ?_) | fail)
  rw [hZw4.out, hYw4.out, hSw4.out]
  clear hZw4 hSw4 HTw4 hYw4 HYw4
  refine (specBring_any p no r hr4 w4 (hRp _ N) hpS (hRr _ N) hfr).mono ?_
  rintro e w5 ⟨n', old', went', rfl, HVM, _, _, hb5⟩
  obtain rfl : went' = went := by have h := HVB.out.symm.trans HVM.out; exact (Prod.mk.inj (Prod.mk.inj h).2).2.symm
  clear HVM
  replace bp := bp.below hb5 bp.lt
  replace br := br.below hb5 br.lt
  replace bn := bn.below hb5 bn.lt
  replace bo := bo.below hb5 bo.lt
  replace on := on.below hb5
  replace N := N.trans (hb5.mono N.size)
  have s5 := hb5.size
  clear hb5
  obtain ⟨Zw6, hZw6, bZ, bY, hbZ, hsZ⟩ := boxes2 w5 [.slice none 0 0, .int .i64 0] [.int .i64 0, .int .i64 0, .bool false, .int .i64 0, .slice none 0 0, .slice none 0 0, .bool false, .int .i64 0, .slice none 0 0, .slice none 0 0, .bool false, .int .i64 0, .slice none 0 0, .slice none 0 0, .bool false, .int .i64 0, .slice none 0 0, .slice none 0 0, .bool false, .bool false] 26 38
  obtain ⟨Yw6, hYw6, hwY, hzY, HYw6, _, bm⟩ := pool_out n' _ rfl bZ
  obtain ⟨w6, hSw6, hwZ, hzZ, HTw6, _, bk⟩ := seat_out old' _ rfl (bY.within hwY (by omega))
  replace bm := bm.within hwZ (by omega)
  have hbw6 : Below w5.heap.size w5 w6 := (hbZ.trans (hwY.below (Nat.le_refl _) (by omega))).trans (hwZ.below (by omega) (by omega))
  clear bZ bY hbZ hsZ hwZ hzZ hwY hzY
  replace bp := bp.below hbw6 bp.lt
  replace br := br.below hbw6 br.lt
  replace bn := bn.below hbw6 bn.lt
  replace bo := bo.below hbw6 bo.lt
  replace on := on.below hbw6
  replace N := N.trans (hbw6.mono N.size)
  have sw6 := hbw6.size
  have lw6 := bm.lt
  have mw6 := bk.lt
  clear hbw6
  go_upto_region 6 with (first | (guard_target = wpList _ _ _ (Oper.mk none (Op.store _ (Operand.tmp 9) _) _ _ _ _ :: _) _ _; refine wpList_store_mid rfl 26 (.tmp 9) (.tmp 38) rfl w5.heap.size 0 (PoolA.cells n').toArray rfl rfl (by rw [hZw6.out]; exact HYw6.out) (by rw [List.size_toArray]; exact (pool_info _)) (pool_one _) ?_) | (guard_target = wpList _ _ _ (Oper.mk none (Op.store _ (Operand.tmp 10) _) _ _ _ _ :: _) _ _; refine wpList_store_mid rfl 38 (.tmp 10) (.tmp 39) rfl (w5.heap.size + 1) 0 (SeatA.cells old').toArray rfl rfl (by rw [hZw6.out, hYw6.out]; exact HTw6.out) (by rw [List.size_toArray]; exact (seat_info _)) (seat_one _) ?_) | fail)
  rw [hZw6.out, hYw6.out, hSw6.out]
  clear hZw6 hSw6 HTw6 hYw6 HYw6 bm bk
  have C7 := implVictim_any p w6 (hgB _ N) (hRp _ N) hpS
  simp only [VictimAns] at C7
  cases went' with
  | false =>
    have HLE : Hid (p.seats.length ≤ n.seats.length) := by have h := stayed_parts HVB.out; rw [Hid]; simpa [PoolA.v] using h
    clear HVB
    go_wp2_with (first | (guard_target = wpList _ _ _ (Oper.mk (some 45) _ _ _ _ _ :: _) _ _; refine wpList_load_mid rfl 26 (.tmp 3) rfl w1.heap.size 0 rfl (p.cells) _ (Box.range [] (p.cells) [] (by simpa using bp)) Tryd.underlying26 rfl (pool_info _) ?_) | fail)
    refine C7.mono ?_
    clear C7
    rintro e w7 ⟨v, kk, rfl, HVV, ov, hb7⟩
    replace bp := bp.below hb7 bp.lt
    replace br := br.below hb7 br.lt
    replace bn := bn.below hb7 bn.lt
    replace bo := bo.below hb7 bo.lt
    replace on := on.below hb7
    replace N := N.trans (hb7.mono N.size)
    have s7 := hb7.size
    clear hb7
    obtain ⟨Zw8, hZw8, bZ, hbZ, hsZ⟩ := boxes1 w7 [.slice none 0 0, .int .i64 0] 26
    obtain ⟨w8, hSw8, hwZ, hzZ, HTw8, _, bv⟩ := pool_out v _ rfl bZ
    have hbw8 : Below w7.heap.size w7 w8 := hbZ.trans (hwZ.below (Nat.le_refl _) (by omega))
    clear bZ hbZ hsZ hwZ hzZ
    replace bp := bp.below hbw8 bp.lt
    replace br := br.below hbw8 br.lt
    replace bn := bn.below hbw8 bn.lt
    replace bo := bo.below hbw8 bo.lt
    replace on := on.below hbw8
    replace N := N.trans (hbw8.mono N.size)
    have sw8 := hbw8.size
    have lw8 := bv.lt
    clear hbw8
    have C9 := specPoolOk_any p w8 (hRp _ N) (PoolA.short_wide hpS)
    go_wp2_with (first | (guard_target = wpList _ _ _ (Oper.mk none (Op.store _ (Operand.tmp 12) _) _ _ _ _ :: _) _ _; refine wpList_store_mid rfl 26 (.tmp 12) (.tmp 47) rfl w7.heap.size 0 (v.cells).toArray rfl rfl (by rw [hZw8.out]; exact HTw8.out) (by rw [List.size_toArray]; exact (pool_info _)) (pool_one _) ?_) | (guard_target = wpList _ _ _ (Oper.mk (some 49) _ _ _ _ _ :: _) _ _; refine wpList_load_mid rfl 26 (.tmp 3) rfl w1.heap.size 0 rfl (p.cells) _ (by rw [hZw8.out, hSw8.out]; exact (Box.range [] (p.cells) [] (by simpa using bp))) Tryd.underlying26 rfl (pool_info _) ?_) | fail)
    rw [hZw8.out, hSw8.out]
    clear hZw8 hSw8 HTw8
    refine C9.mono ?_
    clear C9
    rintro e w9 ⟨rfl, hb9⟩
    replace bp := bp.below hb9 bp.lt
    replace br := br.below hb9 br.lt
    replace bn := bn.below hb9 bn.lt
    replace bo := bo.below hb9 bo.lt
    replace bv := bv.below hb9 bv.lt
    replace on := on.below hb9
    replace N := N.trans (hb9.mono N.size)
    have s9 := hb9.size
    clear hb9
    cases hok : okPool p.v with
    | false =>
      obtain rfl : kk = -1 := by have h := HVV.out; rw [victim_not_ok hok] at h; exact (Prod.mk.inj h).2.symm
      have C10 := implPoolOk_any p w9 (hgB _ N) (hRp _ N) (PoolA.short_wide hpS)
      rw [hok] at C10
      clear hok
      go_wp2_with (first | (guard_target = wpList _ _ _ (Oper.mk (some 52) _ _ _ _ _ :: _) _ _; refine wpList_load_mid rfl 26 (.tmp 3) rfl w1.heap.size 0 rfl (p.cells) _ (Box.range [] (p.cells) [] (by simpa using bp)) Tryd.underlying26 rfl (pool_info _) ?_) | fail)
      refine C10.mono ?_
      clear C10
      rintro e w10 ⟨rfl, hb10⟩
      have HEND : Hid (Below w0.heap.size w0 w10) := B2.trans ((N.trans (hb10.mono N.size)).mono B2.size)
      clear hb10
      go_wp2
      go_ret
      exact ⟨rfl, HEND.out⟩
    | true =>
      clear hok
      have HEND : Hid (Below w0.heap.size w0 w9) := B2.trans (N.mono B2.size)
      have x6 := bn.cell 0 _ rfl
      have x3 := bp.cell 0 _ rfl
      have hle : (p.seats.length : Int) ≤ (n.seats.length : Int) := by have := HLE.out; omega
      go_wp2
      go_ret
      exact ⟨rfl, HEND.out⟩
  | true =>
    obtain ⟨hokp, hp3, k, vv, hk3, hvi, hse, hnk, hso, hokn, hn3, hpo, hvh, hhot⟩ := brought_parts HVB.out
    have HSN : Hid (n.short 1048576) := bring_short (by rw [HVB.out]) hpS (fun s hs => by obtain ⟨x, hx, rfl⟩ := List.mem_map.1 hs; have := HRS.out x hx; omega)
    have hp3' : p.seats.length = 3 := by simpa [PoolA.v] using hp3
    have HN3 : Hid (n.seats.length = 3) := by rw [Hid]; simpa [PoolA.v] using hn3
    have HNK : Hid ((n.seats.getD k zeroSt).v = ⟨no, r.lsn, r.ss.map (·.v), false, true⟩) := by rw [PoolA.v] at hnk; simp only at hnk; rw [seatV_at] at hnk; exact hnk
    have HPO : Hid ((p.seats.getD k zeroSt).no = old.no) := by rw [PoolA.v] at hpo; simp only at hpo; rw [seatV_at] at hpo; exact hpo
    have HHOT : Hid ((∀ j, j < 3 → (p.seats.getD j zeroSt).hot = true) ∨ (p.seats.getD k zeroSt).hot = false) := by
      rcases hhot with h | h
      · refine .inl (fun j hj => ?_)
        have := h j hj
        rw [PoolA.v] at this; simp only at this; rw [seatV_at] at this; exact this
      · rw [PoolA.v] at h; simp only at h; rw [seatV_at] at h; exact .inr h
    have HOKP : Hid (okPool p.v = true) := hokp
    have HOKN : Hid (okPool n.v = true) := hokn
    have HVI : Hid (victimOf p.v = (vv, (k : Int))) := hvi
    have HVH : Hid (vv.hand = (((k + 1) % 3 : Nat) : Int)) := hvh
    have HSE : Hid (seatedOf n.v.seats no = k) := hse
    have HSO : Hid (seatedOf n.v.seats old.no = -1) := hso
    have HP3 : Hid (p.seats.length = 3) := hp3'
    clear hokp hvi hse hnk hso hokn hn3 hpo hvh hhot hp3 hp3' HVB
    go_wp2_with (first | (guard_target = wpList _ _ _ (Oper.mk (some 45) _ _ _ _ _ :: _) _ _; refine wpList_load_mid rfl 26 (.tmp 3) rfl w1.heap.size 0 rfl (p.cells) _ (Box.range [] (p.cells) [] (by simpa using bp)) Tryd.underlying26 rfl (pool_info _) ?_) | fail)
    refine C7.mono ?_
    clear C7
    rintro e w7 ⟨v, kk, rfl, HVV, ov, hb7⟩
    replace bp := bp.below hb7 bp.lt
    replace br := br.below hb7 br.lt
    replace bn := bn.below hb7 bn.lt
    replace bo := bo.below hb7 bo.lt
    replace on := on.below hb7
    replace N := N.trans (hb7.mono N.size)
    have s7 := hb7.size
    clear hb7
    obtain ⟨Zw8, hZw8, bZ, hbZ, hsZ⟩ := boxes1 w7 [.slice none 0 0, .int .i64 0] 26
    obtain ⟨w8, hSw8, hwZ, hzZ, HTw8, _, bv⟩ := pool_out v _ rfl bZ
    have hbw8 : Below w7.heap.size w7 w8 := hbZ.trans (hwZ.below (Nat.le_refl _) (by omega))
    clear bZ hbZ hsZ hwZ hzZ
    replace bp := bp.below hbw8 bp.lt
    replace br := br.below hbw8 br.lt
    replace bn := bn.below hbw8 bn.lt
    replace bo := bo.below hbw8 bo.lt
    replace on := on.below hbw8
    replace N := N.trans (hbw8.mono N.size)
    have sw8 := hbw8.size
    have lw8 := bv.lt
    clear hbw8
    have C9 := specPoolOk_any p w8 (hRp _ N) (PoolA.short_wide hpS)
    go_wp2_with (first | (guard_target = wpList _ _ _ (Oper.mk none (Op.store _ (Operand.tmp 12) _) _ _ _ _ :: _) _ _; refine wpList_store_mid rfl 26 (.tmp 12) (.tmp 47) rfl w7.heap.size 0 (v.cells).toArray rfl rfl (by rw [hZw8.out]; exact HTw8.out) (by rw [List.size_toArray]; exact (pool_info _)) (pool_one _) ?_) | (guard_target = wpList _ _ _ (Oper.mk (some 49) _ _ _ _ _ :: _) _ _; refine wpList_load_mid rfl 26 (.tmp 3) rfl w1.heap.size 0 rfl (p.cells) _ (by rw [hZw8.out, hSw8.out]; exact (Box.range [] (p.cells) [] (by simpa using bp))) Tryd.underlying26 rfl (pool_info _) ?_) | fail)
    rw [hZw8.out, hSw8.out]
    clear hZw8 hSw8 HTw8
    refine C9.mono ?_
    clear C9
    rintro e w9 ⟨rfl, hb9⟩
    replace bp := bp.below hb9 bp.lt
    replace br := br.below hb9 br.lt
    replace bn := bn.below hb9 bn.lt
    replace bo := bo.below hb9 bo.lt
    replace bv := bv.below hb9 bv.lt
    replace on := on.below hb9
    replace N := N.trans (hb9.mono N.size)
    have s9 := hb9.size
    clear hb9
    obtain ⟨rfl, HVD⟩ : kk = (k : Int) ∧ Hid (v.hand = (((k + 1) % 3 : Nat) : Int)) := by
      have h := HVV.out
      rw [HVI.out] at h
      refine ⟨(Prod.mk.inj h).2.symm, ?_⟩
      rw [Hid, ← HVH.out, (Prod.mk.inj h).1]
      rfl
    clear HVV HVI HVH
    rw [HOKP.out]
    have C10 := implSeated_any n no w9 on.reads (PoolA.short_wide HSN.out)
    rw [HSE.out] at C10
    go_wp2_with (first | (guard_target = wpList _ _ _ (Oper.mk (some 68) _ _ _ _ _ :: _) _ _; refine wpList_load_mid rfl 26 (.tmp 6) rfl w3.heap.size 0 rfl (PoolA.cells n) _ (Box.range [] (PoolA.cells n) [] (by simpa using bn)) Tryd.underlying26 rfl (pool_info _) ?_) | fail)
    refine C10.mono ?_
    clear C10
    rintro e w10 ⟨rfl, hb10⟩
    replace bp := bp.below hb10 bp.lt
    replace br := br.below hb10 br.lt
    replace bn := bn.below hb10 bn.lt
    replace bo := bo.below hb10 bo.lt
    replace bv := bv.below hb10 bv.lt
    replace on := on.below hb10
    replace N := N.trans (hb10.mono N.size)
    have s10 := hb10.size
    clear hb10
    go_upto_region 14 with fail
    obtain ⟨gn, hgn, pn, _, _, _⟩ := own_seat on k (by rw [HN3.out]; exact hk3)
    have rn := rd_seat on.reads k (by rw [HN3.out]; exact hk3)
    obtain ⟨pb, po, hpa, hpr⟩ := hRp _ N (by intro e; have := HP3.out; rw [e] at this; simp at this)
    have HPC : Hid (∀ x, Below w10.heap.size w10 x → ∀ j, j < 3 → x.cell? ⟨pb, po + j * 20, none⟩ = some (.int .i64 (p.seats.getD j zeroSt).no) ∧ x.cell? ⟨pb, po + j * 20 + 19, none⟩ = some (.bool (p.seats.getD j zeroSt).hot)) := fun x hx j hj => by
      have hr := (hpr j (by rw [HP3.out]; exact hj)).1
      exact ⟨cell_below hx (hr 0 _ rfl), cell_below hx (hr 19 _ rfl)⟩
    have xn := bn.cell 0 _ rfl
    have xo := bo.cell 0 _ rfl
    have xp := bp.cell 0 _ rfl
    have xv := bv.cell 1 _ rfl
    rw [hgn] at xn
    rw [hpa] at xp
    rw [HVD.out] at xv
    have HN1 : Hid ((n.seats.getD k zeroSt).lsn = r.lsn ∧ (n.seats.getD k zeroSt).ss.map (·.v) = r.ss.map (·.v)) := by have h := HNK.out; simp only [SeatA.v, SeatV.mk.injEq] at h; exact ⟨h.2.1, h.2.2.1⟩
    obtain ⟨sn, hsn⟩ : ∃ sn, Hid ((n.seats.getD k zeroSt).ss = sn) := ⟨_, rfl⟩
    rw [SeatA.page, HN1.out.1, hsn.out] at pn
    rw [hsn.out] at rn
    have hen : sn.map (·.v) = r.ss.map (·.v) := by rw [← hsn.out]; exact HN1.out.2
    have hn4 : sn.length = 4 := by have h := congrArg List.length hen; simpa [hr4] using h
    have HFN : Hid (∀ s ∈ sn, s.v.o.ints.length ≤ 1099511627776 ∧ s.v.o.refs.length ≤ 1099511627776) := fun s hs => by
      have h : s.v ∈ r.ss.map (·.v) := by rw [← hen]; exact List.mem_map.2 ⟨s, hs, rfl⟩
      obtain ⟨x, hx, e⟩ := List.mem_map.1 h
      rw [← e]; exact hfr x hx
    have HIn : Hid (∀ us : List SlotA, us.length = 4 → (Tryd.prog.info? 34).map (·.size) = some (PageA.cells ⟨r.lsn, us⟩).length) := fun us hu => by rw [page_len _ hu]; kernel_rfl
    have HEN : Hid (r.ss.map (·.v) = sn.map (·.v)) := hen.symm
    have c0 := (HPC.out _ (Below.refl _ _) k hk3).1
    rw [HPO.out] at c0
    obtain ⟨oldn, holdn⟩ : ∃ oldn, Hid (old.no = oldn) := ⟨_, rfl⟩
    rw [holdn.out] at c0 xo
    have HSO' : Hid (seatedOf n.v.seats oldn = -1) := by rw [Hid, ← holdn.out]; exact HSO.out
    obtain ⟨hd, hhd⟩ : ∃ hd : Nat, Hid ((k + 1) % 3 = hd) := ⟨_, rfl⟩
    rw [hhd.out] at xv
    have hmod : ((k : Int) + 1) % 3 = (hd : Int) := by have := hhd.out; omega
    have hmodt : Int.tmod ((k : Int) + 1) 3 = (hd : Int) := by rw [Int.tmod_eq_emod_of_nonneg (by omega)]; exact hmod
    obtain ⟨pl, hpl⟩ : ∃ pl, Hid (p.seats.length = pl) := ⟨_, rfl⟩
    obtain ⟨pc, hpc⟩ : ∃ pc, Hid (p.c = pc) := ⟨_, rfl⟩
    rw [hpl.out, hpc.out] at xp
    have HPL : Hid (pl = 3) := by rw [Hid, ← hpl.out]; exact HP3.out
    obtain ⟨nl, hnl⟩ : ∃ nl, Hid (n.seats.length = nl) := ⟨_, rfl⟩
    rw [hnl.out] at xn
    have HNL : Hid (nl = 3) := by rw [Hid, ← hnl.out]; exact HN3.out
    clear hen HNK HN1 hsn HSO holdn hhd HVD hgn hpa hpl hpc hnl
    have HRG : Hid (∀ x, Below w10.heap.size w10 x → ((fun u => u.cell? ⟨w3.heap.size, 0, none⟩ = some (.slice (some ⟨gn, 0, none⟩) nl n.c) ∧ u.rangeAt gn (k * 20 + 1) (PageA.cells ⟨r.lsn, sn⟩) ∧ u.rangeAt (w1.heap.size + 1) 0 r.cells ∧ u.rangeAt w3.heap.size 0 n.cells ∧ u.cell? ⟨w3.heap.size + 1, 0, none⟩ = some (.int .i64 oldn) ∧ u.cell? ⟨w1.heap.size, 0, none⟩ = some (.slice (some ⟨pb, po, none⟩) pl pc) ∧ u.cell? ⟨pb, po + k * 20, none⟩ = some (.int .i64 oldn) ∧ u.cell? ⟨w7.heap.size, 1, none⟩ = some (.int .i64 (hd : Int))) x)) := fun x hx => by
      refine ⟨cell_below hx xn, rng_below hx pn, ?_, ?_, cell_below hx xo, cell_below hx xp, cell_below hx c0, cell_below hx xv⟩
      · exact Box.range [] r.cells [] (by simpa using br.below hx br.lt)
      · exact Box.range [] n.cells [] (by simpa using bn.below hx bn.lt)
    have D0 : Below w10.heap.size w10 w10.drew := (Below.refl _ _).drew
    have hkn : (k : Int) < (nl : Int) := by have := HNL.out; omega
    have hkp : (k : Int) < (pl : Int) := by have := HPL.out; omega
    have hk0 : (0 : Int) ≤ (k : Int) := by omega
    have hk3i : (k : Int) < 3 := by omega
    have hwrap : IntKind.i64.wrap ((k : Int) + 1) = (k : Int) + 1 := by rw [IntKind.wrap_i64]; omega
    refine wp_region_held_drew (S := fun u => u.cell? ⟨w3.heap.size, 0, none⟩ = some (.slice (some ⟨gn, 0, none⟩) nl n.c) ∧ u.rangeAt gn (k * 20 + 1) (PageA.cells ⟨r.lsn, sn⟩) ∧ u.rangeAt (w1.heap.size + 1) 0 r.cells ∧ u.rangeAt w3.heap.size 0 n.cells ∧ u.cell? ⟨w3.heap.size + 1, 0, none⟩ = some (.int .i64 oldn) ∧ u.cell? ⟨w1.heap.size, 0, none⟩ = some (.slice (some ⟨pb, po, none⟩) pl pc) ∧ u.cell? ⟨pb, po + k * 20, none⟩ = some (.int .i64 oldn) ∧ u.cell? ⟨w7.heap.size, 1, none⟩ = some (.int .i64 (hd : Int))) (by kernel_rfl) (HRG.out _ D0) (fun hHeld => ?_)
    clear xn pn xo xp c0 xv
    generalize hd0 : w10.drew = d0 at *
    clear hd0
    refine wpAnyH_take (i := 0) (v := .int .i64 (k : Int)) rfl (by kernel_rfl) (by kernel_rfl) (by kernel_rfl) (fun _ _ _ h => h) (Or.inl ⟨by rfl, ?_⟩) hHeld ?_
    · intro w' hSw
      go_simp <;> rfl
    try simp only [Act.put, List.getElem_toArray, List.getElem_cons_zero, List.setIfInBounds_toArray, List.set_cons_zero, List.set_cons_succ]
    refine wpAnyH_take (i := 1) (v := .bool false) rfl (by kernel_rfl) (by kernel_rfl) (by kernel_rfl) (fun _ _ _ h => h) (Or.inl ⟨by rfl, ?_⟩) hHeld ?_
    · intro w' hSw
      go_simp <;> rfl
    try simp only [Act.put, List.getElem_toArray, List.getElem_cons_zero, List.getElem_cons_succ, List.setIfInBounds_toArray, List.set_cons_zero, List.set_cons_succ]
    refine wpAnyH_take (i := 2) (v := .bool false) rfl (by kernel_rfl) (by kernel_rfl) (by kernel_rfl) (fun _ _ _ h => h) (Or.inl ⟨by rfl, ?_⟩) hHeld ?_
    · intro w' hSw
      go_simp <;> rfl
    try simp only [Act.put, List.getElem_toArray, List.getElem_cons_zero, List.getElem_cons_succ, List.setIfInBounds_toArray, List.set_cons_zero, List.set_cons_succ]
    refine wpAnyH_take (i := 3) (v := .pointer (some ⟨w3.heap.size, 0, none⟩)) rfl (by kernel_rfl) (by kernel_rfl) (by kernel_rfl) (fun _ _ _ h => h) (Or.inl ⟨by rfl, ?_⟩) hHeld ?_
    · intro w' hSw
      go_simp <;> rfl
    try simp only [Act.put, List.getElem_toArray, List.getElem_cons_zero, List.getElem_cons_succ, List.setIfInBounds_toArray, List.set_cons_zero, List.set_cons_succ]
    refine wpAnyH_take (i := 4) (v := .slice (some ⟨gn, 0, none⟩) nl n.c) rfl (by kernel_rfl) (by kernel_rfl) (by kernel_rfl) (fun _ _ _ h => h) (Or.inl ⟨by rfl, ?_⟩) hHeld ?_
    · intro w' hSw
      have hx := hSw.1
      go_simp <;> rfl
    try simp only [Act.put, List.getElem_toArray, List.getElem_cons_zero, List.getElem_cons_succ, List.setIfInBounds_toArray, List.set_cons_zero, List.set_cons_succ]
    refine wpAnyH_take (i := 5) (v := .int .i64 (k : Int)) rfl (by kernel_rfl) (by kernel_rfl) (by kernel_rfl) (fun _ _ _ h => h) (Or.inl ⟨by rfl, ?_⟩) hHeld ?_
    · intro w' hSw
      go_simp <;> rfl
    try simp only [Act.put, List.getElem_toArray, List.getElem_cons_zero, List.getElem_cons_succ, List.setIfInBounds_toArray, List.set_cons_zero, List.set_cons_succ]
    refine wpAnyH_take (i := 6) (v := .pointer (some ⟨gn, k * 20, none⟩)) rfl (by kernel_rfl) (by kernel_rfl) (by kernel_rfl) (fun _ _ _ h => h) (Or.inl ⟨by rfl, ?_⟩) hHeld ?_
    · intro w' hSw
      go_simp <;> rfl
    try simp only [Act.put, List.getElem_toArray, List.getElem_cons_zero, List.getElem_cons_succ, List.setIfInBounds_toArray, List.set_cons_zero, List.set_cons_succ]
    refine wpAnyH_take (i := 7) (v := .pointer (some ⟨gn, k * 20 + 1, none⟩)) rfl (by kernel_rfl) (by kernel_rfl) (by kernel_rfl) (fun _ _ _ h => h) (Or.inl ⟨by rfl, ?_⟩) hHeld ?_
    · intro w' hSw
      go_simp <;> rfl
    try simp only [Act.put, List.getElem_toArray, List.getElem_cons_zero, List.getElem_cons_succ, List.setIfInBounds_toArray, List.set_cons_zero, List.set_cons_succ]
    refine wpAnyH_take (i := 8) rfl (by kernel_rfl) (by kernel_rfl) (by kernel_rfl) (fun _ _ _ h => h) (yieldsIf_load_mid (by rfl) _ _ rfl _ _ rfl (PageA.cells ⟨r.lsn, sn⟩) _ (fun _ h => h.2.1) Tryd.underlying34 rfl (HIn.out _ hn4)) hHeld ?_
    try simp only [Act.put, List.getElem_toArray, List.getElem_cons_zero, List.getElem_cons_succ, List.setIfInBounds_toArray, List.set_cons_zero, List.set_cons_succ]
    refine wpAnyH_take (i := 9) rfl (by kernel_rfl) (by kernel_rfl) (by kernel_rfl) (fun _ _ _ h => h) (yieldsIf_load_mid (by rfl) _ _ rfl _ _ rfl (r.cells) _ (fun _ h => h.2.2.1) Tryd.underlying34 rfl HIr.out) hHeld ?_
    try simp only [Act.put, List.getElem_toArray, List.getElem_cons_zero, List.getElem_cons_succ, List.setIfInBounds_toArray, List.set_cons_zero, List.set_cons_succ]
    refine wpAnyH_ready (rs := [10]) (by kernel_rfl) (by simp) ?_
    refine AllReadyH.cons rfl (fun K hK => ?_) AllReadyH.nil
    go_simp
    refine (samePage_same r.lsn sn r.ss hn4 HEN.out _ (rn.below D0) (hRr _ (N.trans (D0.mono N.size))) HFN.out).mono ?_
    rintro e d1 ⟨rfl, hbx⟩
    have Dd1 : Below w10.heap.size w10 d1 := D0.trans (hbx.mono D0.size)
    refine hK.out _ _ (HRG.out _ Dd1) (fun hHeld => ?_)
    clear hK K hbx
    try simp only [Act.put, List.getElem_toArray, List.getElem_cons_zero, List.getElem_cons_succ, List.setIfInBounds_toArray, List.set_cons_zero, List.set_cons_succ]
    refine wpAnyH_take (i := 11) (v := .bool false) rfl (by kernel_rfl) (by kernel_rfl) (by kernel_rfl) (fun _ _ _ h => h) (Or.inl ⟨by rfl, ?_⟩) hHeld ?_
    · intro w' hSw
      go_simp <;> rfl
    try simp only [Act.put, List.getElem_toArray, List.getElem_cons_zero, List.getElem_cons_succ, List.setIfInBounds_toArray, List.set_cons_zero, List.set_cons_succ]
    refine wpAnyH_take (i := 12) (v := .bool false) rfl (by kernel_rfl) (by kernel_rfl) (by kernel_rfl) (fun _ _ _ h => h) (Or.inl ⟨by rfl, ?_⟩) hHeld ?_
    · intro w' hSw
      go_simp <;> rfl
    try simp only [Act.put, List.getElem_toArray, List.getElem_cons_zero, List.getElem_cons_succ, List.setIfInBounds_toArray, List.set_cons_zero, List.set_cons_succ]
    refine wpAnyH_take (i := 13) (v := .bool false) rfl (by kernel_rfl) (by kernel_rfl) (by kernel_rfl) (fun _ _ _ h => h) (Or.inl ⟨by rfl, ?_⟩) hHeld ?_
    · intro w' hSw
      go_simp <;> rfl
    try simp only [Act.put, List.getElem_toArray, List.getElem_cons_zero, List.getElem_cons_succ, List.setIfInBounds_toArray, List.set_cons_zero, List.set_cons_succ]
    refine wpAnyH_take (i := 14) rfl (by kernel_rfl) (by kernel_rfl) (by kernel_rfl) (fun _ _ _ h => h) (yieldsIf_load_mid (by rfl) _ _ rfl _ _ rfl (n.cells) _ (fun _ h => h.2.2.2.1) Tryd.underlying26 rfl (pool_info _)) hHeld ?_
    try simp only [Act.put, List.getElem_toArray, List.getElem_cons_zero, List.getElem_cons_succ, List.setIfInBounds_toArray, List.set_cons_zero, List.set_cons_succ]
    refine wpAnyH_take (i := 15) (v := .pointer (some ⟨w3.heap.size + 1, 0, none⟩)) rfl (by kernel_rfl) (by kernel_rfl) (by kernel_rfl) (fun _ _ _ h => h) (Or.inl ⟨by rfl, ?_⟩) hHeld ?_
    · intro w' hSw
      go_simp <;> rfl
    try simp only [Act.put, List.getElem_toArray, List.getElem_cons_zero, List.getElem_cons_succ, List.setIfInBounds_toArray, List.set_cons_zero, List.set_cons_succ]
    refine wpAnyH_take (i := 16) (v := .int .i64 oldn) rfl (by kernel_rfl) (by kernel_rfl) (by kernel_rfl) (fun _ _ _ h => h) (Or.inl ⟨by rfl, ?_⟩) hHeld ?_
    · intro w' hSw
      have hx := hSw.2.2.2.2.1
      go_simp <;> rfl
    try simp only [Act.put, List.getElem_toArray, List.getElem_cons_zero, List.getElem_cons_succ, List.setIfInBounds_toArray, List.set_cons_zero, List.set_cons_succ]
    refine wpAnyH_ready (rs := [17]) (by kernel_rfl) (by simp) ?_
    refine AllReadyH.cons rfl (fun K hK => ?_) AllReadyH.nil
    go_simp
    refine (implSeated_any n oldn _ (PoolA.own.reads on |>.below Dd1) (PoolA.short_wide HSN.out)).mono ?_
    rintro e d2 ⟨rfl, hbx⟩
    rw [HSO'.out]
    have Dd2 : Below w10.heap.size w10 d2 := Dd1.trans (hbx.mono Dd1.size)
    refine hK.out _ _ (HRG.out _ Dd2) (fun hHeld => ?_)
    clear hK K hbx
    try simp only [Act.put, List.getElem_toArray, List.getElem_cons_zero, List.getElem_cons_succ, List.setIfInBounds_toArray, List.set_cons_zero, List.set_cons_succ]
    refine wpAnyH_take (i := 18) (v := .bool false) rfl (by kernel_rfl) (by kernel_rfl) (by kernel_rfl) (fun _ _ _ h => h) (Or.inl ⟨by rfl, ?_⟩) hHeld ?_
    · intro w' hSw
      go_simp <;> rfl
    try simp only [Act.put, List.getElem_toArray, List.getElem_cons_zero, List.getElem_cons_succ, List.setIfInBounds_toArray, List.set_cons_zero, List.set_cons_succ]
    refine wpAnyH_take (i := 19) (v := .bool false) rfl (by kernel_rfl) (by kernel_rfl) (by kernel_rfl) (fun _ _ _ h => h) (Or.inl ⟨by rfl, ?_⟩) hHeld ?_
    · intro w' hSw
      go_simp <;> rfl
    try simp only [Act.put, List.getElem_toArray, List.getElem_cons_zero, List.getElem_cons_succ, List.setIfInBounds_toArray, List.set_cons_zero, List.set_cons_succ]
    refine wpAnyH_take (i := 20) (v := .bool false) rfl (by kernel_rfl) (by kernel_rfl) (by kernel_rfl) (fun _ _ _ h => h) (Or.inl ⟨by rfl, ?_⟩) hHeld ?_
    · intro w' hSw
      go_simp <;> rfl
    try simp only [Act.put, List.getElem_toArray, List.getElem_cons_zero, List.getElem_cons_succ, List.setIfInBounds_toArray, List.set_cons_zero, List.set_cons_succ]
    refine wpAnyH_take (i := 21) rfl (by kernel_rfl) (by kernel_rfl) (by kernel_rfl) (fun _ _ _ h => h) (yieldsIf_load_mid (by rfl) _ _ rfl _ _ rfl (n.cells) _ (fun _ h => h.2.2.2.1) Tryd.underlying26 rfl (pool_info _)) hHeld ?_
    try simp only [Act.put, List.getElem_toArray, List.getElem_cons_zero, List.getElem_cons_succ, List.setIfInBounds_toArray, List.set_cons_zero, List.set_cons_succ]
    refine wpAnyH_ready (rs := [22]) (by kernel_rfl) (by simp) ?_
    refine AllReadyH.cons rfl (fun K hK => ?_) AllReadyH.nil
    go_simp
    refine (implPoolOk_any n _ (hgB _ (N.trans (Dd2.mono N.size))) (PoolA.own.reads on |>.below Dd2) (PoolA.short_wide HSN.out)).mono ?_
    rintro e d3 ⟨rfl, hbx⟩
    rw [HOKN.out]
    have Dd3 : Below w10.heap.size w10 d3 := Dd2.trans (hbx.mono Dd2.size)
    refine hK.out _ _ (HRG.out _ Dd3) (fun hHeld => ?_)
    clear hK K hbx
    try simp only [Act.put, List.getElem_toArray, List.getElem_cons_zero, List.getElem_cons_succ, List.setIfInBounds_toArray, List.set_cons_zero, List.set_cons_succ]
    refine wpAnyH_take (i := 23) (v := .bool false) rfl (by kernel_rfl) (by kernel_rfl) (by kernel_rfl) (fun _ _ _ h => h) (Or.inl ⟨by rfl, ?_⟩) hHeld ?_
    · intro w' hSw
      go_simp <;> rfl
    try simp only [Act.put, List.getElem_toArray, List.getElem_cons_zero, List.getElem_cons_succ, List.setIfInBounds_toArray, List.set_cons_zero, List.set_cons_succ]
    refine wpAnyH_take (i := 24) (v := .bool false) rfl (by kernel_rfl) (by kernel_rfl) (by kernel_rfl) (fun _ _ _ h => h) (Or.inl ⟨by rfl, ?_⟩) hHeld ?_
    · intro w' hSw
      go_simp <;> rfl
    try simp only [Act.put, List.getElem_toArray, List.getElem_cons_zero, List.getElem_cons_succ, List.setIfInBounds_toArray, List.set_cons_zero, List.set_cons_succ]
    refine wpAnyH_take (i := 25) (v := .bool false) rfl (by kernel_rfl) (by kernel_rfl) (by kernel_rfl) (fun _ _ _ h => h) (Or.inl ⟨by rfl, ?_⟩) hHeld ?_
    · intro w' hSw
      go_simp <;> rfl
    try simp only [Act.put, List.getElem_toArray, List.getElem_cons_zero, List.getElem_cons_succ, List.setIfInBounds_toArray, List.set_cons_zero, List.set_cons_succ]
    refine wpAnyH_take (i := 26) (v := .pointer (some ⟨w3.heap.size, 0, none⟩)) rfl (by kernel_rfl) (by kernel_rfl) (by kernel_rfl) (fun _ _ _ h => h) (Or.inl ⟨by rfl, ?_⟩) hHeld ?_
    · intro w' hSw
      go_simp <;> rfl
    try simp only [Act.put, List.getElem_toArray, List.getElem_cons_zero, List.getElem_cons_succ, List.setIfInBounds_toArray, List.set_cons_zero, List.set_cons_succ]
    refine wpAnyH_take (i := 27) (v := .slice (some ⟨gn, 0, none⟩) nl n.c) rfl (by kernel_rfl) (by kernel_rfl) (by kernel_rfl) (fun _ _ _ h => h) (Or.inl ⟨by rfl, ?_⟩) hHeld ?_
    · intro w' hSw
      have hx := hSw.1
      go_simp <;> rfl
    try simp only [Act.put, List.getElem_toArray, List.getElem_cons_zero, List.getElem_cons_succ, List.setIfInBounds_toArray, List.set_cons_zero, List.set_cons_succ]
    refine wpAnyH_take (i := 28) (v := .int .i64 (nl : Int)) rfl (by kernel_rfl) (by kernel_rfl) (by kernel_rfl) (fun _ _ _ h => h) (Or.inl ⟨by rfl, ?_⟩) hHeld ?_
    · intro w' hSw
      go_simp <;> rfl
    try simp only [Act.put, List.getElem_toArray, List.getElem_cons_zero, List.getElem_cons_succ, List.setIfInBounds_toArray, List.set_cons_zero, List.set_cons_succ]
    refine wpAnyH_take (i := 29) (v := .bool false) rfl (by kernel_rfl) (by kernel_rfl) (by kernel_rfl) (fun _ _ _ h => h) (Or.inl ⟨by rfl, ?_⟩) hHeld ?_
    · intro w' hSw
      have hx := HNL.out
      subst hx
      go_simp <;> rfl
    try simp only [Act.put, List.getElem_toArray, List.getElem_cons_zero, List.getElem_cons_succ, List.setIfInBounds_toArray, List.set_cons_zero, List.set_cons_succ]
    refine wpAnyH_take (i := 30) (v := .bool false) rfl (by kernel_rfl) (by kernel_rfl) (by kernel_rfl) (fun _ _ _ h => h) (Or.inl ⟨by rfl, ?_⟩) hHeld ?_
    · intro w' hSw
      go_simp <;> rfl
    try simp only [Act.put, List.getElem_toArray, List.getElem_cons_zero, List.getElem_cons_succ, List.setIfInBounds_toArray, List.set_cons_zero, List.set_cons_succ]
    refine wpAnyH_take (i := 31) (v := .bool false) rfl (by kernel_rfl) (by kernel_rfl) (by kernel_rfl) (fun _ _ _ h => h) (Or.inl ⟨by rfl, ?_⟩) hHeld ?_
    · intro w' hSw
      go_simp <;> rfl
    try simp only [Act.put, List.getElem_toArray, List.getElem_cons_zero, List.getElem_cons_succ, List.setIfInBounds_toArray, List.set_cons_zero, List.set_cons_succ]
    refine wpAnyH_take (i := 32) (v := .int .i64 (k : Int)) rfl (by kernel_rfl) (by kernel_rfl) (by kernel_rfl) (fun _ _ _ h => h) (Or.inl ⟨by rfl, ?_⟩) hHeld ?_
    · intro w' hSw
      go_simp <;> rfl
    try simp only [Act.put, List.getElem_toArray, List.getElem_cons_zero, List.getElem_cons_succ, List.setIfInBounds_toArray, List.set_cons_zero, List.set_cons_succ]
    refine wpAnyH_take (i := 33) (v := .bool false) rfl (by kernel_rfl) (by kernel_rfl) (by kernel_rfl) (fun _ _ _ h => h) (Or.inl ⟨by rfl, ?_⟩) hHeld ?_
    · intro w' hSw
      go_simp <;> rfl
    try simp only [Act.put, List.getElem_toArray, List.getElem_cons_zero, List.getElem_cons_succ, List.setIfInBounds_toArray, List.set_cons_zero, List.set_cons_succ]
    refine wpAnyH_take (i := 34) (v := .bool false) rfl (by kernel_rfl) (by kernel_rfl) (by kernel_rfl) (fun _ _ _ h => h) (Or.inl ⟨by rfl, ?_⟩) hHeld ?_
    · intro w' hSw
      go_simp <;> rfl
    try simp only [Act.put, List.getElem_toArray, List.getElem_cons_zero, List.getElem_cons_succ, List.setIfInBounds_toArray, List.set_cons_zero, List.set_cons_succ]
    refine wpAnyH_take (i := 35) (v := .bool false) rfl (by kernel_rfl) (by kernel_rfl) (by kernel_rfl) (fun _ _ _ h => h) (Or.inl ⟨by rfl, ?_⟩) hHeld ?_
    · intro w' hSw
      go_simp <;> rfl
    try simp only [Act.put, List.getElem_toArray, List.getElem_cons_zero, List.getElem_cons_succ, List.setIfInBounds_toArray, List.set_cons_zero, List.set_cons_succ]
    refine wpAnyH_take (i := 36) (v := .pointer (some ⟨w1.heap.size, 0, none⟩)) rfl (by kernel_rfl) (by kernel_rfl) (by kernel_rfl) (fun _ _ _ h => h) (Or.inl ⟨by rfl, ?_⟩) hHeld ?_
    · intro w' hSw
      go_simp <;> rfl
    try simp only [Act.put, List.getElem_toArray, List.getElem_cons_zero, List.getElem_cons_succ, List.setIfInBounds_toArray, List.set_cons_zero, List.set_cons_succ]
    refine wpAnyH_take (i := 37) (v := .slice (some ⟨pb, po, none⟩) pl pc) rfl (by kernel_rfl) (by kernel_rfl) (by kernel_rfl) (fun _ _ _ h => h) (Or.inl ⟨by rfl, ?_⟩) hHeld ?_
    · intro w' hSw
      have hx := hSw.2.2.2.2.2.1
      go_simp <;> rfl
    try simp only [Act.put, List.getElem_toArray, List.getElem_cons_zero, List.getElem_cons_succ, List.setIfInBounds_toArray, List.set_cons_zero, List.set_cons_succ]
    refine wpAnyH_take (i := 38) (v := .int .i64 (k : Int)) rfl (by kernel_rfl) (by kernel_rfl) (by kernel_rfl) (fun _ _ _ h => h) (Or.inl ⟨by rfl, ?_⟩) hHeld ?_
    · intro w' hSw
      go_simp <;> rfl
    try simp only [Act.put, List.getElem_toArray, List.getElem_cons_zero, List.getElem_cons_succ, List.setIfInBounds_toArray, List.set_cons_zero, List.set_cons_succ]
    refine wpAnyH_take (i := 39) (v := .pointer (some ⟨pb, po + k * 20, none⟩)) rfl (by kernel_rfl) (by kernel_rfl) (by kernel_rfl) (fun _ _ _ h => h) (Or.inl ⟨by rfl, ?_⟩) hHeld ?_
    · intro w' hSw
      go_simp <;> rfl
    try simp only [Act.put, List.getElem_toArray, List.getElem_cons_zero, List.getElem_cons_succ, List.setIfInBounds_toArray, List.set_cons_zero, List.set_cons_succ]
    refine wpAnyH_take (i := 40) (v := .pointer (some ⟨pb, po + k * 20, none⟩)) rfl (by kernel_rfl) (by kernel_rfl) (by kernel_rfl) (fun _ _ _ h => h) (Or.inl ⟨by rfl, ?_⟩) hHeld ?_
    · intro w' hSw
      go_simp <;> rfl
    try simp only [Act.put, List.getElem_toArray, List.getElem_cons_zero, List.getElem_cons_succ, List.setIfInBounds_toArray, List.set_cons_zero, List.set_cons_succ]
    refine wpAnyH_take (i := 41) (v := .int .i64 oldn) rfl (by kernel_rfl) (by kernel_rfl) (by kernel_rfl) (fun _ _ _ h => h) (Or.inl ⟨by rfl, ?_⟩) hHeld ?_
    · intro w' hSw
      have hx := hSw.2.2.2.2.2.2.1
      go_simp <;> rfl
    try simp only [Act.put, List.getElem_toArray, List.getElem_cons_zero, List.getElem_cons_succ, List.setIfInBounds_toArray, List.set_cons_zero, List.set_cons_succ]
    refine wpAnyH_take (i := 42) (v := .pointer (some ⟨w3.heap.size + 1, 0, none⟩)) rfl (by kernel_rfl) (by kernel_rfl) (by kernel_rfl) (fun _ _ _ h => h) (Or.inl ⟨by rfl, ?_⟩) hHeld ?_
    · intro w' hSw
      go_simp <;> rfl
    try simp only [Act.put, List.getElem_toArray, List.getElem_cons_zero, List.getElem_cons_succ, List.setIfInBounds_toArray, List.set_cons_zero, List.set_cons_succ]
    refine wpAnyH_take (i := 43) (v := .int .i64 oldn) rfl (by kernel_rfl) (by kernel_rfl) (by kernel_rfl) (fun _ _ _ h => h) (Or.inl ⟨by rfl, ?_⟩) hHeld ?_
    · intro w' hSw
      have hx := hSw.2.2.2.2.1
      go_simp <;> rfl
    try simp only [Act.put, List.getElem_toArray, List.getElem_cons_zero, List.getElem_cons_succ, List.setIfInBounds_toArray, List.set_cons_zero, List.set_cons_succ]
    refine wpAnyH_take (i := 44) (v := .bool false) rfl (by kernel_rfl) (by kernel_rfl) (by kernel_rfl) (fun _ _ _ h => h) (Or.inl ⟨by rfl, ?_⟩) hHeld ?_
    · intro w' hSw
      go_simp <;> rfl
    try simp only [Act.put, List.getElem_toArray, List.getElem_cons_zero, List.getElem_cons_succ, List.setIfInBounds_toArray, List.set_cons_zero, List.set_cons_succ]
    refine wpAnyH_take (i := 45) (v := .bool false) rfl (by kernel_rfl) (by kernel_rfl) (by kernel_rfl) (fun _ _ _ h => h) (Or.inl ⟨by rfl, ?_⟩) hHeld ?_
    · intro w' hSw
      go_simp <;> rfl
    try simp only [Act.put, List.getElem_toArray, List.getElem_cons_zero, List.getElem_cons_succ, List.setIfInBounds_toArray, List.set_cons_zero, List.set_cons_succ]
    refine wpAnyH_take (i := 46) (v := .bool false) rfl (by kernel_rfl) (by kernel_rfl) (by kernel_rfl) (fun _ _ _ h => h) (Or.inl ⟨by rfl, ?_⟩) hHeld ?_
    · intro w' hSw
      go_simp <;> rfl
    try simp only [Act.put, List.getElem_toArray, List.getElem_cons_zero, List.getElem_cons_succ, List.setIfInBounds_toArray, List.set_cons_zero, List.set_cons_succ]
    refine wpAnyH_take (i := 47) (v := .pointer (some ⟨w7.heap.size, 1, none⟩)) rfl (by kernel_rfl) (by kernel_rfl) (by kernel_rfl) (fun _ _ _ h => h) (Or.inl ⟨by rfl, ?_⟩) hHeld ?_
    · intro w' hSw
      go_simp <;> rfl
    try simp only [Act.put, List.getElem_toArray, List.getElem_cons_zero, List.getElem_cons_succ, List.setIfInBounds_toArray, List.set_cons_zero, List.set_cons_succ]
    refine wpAnyH_take (i := 48) (v := .int .i64 (hd : Int)) rfl (by kernel_rfl) (by kernel_rfl) (by kernel_rfl) (fun _ _ _ h => h) (Or.inl ⟨by rfl, ?_⟩) hHeld ?_
    · intro w' hSw
      have hx := hSw.2.2.2.2.2.2.2
      go_simp <;> rfl
    try simp only [Act.put, List.getElem_toArray, List.getElem_cons_zero, List.getElem_cons_succ, List.setIfInBounds_toArray, List.set_cons_zero, List.set_cons_succ]
    refine wpAnyH_take (i := 49) (v := .int .i64 (k : Int)) rfl (by kernel_rfl) (by kernel_rfl) (by kernel_rfl) (fun _ _ _ h => h) (Or.inl ⟨by rfl, ?_⟩) hHeld ?_
    · intro w' hSw
      go_simp <;> rfl
    try simp only [Act.put, List.getElem_toArray, List.getElem_cons_zero, List.getElem_cons_succ, List.setIfInBounds_toArray, List.set_cons_zero, List.set_cons_succ]
    refine wpAnyH_take (i := 50) (v := .int .i64 ((k : Int) + 1)) rfl (by kernel_rfl) (by kernel_rfl) (by kernel_rfl) (fun _ _ _ h => h) (Or.inl ⟨by rfl, ?_⟩) hHeld ?_
    · intro w' hSw
      go_simp <;> rfl
    try simp only [Act.put, List.getElem_toArray, List.getElem_cons_zero, List.getElem_cons_succ, List.setIfInBounds_toArray, List.set_cons_zero, List.set_cons_succ]
    refine wpAnyH_take (i := 51) (v := .int .i64 (hd : Int)) rfl (by kernel_rfl) (by kernel_rfl) (by kernel_rfl) (fun _ _ _ h => h) (Or.inl ⟨by rfl, ?_⟩) hHeld ?_
    · intro w' hSw
      go_simp <;> rfl
    try simp only [Act.put, List.getElem_toArray, List.getElem_cons_zero, List.getElem_cons_succ, List.setIfInBounds_toArray, List.set_cons_zero, List.set_cons_succ]
    refine wpAnyH_take (i := 52) (v := .bool false) rfl (by kernel_rfl) (by kernel_rfl) (by kernel_rfl) (fun _ _ _ h => h) (Or.inl ⟨by rfl, ?_⟩) hHeld ?_
    · intro w' hSw
      go_simp <;> rfl
    try simp only [Act.put, List.getElem_toArray, List.getElem_cons_zero, List.getElem_cons_succ, List.setIfInBounds_toArray, List.set_cons_zero, List.set_cons_succ]
    refine wpAnyH_take (i := 53) (v := .bool false) rfl (by kernel_rfl) (by kernel_rfl) (by kernel_rfl) (fun _ _ _ h => h) (Or.inl ⟨by rfl, ?_⟩) hHeld ?_
    · intro w' hSw
      go_simp <;> rfl
    try simp only [Act.put, List.getElem_toArray, List.getElem_cons_zero, List.getElem_cons_succ, List.setIfInBounds_toArray, List.set_cons_zero, List.set_cons_succ]
    refine wpAnyH_done (by kernel_rfl) ?_ _
    clear hHeld
    have N3 : Below W2.heap.size W2 d3 := N.trans (Dd3.mono N.size)
    have HEND : Hid (Below w0.heap.size w0 d3) := B2.trans (N3.mono B2.size)
    have x3 := (HRG.out _ Dd3).2.2.2.2.2.1
    have HPD : Hid (_) := HPC.out d3 Dd3
    have hHK := HHOT.out
    have HHA : Hid (hotsUpto p.seats 3 = true ∨ (p.seats.getD k zeroSt).hot = false) := hHK.imp (fun h => hots_all (by rw [HP3.out]; exact h) 3) id
    clear hHK HRG HPC
    go_wp2_with fail
    go_loop [15, 16] (fun b i => ∃ m : Nat, m ≤ 3 ∧ i = .int .i64 (m : Int) ∧ b = .bool (hotsUpto p.seats m)) (fun _ i => 3 - (intOf i).toNat)
    case atStart => exact ⟨0, Nat.zero_le _, rfl, by simp [hotsUpto]⟩
    case round =>
      obtain ⟨m, hm, rfl, rfl⟩ := hrel
      by_cases hlt : m < 3
      · have hmp : (m : Int) < (pl : Int) := by have := HPL.out; omega
        have hm0 : (0 : Int) ≤ (m : Int) := by omega
        have hc := (HPD.out m hlt).2
        have HSU : Hid (_ = _) := hots_succ p.seats m (by rw [HP3.out]; exact hlt)
        generalize (p.seats.getD m zeroSt).hot = hh at *
        generalize hq : hotsUpto p.seats m = qq at *
        clear hq
        cases qq with
        | true =>
          go_wp2
          go_round
          case rel => exact ⟨m + 1, by omega, by go_num, by rw [HSU.out]; simp⟩
          case measure => simp [intOf]; omega
        | false =>
          go_wp2
          go_round
          case rel => exact ⟨m + 1, by omega, by go_num, by rw [HSU.out]; simp⟩
          case measure => simp [intOf]; omega
      · obtain rfl : m = 3 := by omega
        have hmp : ¬ ((3 : Nat) : Int) < (pl : Int) := by have := HPL.out; omega
        have hc := (HPD.out k hk3).2
        have hHK := HHA.out
        generalize (p.seats.getD k zeroSt).hot = hh at *
        generalize hotsUpto p.seats 3 = qq at *
        rcases hHK with rfl | rfl
        · go_wp2
          go_ret
          exact ⟨rfl, HEND.out⟩
        · cases qq with
          | true =>
            go_wp2
            go_ret
            exact ⟨rfl, HEND.out⟩
          | false =>
            go_wp2
            go_ret
            exact ⟨rfl, HEND.out⟩
end Go.Proofs.YtoboickdkednkaaDoor

/- What the row's condition on errors.errorType gives a walk; a world that meets it. -/
namespace Go.Proofs.YtoboickdkednkaaDoor
open Go.ChangeShapes Go.WideShapes Go.RowKit

theorem Tryd.et : Tryd.prog.globalNamed "errors.errorType" = some 0 := by kernel_rfl
theorem Tryd.rt : (Tryd.prog.cutTypes.find? (·.1 == "internal/reflectlite.rtype")).map (·.2) = some 108 := by kernel_rfl
theorem Tryd.oneRow : ((List.range 151).filter fun t => Tryd.prog.rowNamed t [101, 114, 114, 111, 114]) = [87] := by kernel_rfl
theorem Tryd.typesSize : Tryd.prog.types.size = 151 := by kernel_rfl

theorem errT_of_handles {W : World} {laid : List (String × DataW Unit)} (hm : ("errors.errorType", Rows.laid_errors_errorType) ∈ laid) (h : handlesMet Tryd.prog laid W) : ErrT W := by
  obtain ⟨name, u, ty, e1, e2, e3, e4, e5⟩ := h _ hm
  have en : name = [101, 114, 114, 111, 114] := (Option.some.inj e1).symm
  subst en
  obtain rfl := Option.some.inj (Tryd.rt.symm.trans e2)
  have hm : ty ∈ (List.range 151).filter fun t => Tryd.prog.rowNamed t [101, 114, 114, 111, 114] := List.mem_filter.2 ⟨List.mem_range.2 (by rw [← Tryd.typesSize]; exact e3), e4⟩
  rw [Tryd.oneRow] at hm
  obtain rfl := List.mem_singleton.1 hm
  have hh : typeHandle Tryd.prog 87 = .pointer (some ⟨1, 87, none⟩) := by kernel_rfl
  rw [hh] at e5
  unfold ErrT
  simpa using World.var?_cell Tryd.et e5 0

/-- The one listed variable. -/
def laid1 : List (String × DataW Unit) := [("errors.errorType", Rows.laid_errors_errorType)]
theorem errT_of_laid1 {W : World} (h : laidMetH Tryd.prog laid1 W) : ErrT W := by
  have h' : laidMet Tryd.prog [] W ∧ handlesMet Tryd.prog laid1 W := h
  exact errT_of_handles (List.mem_singleton.2 rfl) h'.2
end Go.Proofs.YtoboickdkednkaaDoor
