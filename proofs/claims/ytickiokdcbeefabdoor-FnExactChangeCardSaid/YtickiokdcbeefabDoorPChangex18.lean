/- Several texts in one, in their order. -/
import Derived.Test.YtickiokdcbeefabDoorPChangex16
import Derived.Test.YtickiokdcbeefabDoorPChangex13
import Derived.Test.YtickiokdcbeefabDoorPChangex15
import Derived.Test.YtickiokdcbeefabDoorPChangex17
import Derived.Test.YtickiokdcbeefabDoorPChangex12
/- The walk of impl.copyPool. -/
namespace Go.Proofs.YtickiokdcbeefabDoor
open Go.RowKit

set_option maxRecDepth 100000 in
theorem build_seats1 {w : World} {ops : Array Oper} {rest : List Oper} {dst : Option Nat} {ty : TypeId} {pos : String} {aft : Array Edge} {act : Act} {Q : Exit → Act → World → Prop} (x : Operand)
    (q : SeatA) (hx : act.eval x = .agg q.cells.toArray)
    (h : wpList Tryd.prog ops Q rest (act.put dst (.slice (some ⟨w.heap.size, 0, none⟩) 1 1)) (w.alloc (.cells q.cells.toArray 51))) :
    wpList Tryd.prog ops Q ({ dst := dst, op := .buildSlice 26 1 #[(0, x)], type := ty, pos := pos, after := aft, guard := none } :: rest) act w := by
  refine wpList_plain rfl fun K hK => ?_
  unfold Oper.wp execOp
  simp only [List.map_toArray, List.map_cons, List.map_nil, hx]
  go_simp
  simp only [cellsSt_len, lit_seat, not_true_eq_false, Nat.lt_irrefl, or_self, if_false]
  go_simp
  exact hK _ _ h

set_option maxHeartbeats 2000000 in
set_option maxRecDepth 100000 in
theorem copyPool_any (l : PoolA) (w : World) (hr : l.reads w) (hl : l.short 1048576) :
    Calls Tryd.prog 29 #[.agg l.cells.toArray] w fun e w' => ∃ t : PoolA, e = .returned (.agg t.cells.toArray) ∧ Hid (t.v = l.v) ∧ t.own w' w.heap.size w'.heap.size ∧ Below w.heap.size w w' := by
  obtain ⟨rs, s, a, c⟩ := l
  have hl2 := (PoolA.short_wide hl).each
  have hl0 := hl.len
  simp only [PoolA.reads, PoolA.cells, PoolA.own] at *
  obtain ⟨W, hW, b0, b1, b2, hbW, hsW⟩ := boxes3 w [.slice a rs.length c, .int .i64 s] [.slice none 0 0, .int .i64 0] [.slice none 0 0, .int .i64 s] 28 28 28
  have hs0 : w.heap.size + 1 + 1 < W.heap.size := by omega
  clear hsW
  have x0 := b0.cell 0 _ rfl
  have HC : Hid (∀ k, k < rs.length → ∃ b off, a = some ⟨b, off, none⟩ ∧ w.rangeAt b (off + k * 20) (rs.getD k zeroSt).cells ∧ (rs.getD k zeroSt).reads w ∧ (rs.getD k zeroSt).short 1099511627776) := fun k hk => by
    obtain ⟨b, off, ha, hc⟩ := hr (by intro e; rw [e] at hk; simp at hk)
    exact ⟨b, off, ha, (hc k hk).1, (hc k hk).2, hl2 _ (seatD_mem rs k hk)⟩
  have HJ : Hid ((Tryd.prog.info? 51).map (·.size) = some 20) := by rw [Hid]; kernel_rfl
  clear hr hl hl2
  go_enter Tryd.func29, Tryd.ntmps29
  go_wp2_with fail
  rw [hW.out]
  clear hW x0
  go_loopw [12] (fun i wr => ∃ (k : Nat) (ts : List SeatA) (a' : Option Addr) (c' : Nat), k ≤ rs.length ∧ i = .int .i64 k ∧ Hid (CameSt rs ts k) ∧ Box wr (w.heap.size + 1 + 1) [.slice a' ts.length c', .int .i64 s] 28 ∧ Box wr (w.heap.size + 1) [.slice none 0 0, .int .i64 0] 28 ∧ OwnSts wr W.heap.size wr.heap.size a' c' ts ∧ Below w.heap.size w wr ∧ W.heap.size ≤ wr.heap.size)
    (fun i _ => rs.length - (intOf i).toNat)
  case atStart => exact ⟨0, [], none, 0, Nat.zero_le _, rfl, cameSt_none rs, b2, b1, ownSts_nil _ _ _ (Nat.le_refl _), hbW, Nat.le_refl _⟩
  case round =>
    obtain ⟨k, ts, a', c', hk, rfl, hc, k2, k1, hown, hnx, hsz⟩ := hrel
    clear b0 b1 b2 hbW
    by_cases hlt : k < rs.length
    · obtain ⟨b, off, rfl, hcell, hrd, hsh⟩ := HC.out k hlt
      have hnw := hnx.size
      have HRG : Hid (wr.rangeAt b (off + k * 20) (rs.getD k zeroSt).cells) := rangeAt_below hcell hnx (rangeSt_lt hcell)
      have HS : Hid (∀ q : SeatA, q.v = (rs.getD k zeroSt).v → CameSt rs (ts ++ [q]) (k + 1)) := fun q hq => hc.out.snoc hlt hq
      have hll : ts.length + 1 ≤ 68719476736 := by have := hc.out.1; omega
      have hrdw := hrd.below hnx
      have hkk : (k : Int) < (rs.length : Int) := by omega
      have hk0 : (0 : Int) ≤ (k : Int) := by omega
      clear hcell HC hrd hc
      generalize rs.getD k zeroSt = z at *
      obtain ⟨W1, hW1, d1, hb1, hs1⟩ := boxes1 wr [.int .i64 0, .int .i64 0, .bool false, .int .i64 0, .slice none 0 0, .slice none 0 0, .bool false, .int .i64 0, .slice none 0 0, .slice none 0 0, .bool false, .int .i64 0, .slice none 0 0, .slice none 0 0, .bool false, .int .i64 0, .slice none 0 0, .slice none 0 0, .bool false, .bool false] 51
      obtain ⟨W2, hW2, hw2, hs2, HT2, _, d2⟩ := seat_out z _ rfl d1
      have hB2 : Below wr.heap.size wr W2 := hb1.trans (hw2.below (Nat.le_refl _) (by omega))
      have xp : W2.rangeAt wr.heap.size 1 z.page.cells := seat_page z d2
      have HIP := Tryd.infoPg z.page rfl
      have C := copyPage_own z.page rfl W2 (hrdw.below hB2) hsh
      have HW2 : Hid (W1.setCells wr.heap.size 0 z.cells.toArray.toList = W2) := hW2.out
      have hOz := seat_one z
      have k22 := k2.below hB2 k2.lt
      have k12 := k1.below hB2 k1.lt
      have o2 := hown.below hB2
      have hn2 : Below w.heap.size w W2 := hnx.trans (hB2.mono hnw)
      have hs2' := hB2.size
      have hd2 := d2.lt
      clear hs1 hs2 d1 hb1 hw2 hW2 hrdw hsh k2 k1 hown hnx
      generalize hpc : z.page.cells = pc at *
      go_wp2_with (first | (guard_target = wpList _ _ _ (Oper.mk (some 15) _ _ _ _ _ :: _) _ _; refine wpList_load_mid rfl 51 (.tmp 14) rfl b (off + k * 20) rfl z.cells _ HRG.out Tryd.underlying51 rfl HJ.out ?_) | (guard_target = wpList _ _ _ (Oper.mk none (Op.store _ (Operand.tmp 5) _) _ _ _ _ :: _) _ _; refine wpList_store_mid rfl 51 (.tmp 5) (.tmp 15) rfl wr.heap.size 0 z.cells.toArray rfl rfl (by rw [hW1.out]; exact HT2.out) HJ.out hOz ?_; rw [hW1.out, HW2.out]) | (guard_target = wpList _ _ _ (Oper.mk (some 17) _ _ _ _ _ :: _) _ _; refine wpList_load_mid rfl 49 (.tmp 16) rfl wr.heap.size 1 rfl pc _ xp Tryd.underlying49 rfl HIP ?_) | fail)
      refine C.mono ?_
      clear C xp HIP HRG hW1 HW2 HT2 hpc
      rintro e w3 ⟨us, rfl, hv, ho, hb3⟩
      obtain ⟨y0, y1, y2, y3, rfl⟩ := four_slots' (ts := us) (by have := congrArg List.length hv.out; simpa [SeatA.page, SeatA.ss] using this)
      have hs3 := hb3.size
      have d3 := d2.below hb3 d2.lt
      obtain ⟨W4, hW4, d4, hw4, hs4, hth4⟩ := seat_fill z d3 z.page.lsn y0 y1 y2 y3
      obtain ⟨q, hq⟩ : ∃ q : SeatA, Hid ((⟨z.no, z.page.lsn, y0, y1, y2, y3, z.dirty, z.hot⟩ : SeatA) = q) := ⟨_, rfl⟩
      rw [hq.out] at d4
      have oq : q.own w3 W2.heap.size w3.heap.size := by rw [← hq.out]; exact ho
      have HV : Hid (q.v = z.v) := by rw [Hid, ← hq.out]; simp only [SeatA.v, SeatA.ss]; rw [show List.map (fun x : SlotA => x.v) [y0, y1, y2, y3] = z.page.ss.map (·.v) from hv.out]; rfl
      have k24 := (k22.below hb3 k22.lt).within hw4 (by omega)
      have k14 := (k12.below hb3 k12.lt).within hw4 (by omega)
      have o4 := (o2.below hb3).within hw4 (.inl (by omega))
      have oq4 := oq.within hw4 (.inr (by omega))
      have hn4 : Below w.heap.size w W4 := (hn2.trans (hb3.mono hn2.size)).trans (hw4.below (by omega) (by omega))
      have rq : W4.rangeAt wr.heap.size 0 q.cells := Box.range [] q.cells [] (by simpa using d4)
      have HI1 := Tryd.infoPg ⟨z.page.lsn, [y0, y1, y2, y3]⟩ rfl
      have HO1 := page_one ⟨z.page.lsn, [y0, y1, y2, y3]⟩
      have HI2 := seat_info q
      have HW4 : Hid (w3.setCells wr.heap.size 1 (PageA.cells ⟨z.page.lsn, [y0, y1, y2, y3]⟩).toArray.toList = W4) := hW4.out
      have e0 := k24.cell 0 _ rfl
      have hs4a := Nat.le_of_eq hs4
      have hs4b := Nat.le_of_eq hs4.symm
      obtain ⟨W5, hW5, d5, hb5, hs5⟩ := boxes1 W4 q.cells 51
      have k25 := k24.below hb5 k24.lt
      have k15 := k14.below hb5 k14.lt
      have o5 := o4.below hb5
      have oq5 := oq4.below hb5
      have hn5 : Below w.heap.size w W5 := hn4.trans (hb5.mono hn4.size)
      have r5 : W5.rangeAt W4.heap.size 0 q.cells := Box.range [] q.cells [] (by simpa using d5)
      have hs5' := hb5.size
      clear hW4 hq hs4 hw4 d3 d4 d2 oq ho hv hb3 k22 k12 o2 k24 k14 o4 oq4 hn2 hn4 hb5 d5 hs5
      generalize PageA.cells ⟨z.page.lsn, [y0, y1, y2, y3]⟩ = pc2 at *
      go_wp2_with (first | (guard_target = wpList _ _ _ (Oper.mk none (Op.store _ (Operand.tmp 19) _) _ _ _ _ :: _) _ _; refine wpList_store_mid rfl 49 (.tmp 19) (.tmp 18) rfl wr.heap.size 1 pc2.toArray rfl rfl hth4 (by rw [List.size_toArray]; exact HI1) HO1 ?_; rw [HW4.out]) | (guard_target = wpList _ _ _ (Oper.mk (some 22) _ _ _ _ _ :: _) _ _; refine wpList_load_mid rfl 51 (.tmp 5) rfl wr.heap.size 0 rfl q.cells _ rq Tryd.underlying51 rfl HI2 ?_) | (guard_target = wpList _ _ _ (Oper.mk (some 23) _ _ _ _ _ :: _) _ _; refine build_seats1 (.tmp 22) q rfl ?_; rw [hW5.out]) | (guard_target = wpList _ _ _ (Oper.mk (some 24) _ _ _ _ _ :: _) _ _; refine append_seat rfl _ _ rfl W.heap.size wr.heap.size a' c' ts rfl o5 W4.heap.size 0 1 q rfl r5 W2.heap.size w3.heap.size oq5 (by omega) (by omega) hll (by omega) ?_) | fail)
      intro a9 c9 w9 o9 g9
      have HCM := HS.out q HV.out
      obtain ⟨ys, hys⟩ : ∃ ys, Hid (ts ++ [q] = ys) := ⟨_, rfl⟩
      have hyl : ts.length + 1 = ys.length := by rw [← hys.out]; simp
      rw [hys.out] at o9 HCM
      rw [hyl]
      clear hyl
      have hw9 : Within W.heap.size wr.heap.size W5 w9 := Within.of_grown g9 (fun j hj => ⟨(o5.row.lt j hj).1, o5.blk j hj⟩)
      have hs9 := hw9.size
      have hn9 : Below w.heap.size w w9 := hn5.trans (hw9.below (by omega) (by omega))
      have k29 := k25.within hw9 (by omega)
      have k19 := k15.within hw9 (by omega)
      have m0 := k29.cell 0 _ rfl
      have mf0 := k29.frozen 0
      obtain ⟨WF, hWF, kF, hwF, hsF⟩ := box_set k29 0 (.slice a9 ys.length c9)
      simp only [List.set] at kF
      have hsFa := Nat.le_of_eq hsF
      have hsFb := Nat.le_of_eq hsF.symm
      have k1F := k19.within hwF (by omega)
      have oF := (o9.within hwF (.inr (by omega))).widen (Nat.le_refl _) hsFb (Nat.le_refl _)
      have hnF : Below w.heap.size w WF := hn9.trans (hwF.below (by omega) (by omega))
      clear hwF k29 k19 o9 hsF g9 hw9 e0 k25 k15 o5 oq5 r5 rq HW4 hW5
      go_wp2_with fail
      rw [hWF.out]
      go_roundw
      case rel => exact ⟨k + 1, ys, a9, c9, by omega, by go_num, HCM, kF, k1F, oF, hnF, by omega⟩
      case measure => simp [intOf]; omega
    · have HE : Hid (ts.map SeatA.v = rs.map SeatA.v) := by
        have e : k = rs.length := by omega
        rw [e] at hc
        exact hc.out.all
      have e0 := k2.cell 0 _ rfl
      have e1 := k2.cell 1 _ rfl
      have m0 := k1.cell 0 _ rfl
      have m1 := k1.cell 1 _ rfl
      have mf0 := k1.frozen 0
      have mf1 := k1.frozen 1
      obtain ⟨WF, hWF, bF, hwF, hsF⟩ := box2_fill k1 (.slice a' ts.length c') (.int .i64 s)
      have q0 := bF.cell 0 _ rfl
      have q1 := bF.cell 1 _ rfl
      have hoF := (hown.within hwF (.inr (by omega))).widen (show w.heap.size ≤ W.heap.size by omega) (show wr.heap.size ≤ WF.heap.size by omega) (Nat.le_refl _)
      have hbF : Below w.heap.size w WF := hnx.trans (hwF.below (by omega) (by have := hnx.size; omega))
      clear hwF hsF bF
      go_wp2
      rw [hWF.out]
      exact bodyPost_ret (v := .agg #[.slice a' ts.length c', .int .i64 s]) (by simp [results, Tryd.results29, go_sem, q0, q1]) rfl ⟨⟨ts, s, a', c'⟩, rfl, by simp only [Hid, PoolA.v]; rw [HE.out], hoF, hbF⟩
end Go.Proofs.YtickiokdcbeefabDoor
