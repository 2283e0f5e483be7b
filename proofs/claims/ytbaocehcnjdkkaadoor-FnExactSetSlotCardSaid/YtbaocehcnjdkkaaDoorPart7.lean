/- Several texts in one, in their order. -/
import Derived.Test.YtbaocehcnjdkkaaDoorPart6
import Derived.Test.YtbaocehcnjdkkaaDoorPart4
import Derived.Test.YtbaocehcnjdkkaaDoorPart1
import Derived.Deep.RegionHeld3
/- The walks of laws.markSlotA4, markPage, heldSlotA4, heldPage. -/
namespace Go.Proofs.YtbaocehcnjdkkaaDoor
open Go.RowKit

theorem fit_at {ss : List SlotA} (h : Fit ss) {k : Nat} (hk : k < ss.length) : (ss.getD k zeroS).v.o.ints.length ≤ 1099511627776 ∧ (ss.getD k zeroS).v.o.refs.length ≤ 1099511627776 := h _ (getD_mem hk)

set_option maxHeartbeats 1000000 in
set_option maxRecDepth 100000 in
theorem markSlotA4_touch (ss : List SlotA) (h4 : ss.length = 4) (lo hi : Nat) (k0 : Int) (w : World) (ho : OwnS w lo hi ss) (hl : Fit ss) (h0 : 0 ≤ k0) (hk : k0 ≤ 10995116277760) (hhi : hi ≤ w.heap.size) :
    Calls Tryd.prog 61 #[.agg (cellsS ss).toArray, .int .i64 k0] w fun e w' => e = .returned (.int .i64 (k0 + countS ss)) ∧ OwnS w' lo hi (markSs ss k0) ∧ Touch (ss.flatMap SlotA.blocks) w w' := by
  obtain ⟨W, hW, b0, hbW, hsW⟩ := boxes1 w (cellsS ss) 29
  have H4 : Hid (ss.length = 4) := h4
  have HB : Hid (w.heap.size ∉ ss.flatMap SlotA.blocks) := fun hh => by have := (ho.blocks_lt _ hh).2; omega
  clear hsW h4
  go_enter Tryd.func61, Tryd.ntmps61
  go_wp2_with fail
  rw [hW.out]
  clear hW
  go_loopw [1, 5] (fun kk i wr => ∃ (j : Nat) (c : Nat), i = .int .i64 j ∧ kk = .int .i64 (k0 + c) ∧ j ≤ 4 ∧ Hid (c = countS (ss.take j)) ∧ OwnS wr lo hi (markSs (ss.take j) k0 ++ ss.drop j) ∧ Touch (ss.flatMap SlotA.blocks) W wr)
    (fun _ i _ => 4 - (intOf i).toNat)
  case atStart => exact ⟨0, 0, rfl, by simp, by omega, rfl, by simpa [markSs] using ho.below hbW, Touch.refl _ _⟩
  case round =>
    obtain ⟨j, c, rfl, rfl, hj, hcj, hown, htr⟩ := hrel
    have b0r := b0.touch htr HB.out
    have hc0 : c ≤ 8796093022208 := by
      have h1 := countS_le (ss.take j) 1099511627776 (fun s hs => hl s (List.mem_of_mem_take hs))
      rw [List.length_take] at h1
      have h2 : min j ss.length * (2 * 1099511627776) ≤ 4 * (2 * 1099511627776) := Nat.mul_le_mul_right _ (by omega)
      rw [hcj.out]; omega
    by_cases hlt : j < 4
    · have hkl : j < ss.length := by rw [H4.out]; exact hlt
      obtain ⟨c0, c1, c2, c3, _⟩ := b0r.slot j hkl
      obtain ⟨hd, htk⟩ := take_split ss j hkl
      have hlk := fit_at hl hkl
      rw [hd] at hown
      have HC : Hid (countS (ss.take (j + 1)) = countS (ss.take j) + (ss.getD j zeroS).count) := by rw [Hid, htk, countS_snoc]
      have HM : Hid (markSs (ss.take (j + 1)) k0 ++ ss.drop (j + 1) = markSs (ss.take j) k0 ++ (ss.getD j zeroS).mark (k0 + countS (ss.take j)) :: ss.drop (j + 1)) := by rw [Hid, htk, markSs_snoc]; simp
      have HS : Hid (∀ k ∈ (ss.getD j zeroS).blocks, k ∈ ss.flatMap SlotA.blocks) := fun k hk => List.mem_flatMap.2 ⟨_, getD_mem hkl, hk⟩
      have hos : (ss.getD j zeroS).own wr lo hi := hown.each _ (by simp)
      clear hd htk
      generalize ss.getD j zeroS = s at *
      have C := markSlot_touch s lo hi (k0 + c) wr hos (by omega) hlk.1 hlk.2 (by omega)
      simp only [SlotA.cells] at C
      have hi0 : (0 : Int) ≤ (j : Int) := by omega
      have hi4 : (j : Int) < 4 := by omega
      go_wp2_with fail
      refine C.mono ?_
      clear C c0 c1 c2 c3
      rintro e w1 ⟨rfl, ho1, ht1⟩
      have HO : OwnS w1 lo hi (markSs (ss.take (j + 1)) k0 ++ ss.drop (j + 1)) := by
        rw [HM.out, ← hcj.out]
        exact hown.replace ht1 ho1 (mark_blocks _ _)
      have HT : Touch (ss.flatMap SlotA.blocks) W w1 := htr.trans (ht1.mono HS.out)
      have HCC : Hid (c + s.count = countS (ss.take (j + 1))) := by rw [Hid, HC.out, hcj.out]
      clear hown ho1 ht1 hos
      go_wp2_with fail
      go_roundw
      case rel => exact ⟨j + 1, c + s.count, by go_num, by congr 1; omega, by omega, HCC, HO, HT⟩
      case measure => simp [intOf]; omega
    · obtain rfl : j = 4 := by omega
      have hkk : ¬ ((4 : Nat) : Int) < 4 := by omega
      have HE : Hid (ss.take 4 = ss ∧ ss.drop 4 = []) := ⟨List.take_of_length_le (by rw [H4.out]; omega), List.drop_eq_nil_of_le (by rw [H4.out]; omega)⟩
      go_wp2
      go_ret
      refine ⟨ret_int (by rw [hcj.out, HE.out.1]), ?_, (Touch.of_below hbW).trans htr⟩
      rw [HE.out.1, HE.out.2, List.append_nil] at hown
      exact hown

set_option maxHeartbeats 1000000 in
set_option maxRecDepth 100000 in
theorem heldSlotA4_any (ss : List SlotA) (h4 : ss.length = 4) (lo hi : Nat) (k0 : Int) (w : World) (ho : OwnS w lo hi (markSs ss k0)) (hl : Fit ss) (h0 : 0 ≤ k0) (hk : k0 ≤ 10995116277760) :
    Calls Tryd.prog 66 #[.agg (cellsS ss).toArray, .int .i64 k0] w fun e w' => e = .returned (.int .i64 (k0 + countS ss)) ∧ Below w.heap.size w w' := by
  obtain ⟨W, hW, b0, hbW, hsW⟩ := boxes1 w (cellsS ss) 29
  have H4 : Hid (ss.length = 4) := h4
  clear hsW h4
  go_enter Tryd.func66, Tryd.ntmps66
  go_wp2_with fail
  rw [hW.out]
  clear hW
  go_loopw [1, 5] (fun kk i wr => ∃ (j : Nat) (c : Nat), i = .int .i64 j ∧ kk = .int .i64 (k0 + c) ∧ j ≤ 4 ∧ Hid (c = countS (ss.take j)) ∧ Below W.heap.size W wr)
    (fun _ i _ => 4 - (intOf i).toNat)
  case atStart => exact ⟨0, 0, rfl, by simp, by omega, rfl, Below.refl _ _⟩
  case round =>
    obtain ⟨j, c, rfl, rfl, hj, hcj, hbl⟩ := hrel
    have b0r := b0.below hbl b0.lt
    have hbT : Below w.heap.size w wr := hbW.trans (hbl.mono hbW.size)
    have hc0 : c ≤ 8796093022208 := by
      have h1 := countS_le (ss.take j) 1099511627776 (fun s hs => hl s (List.mem_of_mem_take hs))
      rw [List.length_take] at h1
      have h2 : min j ss.length * (2 * 1099511627776) ≤ 4 * (2 * 1099511627776) := Nat.mul_le_mul_right _ (by omega)
      rw [hcj.out]; omega
    by_cases hlt : j < 4
    · have hkl : j < ss.length := by rw [H4.out]; exact hlt
      obtain ⟨c0, c1, c2, c3, _⟩ := b0r.slot j hkl
      obtain ⟨hd, htk⟩ := take_split ss j hkl
      have hlk := fit_at hl hkl
      have HC : Hid (countS (ss.take (j + 1)) = countS (ss.take j) + (ss.getD j zeroS).count) := by rw [Hid, htk, countS_snoc]
      have hos : ((ss.getD j zeroS).mark (k0 + c)).own wr lo hi := by
        have := ho.each _ (markSs_at ss k0 j hkl)
        rw [← hcj.out] at this
        exact OwnO.below this hbT
      clear hd htk
      generalize ss.getD j zeroS = s at *
      have C := heldSlot_any s lo hi (k0 + c) wr hos (by omega) hlk.1 hlk.2 (by omega)
      simp only [SlotA.cells] at C
      have hi0 : (0 : Int) ≤ (j : Int) := by omega
      have hi4 : (j : Int) < 4 := by omega
      go_wp2_with fail
      refine C.mono ?_
      clear C c0 c1 c2 c3
      rintro e w1 ⟨rfl, hb1⟩
      have hnn : ¬ (k0 + (c : Int) + (s.count : Int)) < 0 := by omega
      have HCC : Hid (c + s.count = countS (ss.take (j + 1))) := by rw [Hid, HC.out, hcj.out]
      clear hos
      go_wp2_with fail
      go_roundw
      case rel => exact ⟨j + 1, c + s.count, by go_num, by congr 1; omega, by omega, HCC, hbl.trans (hb1.mono hbl.size)⟩
      case measure => simp [intOf]; omega
    · obtain rfl : j = 4 := by omega
      have hkk : ¬ ((4 : Nat) : Int) < 4 := by omega
      have HE : Hid (ss.take 4 = ss) := List.take_of_length_le (by rw [H4.out]; omega)
      go_wp2
      go_ret
      exact ⟨ret_int (by rw [hcj.out, HE.out]), hbT⟩

set_option maxHeartbeats 400000 in
set_option maxRecDepth 100000 in
theorem markPage_touch (p : PageA) (h4 : p.ss.length = 4) (lo hi : Nat) (k0 : Int) (w : World) (ho : OwnS w lo hi p.ss) (hl : Fit p.ss) (h0 : 0 ≤ k0) (hk : k0 ≤ 10995116277760) (hhi : hi ≤ w.heap.size) :
    Calls Tryd.prog 24 #[.agg p.cells.toArray, .int .i64 k0] w fun e w' => e = .returned (.int .i64 (k0 + countS p.ss)) ∧ OwnS w' lo hi (markSs p.ss k0) ∧ Touch (p.ss.flatMap SlotA.blocks) w w' := by
  obtain ⟨n, ss⟩ := p
  simp only [PageA.cells] at *
  obtain ⟨W, hW, b0, hbW, hsW⟩ := boxes1 w (.int .i64 n :: cellsS ss) 31
  have hrg0 : W.rangeAt w.heap.size 1 (cellsS ss) := Box.range [.int .i64 n] (cellsS ss) [] (by simpa using b0)
  have hi0 : (Tryd.prog.info? 29).map (·.size) = some (cellsS ss).length := by rw [cellsS_len, h4]; kernel_rfl
  have hs0 := hbW.size
  go_enter Tryd.func24, Tryd.ntmps24
  go_wp2_with (first | (guard_target = wpList _ _ _ (Oper.mk (some 6) _ _ _ _ _ :: _) _ _; refine wpList_load_mid rfl 29 (.tmp 5) rfl w.heap.size 1 rfl (cellsS ss) _ (by rw [hW.out]; exact hrg0) Tryd.underlying29 rfl hi0 ?_) | fail)
  rw [hW.out]
  clear hW hrg0 hi0 hsW
  refine (markSlotA4_touch ss h4 lo hi k0 W (ho.below hbW) hl h0 hk (by omega)).mono ?_
  rintro e w1 ⟨rfl, ho1, ht1⟩
  go_wp2
  go_ret
  exact ⟨rfl, ho1, (Touch.of_below hbW).trans ht1⟩

set_option maxHeartbeats 400000 in
set_option maxRecDepth 100000 in
theorem heldPage_any (p : PageA) (h4 : p.ss.length = 4) (lo hi : Nat) (k0 : Int) (w : World) (ho : OwnS w lo hi (markSs p.ss k0)) (hl : Fit p.ss) (h0 : 0 ≤ k0) (hk : k0 ≤ 10995116277760) :
    Calls Tryd.prog 29 #[.agg p.cells.toArray, .int .i64 k0] w fun e w' => e = .returned (.int .i64 (k0 + countS p.ss)) ∧ Below w.heap.size w w' := by
  obtain ⟨n, ss⟩ := p
  simp only [PageA.cells] at *
  obtain ⟨W, hW, b0, hbW, hsW⟩ := boxes1 w (.int .i64 n :: cellsS ss) 31
  have hrg0 : W.rangeAt w.heap.size 1 (cellsS ss) := Box.range [.int .i64 n] (cellsS ss) [] (by simpa using b0)
  have hi0 : (Tryd.prog.info? 29).map (·.size) = some (cellsS ss).length := by rw [cellsS_len, h4]; kernel_rfl
  go_enter Tryd.func29, Tryd.ntmps29
  go_wp2_with (first | (guard_target = wpList _ _ _ (Oper.mk (some 6) _ _ _ _ _ :: _) _ _; refine wpList_load_mid rfl 29 (.tmp 5) rfl w.heap.size 1 rfl (cellsS ss) _ (by rw [hW.out]; exact hrg0) Tryd.underlying29 rfl hi0 ?_) | fail)
  rw [hW.out]
  clear hW hrg0 hi0 hsW
  refine (heldSlotA4_any ss h4 lo hi k0 W (ho.below hbW) hl h0 hk).mono ?_
  rintro e w1 ⟨rfl, hb1⟩
  have hnn : ¬ (k0 + (countS ss : Int)) < 0 := by omega
  go_wp2
  go_ret
  exact ⟨rfl, hbW.trans (hb1.mono hbW.size)⟩
end Go.Proofs.YtbaocehcnjdkkaaDoor

/- The walk of laws.toPage. -/
namespace Go.Proofs.YtbaocehcnjdkkaaDoor
open Go.RowKit

set_option maxHeartbeats 1000000 in
set_option maxRecDepth 100000 in
theorem toPage_own (p : PageA) (h4 : p.ss.length = 4) (w : World) (hr : ReadsS w p.ss) (hl : ∀ s ∈ p.ss, s.v.o.ints.length ≤ 1099511627776 ∧ s.v.o.refs.length ≤ 1099511627776) :
    Calls Tryd.prog 20 #[.agg p.cells.toArray] w fun e w' => ∃ ts : List SlotA, e = .returned (.agg (PageA.cells ⟨p.lsn, ts⟩).toArray) ∧ Hid (ts.map (·.v) = p.ss.map (·.v)) ∧ OwnS w' w.heap.size w'.heap.size ts ∧ Below w.heap.size w w' := by
  obtain ⟨n, ss⟩ := p
  simp only [PageA.cells] at *
  obtain ⟨W, hW, b0, b1, b2, hbW, hsW⟩ := boxes3 w (.int .i64 n :: cellsS ss) [.int .i64 0, .bool false, .int .i64 0, .slice none 0 0, .slice none 0 0, .bool false, .int .i64 0, .slice none 0 0, .slice none 0 0, .bool false, .int .i64 0, .slice none 0 0, .slice none 0 0, .bool false, .int .i64 0, .slice none 0 0, .slice none 0 0] [.int .i64 n, .bool false, .int .i64 0, .slice none 0 0, .slice none 0 0, .bool false, .int .i64 0, .slice none 0 0, .slice none 0 0, .bool false, .int .i64 0, .slice none 0 0, .slice none 0 0, .bool false, .int .i64 0, .slice none 0 0, .slice none 0 0] 47 31 31
  have b1' : Box W (w.heap.size + 1) ([] ++ ((.int .i64 0 :: cellsS zero4) ++ [])) 31 := b1
  have b2' : Box W (w.heap.size + 1 + 1) ([.int .i64 n] ++ (cellsS zero4 ++ [])) 31 := b2
  have hsW' : w.heap.size + 1 + 1 < W.heap.size := by omega
  clear b1 b2 hsW
  have hc0 := (box_new w (.int .i64 n :: cellsS ss) 47).cell 0 _ rfl
  have hrg0 : W.rangeAt w.heap.size 1 (cellsS ss) := Box.range [.int .i64 n] (cellsS ss) [] (by simpa using b0)
  have hi0 : (Tryd.prog.info? 45).map (·.size) = some (cellsS ss).length := by rw [cellsS_len, h4]; kernel_rfl
  go_enter Tryd.func20, Tryd.ntmps20
  go_wp2_with (first | (guard_target = wpList _ _ _ (Oper.mk (some 8) _ _ _ _ _ :: _) _ _; refine wpList_load_mid rfl 45 (.tmp 7) rfl w.heap.size 1 rfl (cellsS ss) _ (by rw [hW.out]; exact hrg0) Tryd.underlying45 rfl hi0 ?_) | fail)
  rw [hW.out]
  clear hW hrg0 hi0 hc0
  refine (toSlotA4_own ss h4 W (hr.below hbW) hl).mono ?_
  rintro e w1 ⟨ts, rfl, hv, ho, hb1⟩
  have htl : ts.length = 4 := by have := congrArg List.length hv.out; simp only [List.length_map] at this; omega
  have hs1 := hb1.size
  have b11 := b1'.below hb1 b1'.lt
  have b21 := b2'.below hb1 b2'.lt
  obtain ⟨W2, hW2, b22, hw2, hs2⟩ := range_fill [.int .i64 n] (cellsS zero4) (cellsS ts) [] b21 (by rw [cellsS_len, cellsS_len, htl]; rfl)
  have hW2' : w1.setCells (w.heap.size + 1 + 1) 1 (cellsS ts) = W2 := hW2.out
  have b12 := b11.within hw2 (by omega)
  obtain ⟨WF, hWF, bF, hwF, hsF⟩ := range_fill [] (.int .i64 0 :: cellsS zero4) (.int .i64 n :: cellsS ts) [] b12 (by simp only [List.length_cons, cellsS_len, htl]; rfl)
  have hWF' : W2.setCells (w.heap.size + 1) 0 (.int .i64 n :: cellsS ts) = WF := hWF.out
  have ht2 : w1.there (w.heap.size + 1 + 1) 1 (cellsS ts).toArray.size := b21.there 1 _ (by simp only [List.size_toArray, cellsS_len, htl, List.length_append, List.length_cons, List.length_nil]; decide)
  have hr2 : W2.rangeAt (w.heap.size + 1 + 1) 0 (.int .i64 n :: cellsS ts) := Box.range [] (.int .i64 n :: cellsS ts) [] (by simpa using b22)
  have htF : W2.there (w.heap.size + 1) 0 (.int .i64 n :: cellsS ts).toArray.size := b12.there 0 _ (by simp only [List.size_toArray, cellsS_len, htl, List.length_append, List.length_cons, List.length_nil]; decide)
  have hrF : WF.rangeAt (w.heap.size + 1) 0 (.int .i64 n :: cellsS ts) := Box.range [] (.int .i64 n :: cellsS ts) [] (by simpa using bF)
  have hi4 : (Tryd.prog.info? 29).map (·.size) = some (cellsS ts).toArray.size := by rw [List.size_toArray, cellsS_len, htl]; kernel_rfl
  have hi7 : (Tryd.prog.info? 31).map (·.size) = some (.int .i64 n :: cellsS ts).length := by rw [List.length_cons, cellsS_len, htl]; kernel_rfl
  have h1S := all_oneCell_toArray (oneS ts)
  have h1P := all_oneCell_toArray (oneP ⟨n, ts⟩)
  simp only [PageA.cells] at h1P
  have hlF := run_loadVar_mid (P := Tryd.prog) WF (w.heap.size + 1) 0 31 (.int .i64 n :: cellsS ts) _ hrF Tryd.underlying31 rfl hi7
  have hbF : Below w.heap.size w WF := ((hbW.trans (hb1.mono (by omega))).trans (hw2.below (by omega) (by omega))).trans (hwF.below (by omega) (by omega))
  have hoF : OwnS WF w.heap.size WF.heap.size ts := ((ho.within hw2 (.inr (by omega))).within hwF (.inr (by omega))).widen (by omega) (by omega) (Nat.le_refl _)
  have HF : Hid (_ ∧ _ ∧ _) := ⟨hlF, hbF, hoF⟩
  have HA : Hid (_ ∧ _ ∧ _) := ⟨ht2, hr2, htF⟩
  have HI : Hid (_ ∧ _) := ⟨hi4, hi7⟩
  have HO : Hid (_ ∧ _) := ⟨h1S, h1P⟩
  have HW2 : Hid (_ = _) := hW2'
  have HWF : Hid (_ = _) := hWF'
  clear hlF hbF hoF ht2 hr2 htF hi4 hi7 h1S h1P hW2' hWF' hrF hs2 hsF hw2 hwF b22 b12 b11 b21 bF hW2 hWF b0 b1' b2' hb1 hbW htl
  go_wp2_with (first | (guard_target = wpList _ _ _ (Oper.mk none (Op.store _ (Operand.tmp 10) _) _ _ _ _ :: _) _ _; refine wpList_store_mid rfl 29 (.tmp 10) (.tmp 9) rfl (w.heap.size + 1 + 1) 1 (cellsS ts).toArray rfl rfl HA.out.1 HI.out.1 HO.out.1 ?_) | (guard_target = wpList _ _ _ (Oper.mk (some 11) _ _ _ _ _ :: _) _ _; refine wpList_load_mid rfl 31 (.tmp 3) rfl (w.heap.size + 1 + 1) 0 rfl (.int .i64 n :: cellsS ts) _ (by rw [HW2.out]; exact HA.out.2.1) Tryd.underlying31 rfl HI.out.2 ?_) | (guard_target = wpList _ _ _ (Oper.mk none (Op.store _ (Operand.tmp 2) _) _ _ _ _ :: _) _ _; refine wpList_store_mid rfl 31 (.tmp 2) (.tmp 11) rfl (w.heap.size + 1) 0 (.int .i64 n :: cellsS ts).toArray rfl rfl (by rw [HW2.out]; exact HA.out.2.2) (by rw [List.size_toArray]; exact HI.out.2) HO.out.2 ?_) | fail)
  rw [HW2.out, HWF.out]
  exact bodyPost_ret (v := .agg (.int .i64 n :: cellsS ts).toArray) (results_one Tryd.results20 rfl HF.out.1) rfl ⟨ts, rfl, hv, HF.out.2.2, HF.out.2.1⟩
end Go.Proofs.YtbaocehcnjdkkaaDoor

/- The walks of laws.szIntS and szObj. -/
namespace Go.Proofs.YtbaocehcnjdkkaaDoor
open Go.RowKit

/-- What is left of a size. -/
def szOf (n : Nat) (left : Int) : Int := if left - n < 0 then -1 else left - n

set_option maxHeartbeats 400000 in
theorem szIntS_any (a : Option Addr) (c n : Nat) (left : Int) (w : World) (hn : n ≤ 9223372036854775807) (h0 : 0 ≤ left ∧ left ≤ 1048576) :
    Calls Tryd.prog 98 #[.slice a n c, .int .i64 left] w fun e w' => e = .returned (.int .i64 (szOf n left)) ∧ w' = w := by
  by_cases h : left - n < 0
  · have HS : Hid (szOf n left = -1) := by unfold szOf; rw [Hid, if_pos h]
    go_enter Tryd.func98, Tryd.ntmps98
    go_wp2
    go_ret
    exact ⟨ret_int HS.out.symm, rfl⟩
  · have HS : Hid (szOf n left = left - n) := by unfold szOf; rw [Hid, if_neg h]
    go_enter Tryd.func98, Tryd.ntmps98
    go_wp2
    go_ret
    exact ⟨ret_int HS.out.symm, rfl⟩

def szObjOf (o : ObjV) (left : Int) : Int := if left - o.ints.length < 0 then -1 else if left - o.ints.length - o.refs.length < 0 then -1 else left - o.ints.length - o.refs.length

set_option maxHeartbeats 400000 in
set_option maxRecDepth 100000 in
theorem szObj_any (o : ObjV) (aI : Option Addr) (cI : Nat) (aR : Option Addr) (cR : Nat) (left : Int) (w : World) (hnI : o.ints.length ≤ 9223372036854775807) (hnR : o.refs.length ≤ 9223372036854775807) (h0 : 0 ≤ left ∧ left ≤ 1048576) :
    Calls Tryd.prog 67 #[.agg #[.int .i64 o.kind, .slice aI o.ints.length cI, .slice aR o.refs.length cR], .int .i64 left] w fun e w' => e = .returned (.int .i64 (szObjOf o left)) ∧ Below w.heap.size w w' := by
  obtain ⟨k, ints, refs⟩ := o
  simp only at *
  obtain ⟨W, hW, b0, hbW, hsW⟩ := boxes1 w [.int .i64 k, .slice aI ints.length cI, .slice aR refs.length cR] 42
  have c2 := b0.cell 2 _ rfl
  by_cases h : left - ints.length < 0
  · have HS : Hid (szObjOf ⟨k, ints, refs⟩ left = -1) := by unfold szObjOf; rw [Hid, if_pos h]
    have HZ : Hid (szOf ints.length left = -1) := by unfold szOf; rw [Hid, if_pos h]
    go_enter Tryd.func67, Tryd.ntmps67
    go_wp2_with fail
    rw [hW.out]
    refine (szIntS_any aI cI ints.length left W hnI h0).mono ?_
    rintro e w' ⟨rfl, rfl⟩
    rw [HZ.out]
    go_wp2
    go_ret
    exact ⟨ret_int HS.out.symm, hbW⟩
  · have HZ : Hid (szOf ints.length left = left - ints.length) := by unfold szOf; rw [Hid, if_neg h]
    have hn1 : ¬ left < ints.length := by omega
    by_cases h2 : left - ints.length - refs.length < 0
    · have HS : Hid (szObjOf ⟨k, ints, refs⟩ left = -1) := by unfold szObjOf; rw [Hid, if_neg h, if_pos h2]
      have HZ2 : Hid (szOf refs.length (left - ints.length) = -1) := by unfold szOf; rw [Hid, if_pos h2]
      go_enter Tryd.func67, Tryd.ntmps67
      go_wp2_with fail
      rw [hW.out]
      refine (szIntS_any aI cI ints.length left W hnI h0).mono ?_
      rintro e w' ⟨rfl, rfl⟩
      rw [HZ.out]
      go_wp2_with fail
      refine (szIntS_any aR cR refs.length (left - ints.length) _ hnR (by omega)).mono ?_
      rintro e w' ⟨rfl, rfl⟩
      rw [HZ2.out]
      go_wp2
      go_ret
      exact ⟨ret_int HS.out.symm, hbW⟩
    · have HS : Hid (szObjOf ⟨k, ints, refs⟩ left = left - ints.length - refs.length) := by unfold szObjOf; rw [Hid, if_neg h, if_neg h2]
      have HZ2 : Hid (szOf refs.length (left - ints.length) = left - ints.length - refs.length) := by unfold szOf; rw [Hid, if_neg h2]
      go_enter Tryd.func67, Tryd.ntmps67
      go_wp2_with fail
      rw [hW.out]
      refine (szIntS_any aI cI ints.length left W hnI h0).mono ?_
      rintro e w' ⟨rfl, rfl⟩
      rw [HZ.out]
      go_wp2_with fail
      refine (szIntS_any aR cR refs.length (left - ints.length) _ hnR (by omega)).mono ?_
      rintro e w' ⟨rfl, rfl⟩
      rw [HZ2.out]
      go_wp2
      go_ret
      exact ⟨ret_int HS.out.symm, hbW⟩

end Go.Proofs.YtbaocehcnjdkkaaDoor

/- The walks of laws.szSlot, szSlotA4, szPage. -/
namespace Go.Proofs.YtbaocehcnjdkkaaDoor
open Go.RowKit

/-- What a size's reckoner answers: below 0, or what is left, and these slots are small. -/
def SzAns (ss : List SlotA) (left z : Int) : Prop := z < 0 ∨ (0 ≤ z ∧ z ≤ left ∧ ∀ s ∈ ss, s.v.o.ints.length ≤ 1048576 ∧ s.v.o.refs.length ≤ 1048576)

theorem szAns_obj (s : SlotA) (left : Int) (h : 0 ≤ left ∧ left ≤ 1048576) : SzAns [s] left (szObjOf s.v.o left) := by
  unfold SzAns szObjOf
  split
  · exact .inl (by omega)
  · split
    · exact .inl (by omega)
    · exact .inr ⟨by omega, by omega, by intro t ht; obtain rfl := List.mem_singleton.1 ht; omega⟩
def Small (ss : List SlotA) : Prop := ∀ s ∈ ss, s.v.o.ints.length ≤ 9223372036854775807 ∧ s.v.o.refs.length ≤ 9223372036854775807

set_option maxHeartbeats 400000 in
set_option maxRecDepth 100000 in
theorem szSlot_any (s : SlotA) (left : Int) (w : World) (hn : Small [s]) (h0 : 0 ≤ left ∧ left ≤ 1048576) :
    Calls Tryd.prog 30 #[.agg s.cells.toArray, .int .i64 left] w fun e w' => ∃ z, e = .returned (.int .i64 z) ∧ SzAns [s] left z ∧ Below w.heap.size w w' := by
  have HA : Hid _ := szAns_obj s left h0
  obtain ⟨h1, h2⟩ := hn s (List.mem_singleton.2 rfl)
  obtain ⟨W, hW, b0, hbW, hsW⟩ := boxes1 w s.cells 44
  simp only [SlotA.cells] at *
  go_enter Tryd.func30, Tryd.ntmps30
  go_wp2_with fail
  rw [hW.out]
  refine (szObj_any s.v.o s.aI s.cI s.aR s.cR left W h1 h2 h0).mono ?_
  rintro e w1 ⟨rfl, hb1⟩
  generalize szObjOf s.v.o left = z at *
  clear hsW
  by_cases hz : z < 0
  · go_wp2
    go_ret
    exact ⟨-1, rfl, .inl (by omega), hbW.trans (hb1.mono hbW.size)⟩
  · go_wp2
    go_ret
    exact ⟨z, rfl, HA.out, hbW.trans (hb1.mono hbW.size)⟩

set_option maxHeartbeats 400000 in
set_option maxRecDepth 100000 in
theorem szSlotA4_any (ss : List SlotA) (h4 : ss.length = 4) (left : Int) (w : World) (hn : Small ss) (h0 : 0 ≤ left ∧ left ≤ 1048576) :
    Calls Tryd.prog 55 #[.agg (cellsS ss).toArray, .int .i64 left] w fun e w' => ∃ z, e = .returned (.int .i64 z) ∧ SzAns ss left z ∧ Below w.heap.size w w' := by
  obtain ⟨W, hW, b0, hbW, hsW⟩ := boxes1 w (cellsS ss) 45
  have H4 : Hid (ss.length = 4) := h4
  clear hsW h4
  go_enter Tryd.func55, Tryd.ntmps55
  go_wp2_with fail
  rw [hW.out]
  clear hW
  go_loopw [1, 5] (fun l i wr => ∃ (k : Nat) (z : Int), i = .int .i64 k ∧ l = .int .i64 z ∧ k ≤ 4 ∧ (0 ≤ z ∧ z ≤ left) ∧ Hid (∀ s ∈ ss.take k, s.v.o.ints.length ≤ 1048576 ∧ s.v.o.refs.length ≤ 1048576) ∧ Below W.heap.size W wr)
    (fun _ i _ => 4 - (intOf i).toNat)
  case atStart => exact ⟨0, left, rfl, rfl, by omega, by omega, by intro s hs; simp at hs, Below.refl _ _⟩
  case round =>
    obtain ⟨k, z, rfl, rfl, hk, hz, hsm, hbl⟩ := hrel
    have b0r := b0.below hbl b0.lt
    by_cases hlt : k < 4
    · have hkl : k < ss.length := by rw [H4.out]; exact hlt
      obtain ⟨c0, c1, c2, c3, _⟩ := b0r.slot k hkl
      have hnk : Small [ss.getD k zeroS] := fun s hs => by obtain rfl := List.mem_singleton.1 hs; exact hn _ (getD_mem hkl)
      have HV : Hid (∀ s ∈ ss.take (k + 1), s ∈ ss.take k ∨ s = ss.getD k zeroS) := by
        intro s hs
        rw [List.take_add_one, List.mem_append] at hs
        rcases hs with hs | hs
        · exact .inl hs
        · right
          simp only [List.getD, hkl, List.getElem?_eq_getElem, Option.toList_some, List.mem_singleton] at hs ⊢
          simpa using hs
      generalize ss.getD k zeroS = s at *
      go_wp2_with fail
      refine (szSlot_any s z wr hnk (by omega)).mono ?_
      clear c0 c1 c2 c3
      rintro e w1 ⟨z1, rfl, hz1, hb1⟩
      rcases hz1 with hneg | ⟨hp, hle, hs1⟩
      · go_wp2
        go_ret
        exact ⟨-1, rfl, .inl (by omega), (hbW.trans (hbl.mono hbW.size)).trans (hb1.mono (Nat.le_trans hbW.size hbl.size))⟩
      · have hz1n : ¬ z1 < 0 := by omega
        have HS : Hid (∀ s ∈ ss.take (k + 1), s.v.o.ints.length ≤ 1048576 ∧ s.v.o.refs.length ≤ 1048576) := by
          intro t ht
          rcases HV.out t ht with h | rfl
          · exact hsm.out t h
          · exact hs1 _ (List.mem_singleton.2 rfl)
        clear hs1 HV
        go_wp2_with fail
        go_roundw
        case rel => exact ⟨k + 1, z1, by go_num, rfl, by omega, by omega, HS, hbl.trans (hb1.mono hbl.size)⟩
        case measure => simp [intOf]; omega
    · have hkk : ¬ (k : Int) < 4 := by omega
      have HS : Hid (∀ s ∈ ss, s.v.o.ints.length ≤ 1048576 ∧ s.v.o.refs.length ≤ 1048576) := by
        have h := hsm.out
        rw [List.take_of_length_le (by rw [H4.out]; omega)] at h
        exact h
      go_wp2
      go_ret
      exact ⟨z, rfl, .inr ⟨hz.1, hz.2, HS.out⟩, hbW.trans (hbl.mono hbW.size)⟩

set_option maxHeartbeats 400000 in
set_option maxRecDepth 100000 in
theorem szPage_any (p : PageA) (h4 : p.ss.length = 4) (left : Int) (w : World) (hn : Small p.ss) (h0 : 0 ≤ left ∧ left ≤ 1048576) :
    Calls Tryd.prog 19 #[.agg p.cells.toArray, .int .i64 left] w fun e w' => ∃ z, e = .returned (.int .i64 z) ∧ SzAns p.ss left z ∧ Below w.heap.size w w' := by
  obtain ⟨n, ss⟩ := p
  simp only [PageA.cells] at *
  obtain ⟨W, hW, b0, hbW, hsW⟩ := boxes1 w (.int .i64 n :: cellsS ss) 47
  have hrg0 : W.rangeAt w.heap.size 1 (cellsS ss) := Box.range [.int .i64 n] (cellsS ss) [] (by simpa using b0)
  have hi0 : (Tryd.prog.info? 45).map (·.size) = some (cellsS ss).length := by rw [cellsS_len, h4]; kernel_rfl
  go_enter Tryd.func19, Tryd.ntmps19
  go_wp2_with (first | (guard_target = wpList _ _ _ (Oper.mk (some 6) _ _ _ _ _ :: _) _ _; refine wpList_load_mid rfl 45 (.tmp 5) rfl w.heap.size 1 rfl (cellsS ss) _ (by rw [hW.out]; exact hrg0) Tryd.underlying45 rfl hi0 ?_) | fail)
  rw [hW.out]
  clear hW hrg0 hi0 hsW
  refine (szSlotA4_any ss h4 left W hn h0).mono ?_
  rintro e w1 ⟨z, rfl, hz, hb1⟩
  have HZ : Hid _ := hz
  clear hz
  by_cases hneg : z < 0
  · go_wp2
    go_ret
    exact ⟨-1, rfl, .inl (by omega), hbW.trans (hb1.mono hbW.size)⟩
  · go_wp2
    go_ret
    exact ⟨z, rfl, HZ.out, hbW.trans (hb1.mono hbW.size)⟩
end Go.Proofs.YtbaocehcnjdkkaaDoor

/- The walks of laws.eqSlot, eqSlotA4, eqPage, where both say the same. -/
namespace Go.Proofs.YtbaocehcnjdkkaaDoor
open Go.RowKit

set_option maxHeartbeats 400000 in
set_option maxRecDepth 100000 in
theorem eqSlot_same (s t : SlotA) (he : t.v = s.v) (w : World) (hs : s.reads w) (ht : t.reads w) (hlI : s.v.o.ints.length ≤ 1099511627776) (hlR : s.v.o.refs.length ≤ 1099511627776) :
    Calls Tryd.prog 32 #[.agg s.cells.toArray, .agg t.cells.toArray] w fun e w' => e = .returned (.bool true) ∧ Below w.heap.size w w' := by
  obtain ⟨v, aI, cI, aR, cR⟩ := s
  obtain ⟨v', bI, dI, bR, dR⟩ := t
  simp only at he
  subst he
  obtain ⟨h, ⟨k, ints, refs⟩⟩ := v'
  simp only [SlotA.cells, SlotA.reads] at *
  obtain ⟨W, hW, b0, b1, hbW, hsW⟩ := boxes2 w [.bool h, .int .i64 k, .slice aI ints.length cI, .slice aR refs.length cR] [.bool h, .int .i64 k, .slice bI ints.length dI, .slice bR refs.length dR] 28 28
  go_enter Tryd.func32, Tryd.ntmps32
  go_wp2_with fail
  rw [hW.out]
  clear hW
  refine (eqObj_same ⟨k, ints, refs⟩ aI cI aR cR bI dI bR dR W (hs.below hbW) (ht.below hbW) hlI hlR).mono ?_
  rintro e w1 ⟨rfl, hb1⟩
  go_wp2
  go_ret
  exact ⟨rfl, hbW.trans (hb1.mono hbW.size)⟩

theorem same_at {ss ts : List SlotA} (h : ts.map (·.v) = ss.map (·.v)) (k : Nat) : (ts.getD k zeroS).v = (ss.getD k zeroS).v := by
  have := congrArg (fun l => l[k]?) h
  simp only [List.getElem?_map] at this
  simp only [List.getD]
  cases h1 : ts[k]? <;> cases h2 : ss[k]? <;> simp_all

set_option maxHeartbeats 1000000 in
set_option maxRecDepth 100000 in
theorem eqSlotA4_same (ss ts : List SlotA) (h4 : ss.length = 4) (he : ts.map (·.v) = ss.map (·.v)) (w : World) (hs : ReadsS w ss) (ht : ReadsS w ts) (hl : ∀ s ∈ ss, s.v.o.ints.length ≤ 1099511627776 ∧ s.v.o.refs.length ≤ 1099511627776) :
    Calls Tryd.prog 57 #[.agg (cellsS ss).toArray, .agg (cellsS ts).toArray] w fun e w' => e = .returned (.bool true) ∧ Below w.heap.size w w' := by
  have htl : ts.length = 4 := by have := congrArg List.length he; simp only [List.length_map] at this; omega
  obtain ⟨W, hW, b0, b1, hbW, hsW⟩ := boxes2 w (cellsS ss) (cellsS ts) 29 29
  have H4 : Hid (ss.length = 4 ∧ ts.length = 4) := ⟨h4, htl⟩
  have HE : Hid _ := he
  clear hsW h4 htl he
  go_enter Tryd.func57, Tryd.ntmps57
  go_wp2_with fail
  rw [hW.out]
  clear hW
  go_loopw [5] (fun i wr => ∃ (k : Nat), i = .int .i64 k ∧ k ≤ 4 ∧ Below W.heap.size W wr)
    (fun i _ => 4 - (intOf i).toNat)
  case atStart => exact ⟨0, rfl, by omega, Below.refl _ _⟩
  case round =>
    obtain ⟨k, rfl, hk, hbl⟩ := hrel
    by_cases hlt : k < 4
    · have hkl : k < ss.length := by rw [H4.out.1]; exact hlt
      have hkt : k < ts.length := by rw [H4.out.2]; exact hlt
      have hi0 : (0 : Int) ≤ (k : Int) := by omega
      have hi4 : (k : Int) < 4 := by omega
      have HC : Hid (∀ w'', Below W.heap.size W w'' → _ ∧ _) := fun w'' hh => ⟨(b0.below hh b0.lt).slot k hkl, (b1.below hh b1.lt).slot k hkt⟩
      have hsk := fun w'' (hh : Below W.heap.size W w'') => (hs _ (getD_mem hkl)).below (hbW.trans (hh.mono hbW.size))
      have htk := fun w'' (hh : Below W.heap.size W w'') => (ht _ (getD_mem hkt)).below (hbW.trans (hh.mono hbW.size))
      have hlk := hl _ (getD_mem hkl)
      have hv := same_at HE.out k
      generalize ss.getD k zeroS = s at *
      generalize ts.getD k zeroS = t at *
      have HS : Hid (∀ w1, Below W.heap.size W w1 → (w1.cell? ⟨w.heap.size, k * 4, none⟩ = some (.bool s.v.has) ∧ w1.cell? ⟨w.heap.size, k * 4 + 1, none⟩ = some (.int .i64 s.v.o.kind) ∧ w1.cell? ⟨w.heap.size, k * 4 + 2, none⟩ = some (.slice s.aI s.v.o.ints.length s.cI) ∧ w1.cell? ⟨w.heap.size, k * 4 + 3, none⟩ = some (.slice s.aR s.v.o.refs.length s.cR)) ∧ (w1.cell? ⟨(w.heap.size + 1), k * 4, none⟩ = some (.bool t.v.has) ∧ w1.cell? ⟨(w.heap.size + 1), k * 4 + 1, none⟩ = some (.int .i64 t.v.o.kind) ∧ w1.cell? ⟨(w.heap.size + 1), k * 4 + 2, none⟩ = some (.slice t.aI t.v.o.ints.length t.cI) ∧ w1.cell? ⟨(w.heap.size + 1), k * 4 + 3, none⟩ = some (.slice t.aR t.v.o.refs.length t.cR))) := fun w1 hh => by
        obtain ⟨⟨c0, c1, c2, c3, _⟩, ⟨d0, d1, d2, d3, _⟩⟩ := HC.out w1 hh
        exact ⟨⟨c0, c1, c2, c3⟩, d0, d1, d2, d3⟩
      have HR : Hid (_ ∧ _ ∧ _) := ⟨hsk, htk, hlk⟩
      have hh := HS.out wr hbl
      have HV : Hid (t.v = s.v) := hv
      clear HC hsk htk hlk hv
      go_wp2_with fail
      go_region_held3 (fun w1 => (w1.cell? ⟨w.heap.size, k * 4, none⟩ = some (.bool s.v.has) ∧ w1.cell? ⟨w.heap.size, k * 4 + 1, none⟩ = some (.int .i64 s.v.o.kind) ∧ w1.cell? ⟨w.heap.size, k * 4 + 2, none⟩ = some (.slice s.aI s.v.o.ints.length s.cI) ∧ w1.cell? ⟨w.heap.size, k * 4 + 3, none⟩ = some (.slice s.aR s.v.o.refs.length s.cR)) ∧ (w1.cell? ⟨(w.heap.size + 1), k * 4, none⟩ = some (.bool t.v.has) ∧ w1.cell? ⟨(w.heap.size + 1), k * 4 + 1, none⟩ = some (.int .i64 t.v.o.kind) ∧ w1.cell? ⟨(w.heap.size + 1), k * 4 + 2, none⟩ = some (.slice t.aI t.v.o.ints.length t.cI) ∧ w1.cell? ⟨(w.heap.size + 1), k * 4 + 3, none⟩ = some (.slice t.aR t.v.o.refs.length t.cR)))
        (first | exact HS.out _ hw2 | go_keep | fail)
        ((first | (go_at_call 32; refine (eqSlot_same s t HV.out _ (HR.out.1 _ hbl.drew) (HR.out.2.1 _ hbl.drew) HR.out.2.2.1 HR.out.2.2.2).mono ?_; rintro e w2 ⟨rfl, hb2⟩; have hw2 : Below W.heap.size W w2 := (hbl.drew).trans (hb2.mono hbl.size)) | fail))
      all_goals
        go_wp2_with fail
        go_roundw
        case rel => exact ⟨k + 1, by go_num, by omega, hw2⟩
        case measure => simp [intOf]; omega
    · have hkk : ¬ (k : Int) < 4 := by omega
      go_wp2
      go_ret
      exact ⟨rfl, hbW.trans (hbl.mono hbW.size)⟩

set_option maxHeartbeats 1000000 in
set_option maxRecDepth 100000 in
theorem eqPage_same (n : Int) (ss ts : List SlotA) (h4 : ss.length = 4) (he : ts.map (·.v) = ss.map (·.v)) (w : World) (hs : ReadsS w ss) (ht : ReadsS w ts) (hl : ∀ s ∈ ss, s.v.o.ints.length ≤ 1099511627776 ∧ s.v.o.refs.length ≤ 1099511627776) :
    Calls Tryd.prog 21 #[.agg (PageA.cells ⟨n, ss⟩).toArray, .agg (PageA.cells ⟨n, ts⟩).toArray] w fun e w' => e = .returned (.bool true) ∧ Below w.heap.size w w' := by
  have htl : ts.length = 4 := by have := congrArg List.length he; simp only [List.length_map] at this; omega
  simp only [PageA.cells]
  obtain ⟨W, hW, b0, b1, hbW, hsW⟩ := boxes2 w (.int .i64 n :: cellsS ss) (.int .i64 n :: cellsS ts) 31 31
  have hrg0 : W.rangeAt w.heap.size 1 (cellsS ss) := Box.range [.int .i64 n] (cellsS ss) [] (by simpa using b0)
  have hrg1 : W.rangeAt (w.heap.size + 1) 1 (cellsS ts) := Box.range [.int .i64 n] (cellsS ts) [] (by simpa using b1)
  have hi0 : (Tryd.prog.info? 29).map (·.size) = some (cellsS ss).length := by rw [cellsS_len, h4]; kernel_rfl
  have hi1 : (Tryd.prog.info? 29).map (·.size) = some (cellsS ts).length := by rw [cellsS_len, htl]; kernel_rfl
  have HI : Hid (_ ∧ _) := ⟨hi0, hi1⟩
  have HR : Hid (_ ∧ _) := ⟨hrg0, hrg1⟩
  clear hi0 hi1 hrg0 hrg1 hsW htl
  go_enter Tryd.func21, Tryd.ntmps21
  go_wp2_with (first | (guard_target = wpList _ _ _ (Oper.mk (some 11) _ _ _ _ _ :: _) _ _; refine wpList_load_mid rfl 29 (.tmp 10) rfl w.heap.size 1 rfl (cellsS ss) _ (by rw [hW.out]; exact HR.out.1) Tryd.underlying29 rfl HI.out.1 ?_) | (guard_target = wpList _ _ _ (Oper.mk (some 13) _ _ _ _ _ :: _) _ _; refine wpList_load_mid rfl 29 (.tmp 12) rfl (w.heap.size + 1) 1 rfl (cellsS ts) _ (by rw [hW.out]; exact HR.out.2) Tryd.underlying29 rfl HI.out.2 ?_) | fail)
  rw [hW.out]
  clear hW
  refine (eqSlotA4_same ss ts h4 he W (hs.below hbW) (ht.below hbW) hl).mono ?_
  rintro e w1 ⟨rfl, hb1⟩
  go_wp2
  go_ret
  exact ⟨rfl, hbW.trans (hb1.mono hbW.size)⟩
end Go.Proofs.YtbaocehcnjdkkaaDoor
