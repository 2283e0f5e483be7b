/- Several texts in one, in their order. -/
import Derived.Test.YtjaojcgfgkppgaaGreatDoorPart3
import Derived.Test.YtjaojcgfgkppgaaGreatDoorPart6
/- The walks of laws.markSlotA4, markPage, heldSlotA4, heldPage. -/
namespace Go.Proofs.YtjaojcgfgkppgaaGreatDoor
open Go.RowKit

theorem fit_at {ss : List SlotA} (h : Fit ss) {k : Nat} (hk : k < ss.length) : (ss.getD k zeroS).v.o.ints.length ≤ 1099511627776 ∧ (ss.getD k zeroS).v.o.refs.length ≤ 1099511627776 := h _ (getD_mem hk)

set_option maxHeartbeats 1000000 in
set_option maxRecDepth 100000 in
theorem markSlotA4_touch (ss : List SlotA) (h4 : ss.length = 4) (lo hi : Nat) (k0 : Int) (w : World) (ho : OwnS w lo hi ss) (hl : Fit ss) (h0 : 0 ≤ k0) (hk : k0 ≤ 10995116277760) (hhi : hi ≤ w.heap.size) :
    Calls Tryz.prog 49 #[.agg (cellsS ss).toArray, .int .i64 k0] w fun e w' => e = .returned (.int .i64 (k0 + countS ss)) ∧ OwnS w' lo hi (markSs ss k0) ∧ Touch (ss.flatMap SlotA.blocks) w w' := by
  obtain ⟨W, hW, b0, hbW, hsW⟩ := boxes1 w (cellsS ss) 50
  have H4 : Hid (ss.length = 4) := h4
  have HB : Hid (w.heap.size ∉ ss.flatMap SlotA.blocks) := fun hh => by have := (ho.blocks_lt _ hh).2; omega
  clear hsW h4
  go_enter Tryz.func49, Tryz.ntmps49
  go_wp2_with fail
  rw [hW.out]
  clear hW
  go_loopw [1, 5] (fun kk i wr => ∃ (j : Nat) (c : Nat), i = .int .i64 j ∧ kk = .int .i64 (k0 + c) ∧ j ≤ 4 ∧ Hid (c = countS (ss.take j)) ∧ OwnS wr lo hi (markSs (ss.take j) k0 ++ ss.drop j) ∧ Touch (ss.flatMap SlotA.blocks) W wr)
    (fun _ i _ => 4 - (intOf i).toNat)
  case atStart => exact ⟨0, 0, rfl, by simp, by omega, rfl, by simpa [markSs] using ho.below hbW, Touch.refl _ _⟩
  case round =>
    obtain ⟨j, c, rfl, rfl, hj, hcj, hown, htr⟩ := hrel
    have b0r := b0.touch htr HB.out
    have hc0 : c ≤ 8796093022208 := by
      have h1 := countS_le (ss.take j) 1099511627776 (fun s hs => hl s (List.mem_of_mem_take hs))
      rw [List.length_take] at h1
      have h2 : min j ss.length * (2 * 1099511627776) ≤ 4 * (2 * 1099511627776) := Nat.mul_le_mul_right _ (by omega)
      rw [hcj.out]; omega
    by_cases hlt : j < 4
    · have hkl : j < ss.length := by rw [H4.out]; exact hlt
      obtain ⟨c0, c1, c2, c3, _⟩ := b0r.slot j hkl
      obtain ⟨hd, htk⟩ := take_split ss j hkl
      have hlk := fit_at hl hkl
      rw [hd] at hown
      have HC : Hid (countS (ss.take (j + 1)) = countS (ss.take j) + (ss.getD j zeroS).count) := by rw [Hid, htk, countS_snoc]
      have HM : Hid (markSs (ss.take (j + 1)) k0 ++ ss.drop (j + 1) = markSs (ss.take j) k0 ++ (ss.getD j zeroS).mark (k0 + countS (ss.take j)) :: ss.drop (j + 1)) := by rw [Hid, htk, markSs_snoc]; simp
      have HS : Hid (∀ k ∈ (ss.getD j zeroS).blocks, k ∈ ss.flatMap SlotA.blocks) := fun k hk => List.mem_flatMap.2 ⟨_, getD_mem hkl, hk⟩
      have hos : (ss.getD j zeroS).own wr lo hi := hown.each _ (by simp)
      clear hd htk
      generalize ss.getD j zeroS = s at *
      have C := markSlot_touch s lo hi (k0 + c) wr hos (by omega) hlk.1 hlk.2 (by omega)
      simp only [SlotA.cells] at C
      have hi0 : (0 : Int) ≤ (j : Int) := by omega
      have hi4 : (j : Int) < 4 := by omega
      go_wp2_with fail
      refine C.mono ?_
      clear C c0 c1 c2 c3
      rintro e w1 ⟨rfl, ho1, ht1⟩
      have HO : OwnS w1 lo hi (markSs (ss.take (j + 1)) k0 ++ ss.drop (j + 1)) := by
        rw [HM.out, ← hcj.out]
        exact hown.replace ht1 ho1 (mark_blocks _ _)
      have HT : Touch (ss.flatMap SlotA.blocks) W w1 := htr.trans (ht1.mono HS.out)
      have HCC : Hid (c + s.count = countS (ss.take (j + 1))) := by rw [Hid, HC.out, hcj.out]
      clear hown ho1 ht1 hos
      go_wp2_with fail
      go_roundw
      case rel => exact ⟨j + 1, c + s.count, by go_num, by congr 1; omega, by omega, HCC, HO, HT⟩
      case measure => simp [intOf]; omega
    · obtain rfl : j = 4 := by omega
      have hkk : ¬ ((4 : Nat) : Int) < 4 := by omega
      have HE : Hid (ss.take 4 = ss ∧ ss.drop 4 = []) := ⟨List.take_of_length_le (by rw [H4.out]; omega), List.drop_eq_nil_of_le (by rw [H4.out]; omega)⟩
      go_wp2
      go_ret
      refine ⟨ret_int (by rw [hcj.out, HE.out.1]), ?_, (Touch.of_below hbW).trans htr⟩
      rw [HE.out.1, HE.out.2, List.append_nil] at hown
      exact hown

set_option maxHeartbeats 1000000 in
set_option maxRecDepth 100000 in
theorem heldSlotA4_any (ss : List SlotA) (h4 : ss.length = 4) (lo hi : Nat) (k0 : Int) (w : World) (ho : OwnS w lo hi (markSs ss k0)) (hl : Fit ss) (h0 : 0 ≤ k0) (hk : k0 ≤ 10995116277760) :
    Calls Tryz.prog 50 #[.agg (cellsS ss).toArray, .int .i64 k0] w fun e w' => e = .returned (.int .i64 (k0 + countS ss)) ∧ Below w.heap.size w w' := by
  obtain ⟨W, hW, b0, hbW, hsW⟩ := boxes1 w (cellsS ss) 50
  have H4 : Hid (ss.length = 4) := h4
  clear hsW h4
  go_enter Tryz.func50, Tryz.ntmps50
  go_wp2_with fail
  rw [hW.out]
  clear hW
  go_loopw [1, 5] (fun kk i wr => ∃ (j : Nat) (c : Nat), i = .int .i64 j ∧ kk = .int .i64 (k0 + c) ∧ j ≤ 4 ∧ Hid (c = countS (ss.take j)) ∧ Below W.heap.size W wr)
    (fun _ i _ => 4 - (intOf i).toNat)
  case atStart => exact ⟨0, 0, rfl, by simp, by omega, rfl, Below.refl _ _⟩
  case round =>
    obtain ⟨j, c, rfl, rfl, hj, hcj, hbl⟩ := hrel
    have b0r := b0.below hbl b0.lt
    have hbT : Below w.heap.size w wr := hbW.trans (hbl.mono hbW.size)
    have hc0 : c ≤ 8796093022208 := by
      have h1 := countS_le (ss.take j) 1099511627776 (fun s hs => hl s (List.mem_of_mem_take hs))
      rw [List.length_take] at h1
      have h2 : min j ss.length * (2 * 1099511627776) ≤ 4 * (2 * 1099511627776) := Nat.mul_le_mul_right _ (by omega)
      rw [hcj.out]; omega
    by_cases hlt : j < 4
    · have hkl : j < ss.length := by rw [H4.out]; exact hlt
      obtain ⟨c0, c1, c2, c3, _⟩ := b0r.slot j hkl
      obtain ⟨hd, htk⟩ := take_split ss j hkl
      have hlk := fit_at hl hkl
      have HC : Hid (countS (ss.take (j + 1)) = countS (ss.take j) + (ss.getD j zeroS).count) := by rw [Hid, htk, countS_snoc]
      have hos : ((ss.getD j zeroS).mark (k0 + c)).own wr lo hi := by
        have := ho.each _ (markSs_at ss k0 j hkl)
        rw [← hcj.out] at this
        exact OwnO.below this hbT
      clear hd htk
      generalize ss.getD j zeroS = s at *
      have C := heldSlot_any s lo hi (k0 + c) wr hos (by omega) hlk.1 hlk.2 (by omega)
      simp only [SlotA.cells] at C
      have hi0 : (0 : Int) ≤ (j : Int) := by omega
      have hi4 : (j : Int) < 4 := by omega
      go_wp2_with fail
      refine C.mono ?_
      clear C c0 c1 c2 c3
      rintro e w1 ⟨rfl, hb1⟩
      have hnn : ¬ (k0 + (c : Int) + (s.count : Int)) < 0 := by omega
      have HCC : Hid (c + s.count = countS (ss.take (j + 1))) := by rw [Hid, HC.out, hcj.out]
      clear hos
      go_wp2_with fail
      go_roundw
      case rel => exact ⟨j + 1, c + s.count, by go_num, by congr 1; omega, by omega, HCC, hbl.trans (hb1.mono hbl.size)⟩
      case measure => simp [intOf]; omega
    · obtain rfl : j = 4 := by omega
      have hkk : ¬ ((4 : Nat) : Int) < 4 := by omega
      have HE : Hid (ss.take 4 = ss) := List.take_of_length_le (by rw [H4.out]; omega)
      go_wp2
      go_ret
      exact ⟨ret_int (by rw [hcj.out, HE.out]), hbT⟩

set_option maxHeartbeats 400000 in
set_option maxRecDepth 100000 in
theorem markPage_touch (p : PageA) (h4 : p.ss.length = 4) (lo hi : Nat) (k0 : Int) (w : World) (ho : OwnS w lo hi p.ss) (hl : Fit p.ss) (h0 : 0 ≤ k0) (hk : k0 ≤ 10995116277760) (hhi : hi ≤ w.heap.size) :
    Calls Tryz.prog 20 #[.agg p.cells.toArray, .int .i64 k0] w fun e w' => e = .returned (.int .i64 (k0 + countS p.ss)) ∧ OwnS w' lo hi (markSs p.ss k0) ∧ Touch (p.ss.flatMap SlotA.blocks) w w' := by
  obtain ⟨n, ss⟩ := p
  simp only [PageA.cells] at *
  obtain ⟨W, hW, b0, hbW, hsW⟩ := boxes1 w (.int .i64 n :: cellsS ss) 52
  have hrg0 : W.rangeAt w.heap.size 1 (cellsS ss) := Box.range [.int .i64 n] (cellsS ss) [] (by simpa using b0)
  have hi0 : (Tryz.prog.info? 50).map (·.size) = some (cellsS ss).length := by rw [cellsS_len, h4]; kernel_rfl
  have hs0 := hbW.size
  go_enter Tryz.func20, Tryz.ntmps20
  go_wp2_with (first | (guard_target = wpList _ _ _ (Oper.mk (some 6) _ _ _ _ _ :: _) _ _; refine wpList_load_mid rfl 50 (.tmp 5) rfl w.heap.size 1 rfl (cellsS ss) _ (by rw [hW.out]; exact hrg0) Tryz.underlying50 rfl hi0 ?_) | fail)
  rw [hW.out]
  clear hW hrg0 hi0 hsW
  refine (markSlotA4_touch ss h4 lo hi k0 W (ho.below hbW) hl h0 hk (by omega)).mono ?_
  rintro e w1 ⟨rfl, ho1, ht1⟩
  go_wp2
  go_ret
  exact ⟨rfl, ho1, (Touch.of_below hbW).trans ht1⟩

set_option maxHeartbeats 400000 in
set_option maxRecDepth 100000 in
theorem heldPage_any (p : PageA) (h4 : p.ss.length = 4) (lo hi : Nat) (k0 : Int) (w : World) (ho : OwnS w lo hi (markSs p.ss k0)) (hl : Fit p.ss) (h0 : 0 ≤ k0) (hk : k0 ≤ 10995116277760) :
    Calls Tryz.prog 21 #[.agg p.cells.toArray, .int .i64 k0] w fun e w' => e = .returned (.int .i64 (k0 + countS p.ss)) ∧ Below w.heap.size w w' := by
  obtain ⟨n, ss⟩ := p
  simp only [PageA.cells] at *
  obtain ⟨W, hW, b0, hbW, hsW⟩ := boxes1 w (.int .i64 n :: cellsS ss) 52
  have hrg0 : W.rangeAt w.heap.size 1 (cellsS ss) := Box.range [.int .i64 n] (cellsS ss) [] (by simpa using b0)
  have hi0 : (Tryz.prog.info? 50).map (·.size) = some (cellsS ss).length := by rw [cellsS_len, h4]; kernel_rfl
  go_enter Tryz.func21, Tryz.ntmps21
  go_wp2_with (first | (guard_target = wpList _ _ _ (Oper.mk (some 6) _ _ _ _ _ :: _) _ _; refine wpList_load_mid rfl 50 (.tmp 5) rfl w.heap.size 1 rfl (cellsS ss) _ (by rw [hW.out]; exact hrg0) Tryz.underlying50 rfl hi0 ?_) | fail)
  rw [hW.out]
  clear hW hrg0 hi0 hsW
  refine (heldSlotA4_any ss h4 lo hi k0 W (ho.below hbW) hl h0 hk).mono ?_
  rintro e w1 ⟨rfl, hb1⟩
  have hnn : ¬ (k0 + (countS ss : Int)) < 0 := by omega
  go_wp2
  go_ret
  exact ⟨rfl, hbW.trans (hb1.mono hbW.size)⟩
end Go.Proofs.YtjaojcgfgkppgaaGreatDoor
