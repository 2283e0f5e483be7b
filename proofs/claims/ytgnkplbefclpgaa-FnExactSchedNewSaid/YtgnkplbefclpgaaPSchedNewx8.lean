/- Several texts in one, in their order. -/
import Derived.Test.YtgnkplbefclpgaaPSchedNewx2
import Derived.Test.YtgnkplbefclpgaaPSchedNewx3
import Derived.Test.YtgnkplbefclpgaaPSchedNewx5
import Derived.Test.YtgnkplbefclpgaaPSchedNewx7
import Derived.Deep.RegionHeld3
import Derived.Test.YtgnkplbefclpgaaPSchedNewx4
import Derived.Test.YtgnkplbefclpgaaPSchedNewx1
set_option maxHeartbeats 8000000
set_option maxRecDepth 100000
namespace Go.Proofs.Ytgnkplbefclpgaa
open Go.RowKit
theorem fit_at {ss : List SlotA} (h : Fit ss) {k : Nat} (hk : k < ss.length) : (ss.getD k zeroS).v.o.ints.length ≤ 1099511627776 ∧ (ss.getD k zeroS).v.o.refs.length ≤ 1099511627776 := h _ (getD_mem hk)
theorem markSlotA4_touch (ss : List SlotA) (h4 : ss.length = 4) (lo hi : Nat) (k0 : Int) (w : World) (ho : OwnS w lo hi ss) (hl : Fit ss) (h0 : 0 ≤ k0) (hk : k0 ≤ 10995116277760) (hhi : hi ≤ w.heap.size) :
  Calls Try.prog 74 #[.agg (cellsS ss).toArray, .int .i64 k0] w fun e w' => e = .returned (.int .i64 (k0 + countS ss)) ∧ OwnS w' lo hi (markSs ss k0) ∧ Touch (ss.flatMap SlotA.blocks) w w' := by
 obtain ⟨W, hW, b0, hbW, hsW⟩ := boxes1 w (cellsS ss) 29
 have H4 : Hid (ss.length = 4) := h4
 have HB : Hid (w.heap.size ∉ ss.flatMap SlotA.blocks) := fun hh => by have := (ho.blocks_lt _ hh).2; omega
 clear hsW h4
 go_enter Try.func74, Try.ntmps74
 go_wp2_with fail
 rw [hW.out]
 clear hW
 go_loopw [1, 5] (fun kk i wr => ∃ (j : Nat) (c : Nat), i = .int .i64 j ∧ kk = .int .i64 (k0 + c) ∧ j ≤ 4 ∧ Hid (c = countS (ss.take j)) ∧ OwnS wr lo hi (markSs (ss.take j) k0 ++ ss.drop j) ∧ Touch (ss.flatMap SlotA.blocks) W wr)
  (fun _ i _ => 4 - (intOf i).toNat)
 case atStart => exact ⟨0, 0, rfl, by simp, by omega, rfl, by simpa [markSs] using ho.below hbW, Touch.refl _ _⟩
 case round =>
  obtain ⟨j, c, rfl, rfl, hj, hcj, hown, htr⟩ := hrel
  have b0r := b0.touch htr HB.out
  have hc0 : c ≤ 8796093022208 := by
   have h1 := countS_le (ss.take j) 1099511627776 (fun s hs => hl s (List.mem_of_mem_take hs))
   rw [List.length_take] at h1
   have h2 : min j ss.length * (2 * 1099511627776) ≤ 4 * (2 * 1099511627776) := Nat.mul_le_mul_right _ (by omega)
   rw [hcj.out]; omega
  by_cases hlt : j < 4
  ·have hkl : j < ss.length := by rw [H4.out]; exact hlt
   obtain ⟨c0, c1, c2, c3, _⟩ := b0r.slot j hkl
   obtain ⟨hd, htk⟩ := take_split ss j hkl
   have hlk := fit_at hl hkl
   rw [hd] at hown
   have HC : Hid (countS (ss.take (j + 1)) = countS (ss.take j) + (ss.getD j zeroS).count) := by rw [Hid, htk, countS_snoc]
   have HM : Hid (markSs (ss.take (j + 1)) k0 ++ ss.drop (j + 1) = markSs (ss.take j) k0 ++ (ss.getD j zeroS).mark (k0 + countS (ss.take j)) :: ss.drop (j + 1)) := by rw [Hid, htk, markSs_snoc]; simp
   have HS : Hid (∀ k ∈ (ss.getD j zeroS).blocks, k ∈ ss.flatMap SlotA.blocks) := fun k hk => List.mem_flatMap.2 ⟨_, getD_mem hkl, hk⟩
   have hos : (ss.getD j zeroS).own wr lo hi := hown.each _ (by simp)
   clear hd htk
   generalize ss.getD j zeroS = s at *
   have C := markSlot_touch s lo hi (k0 + c) wr hos (by omega) hlk.1 hlk.2 (by omega)
   simp only [SlotA.cells] at C
   have hi0 : (0 : Int) ≤ (j : Int) := by omega
   have hi4 : (j : Int) < 4 := by omega
   go_wp2_with fail
   refine C.mono ?_
   clear C c0 c1 c2 c3
   rintro e w1 ⟨rfl, ho1, ht1⟩
   have HO : OwnS w1 lo hi (markSs (ss.take (j + 1)) k0 ++ ss.drop (j + 1)) := by
    rw [HM.out, ← hcj.out]
    exact hown.replace ht1 ho1 (mark_blocks _ _)
   have HT : Touch (ss.flatMap SlotA.blocks) W w1 := htr.trans (ht1.mono HS.out)
   have HCC : Hid (c + s.count = countS (ss.take (j + 1))) := by rw [Hid, HC.out, hcj.out]
   clear hown ho1 ht1 hos
   go_wp2_with fail
   go_roundw
   case rel => exact ⟨j + 1, c + s.count, by go_num, by congr 1; omega, by omega, HCC, HO, HT⟩
   case measure => simp [intOf]; omega
  ·obtain rfl : j = 4 := by omega
   have hkk : ¬ ((4 : Nat) : Int) < 4 := by omega
   have HE : Hid (ss.take 4 = ss ∧ ss.drop 4 = []) := ⟨List.take_of_length_le (by rw [H4.out]; omega), List.drop_eq_nil_of_le (by rw [H4.out]; omega)⟩
   go_wp2
   go_ret
   refine ⟨ret_int (by rw [hcj.out, HE.out.1]), ?_, (Touch.of_below hbW).trans htr⟩
   rw [HE.out.1, HE.out.2, List.append_nil] at hown
   exact hown
theorem heldSlotA4_any (ss : List SlotA) (h4 : ss.length = 4) (lo hi : Nat) (k0 : Int) (w : World) (ho : OwnS w lo hi (markSs ss k0)) (hl : Fit ss) (h0 : 0 ≤ k0) (hk : k0 ≤ 10995116277760) :
  Calls Try.prog 75 #[.agg (cellsS ss).toArray, .int .i64 k0] w fun e w' => e = .returned (.int .i64 (k0 + countS ss)) ∧ Below w.heap.size w w' := by
 obtain ⟨W, hW, b0, hbW, hsW⟩ := boxes1 w (cellsS ss) 29
 have H4 : Hid (ss.length = 4) := h4
 clear hsW h4
 go_enter Try.func75, Try.ntmps75
 go_wp2_with fail
 rw [hW.out]
 clear hW
 go_loopw [1, 5] (fun kk i wr => ∃ (j : Nat) (c : Nat), i = .int .i64 j ∧ kk = .int .i64 (k0 + c) ∧ j ≤ 4 ∧ Hid (c = countS (ss.take j)) ∧ Below W.heap.size W wr)
  (fun _ i _ => 4 - (intOf i).toNat)
 case atStart => exact ⟨0, 0, rfl, by simp, by omega, rfl, Below.refl _ _⟩
 case round =>
  obtain ⟨j, c, rfl, rfl, hj, hcj, hbl⟩ := hrel
  have b0r := b0.below hbl b0.lt
  have hbT : Below w.heap.size w wr := hbW.trans (hbl.mono hbW.size)
  have hc0 : c ≤ 8796093022208 := by
   have h1 := countS_le (ss.take j) 1099511627776 (fun s hs => hl s (List.mem_of_mem_take hs))
   rw [List.length_take] at h1
   have h2 : min j ss.length * (2 * 1099511627776) ≤ 4 * (2 * 1099511627776) := Nat.mul_le_mul_right _ (by omega)
   rw [hcj.out]; omega
  by_cases hlt : j < 4
  ·have hkl : j < ss.length := by rw [H4.out]; exact hlt
   obtain ⟨c0, c1, c2, c3, _⟩ := b0r.slot j hkl
   obtain ⟨hd, htk⟩ := take_split ss j hkl
   have hlk := fit_at hl hkl
   have HC : Hid (countS (ss.take (j + 1)) = countS (ss.take j) + (ss.getD j zeroS).count) := by rw [Hid, htk, countS_snoc]
   have hos : ((ss.getD j zeroS).mark (k0 + c)).own wr lo hi := by
    have := ho.each _ (markSs_at ss k0 j hkl)
    rw [← hcj.out] at this
    exact OwnO.below this hbT
   clear hd htk
   generalize ss.getD j zeroS = s at *
   have C := heldSlot_any s lo hi (k0 + c) wr hos (by omega) hlk.1 hlk.2 (by omega)
   simp only [SlotA.cells] at C
   have hi0 : (0 : Int) ≤ (j : Int) := by omega
   have hi4 : (j : Int) < 4 := by omega
   go_wp2_with fail
   refine C.mono ?_
   clear C c0 c1 c2 c3
   rintro e w1 ⟨rfl, hb1⟩
   have hnn : ¬ (k0 + (c : Int) + (s.count : Int)) < 0 := by omega
   have HCC : Hid (c + s.count = countS (ss.take (j + 1))) := by rw [Hid, HC.out, hcj.out]
   clear hos
   go_wp2_with fail
   go_roundw
   case rel => exact ⟨j + 1, c + s.count, by go_num, by congr 1; omega, by omega, HCC, hbl.trans (hb1.mono hbl.size)⟩
   case measure => simp [intOf]; omega
  ·obtain rfl : j = 4 := by omega
   have hkk : ¬ ((4 : Nat) : Int) < 4 := by omega
   have HE : Hid (ss.take 4 = ss) := List.take_of_length_le (by rw [H4.out]; omega)
   go_wp2
   go_ret
   exact ⟨ret_int (by rw [hcj.out, HE.out]), hbT⟩
theorem markPage_touch (p : PageA) (h4 : p.ss.length = 4) (lo hi : Nat) (k0 : Int) (w : World) (ho : OwnS w lo hi p.ss) (hl : Fit p.ss) (h0 : 0 ≤ k0) (hk : k0 ≤ 10995116277760) (hhi : hi ≤ w.heap.size) :
  Calls Try.prog 64 #[.agg p.cells.toArray, .int .i64 k0] w fun e w' => e = .returned (.int .i64 (k0 + countS p.ss)) ∧ OwnS w' lo hi (markSs p.ss k0) ∧ Touch (p.ss.flatMap SlotA.blocks) w w' := by
 obtain ⟨n, ss⟩ := p
 simp only [PageA.cells] at *
 obtain ⟨W, hW, b0, hbW, hsW⟩ := boxes1 w (.int .i64 n :: cellsS ss) 31
 have hrg0 : W.rangeAt w.heap.size 1 (cellsS ss) := Box.range [.int .i64 n] (cellsS ss) [] (by simpa using b0)
 have hi0 : (Try.prog.info? 29).map (·.size) = some (cellsS ss).length := by rw [cellsS_len, h4]; kernel_rfl
 have hs0 := hbW.size
 go_enter Try.func64, Try.ntmps64
 go_wp2_with (first | (guard_target = wpList _ _ _ (Oper.mk (some 6) _ _ _ _ _ :: _) _ _; refine wpList_load_mid rfl 29 (.tmp 5) rfl w.heap.size 1 rfl (cellsS ss) _ (by rw [hW.out]; exact hrg0) Try.underlying29 rfl hi0 ?_) | fail)
 rw [hW.out]
 clear hW hrg0 hi0 hsW
 refine (markSlotA4_touch ss h4 lo hi k0 W (ho.below hbW) hl h0 hk (by omega)).mono ?_
 rintro e w1 ⟨rfl, ho1, ht1⟩
 go_wp2
 go_ret
 exact ⟨rfl, ho1, (Touch.of_below hbW).trans ht1⟩
theorem heldPage_any (p : PageA) (h4 : p.ss.length = 4) (lo hi : Nat) (k0 : Int) (w : World) (ho : OwnS w lo hi (markSs p.ss k0)) (hl : Fit p.ss) (h0 : 0 ≤ k0) (hk : k0 ≤ 10995116277760) :
  Calls Try.prog 67 #[.agg p.cells.toArray, .int .i64 k0] w fun e w' => e = .returned (.int .i64 (k0 + countS p.ss)) ∧ Below w.heap.size w w' := by
 obtain ⟨n, ss⟩ := p
 simp only [PageA.cells] at *
 obtain ⟨W, hW, b0, hbW, hsW⟩ := boxes1 w (.int .i64 n :: cellsS ss) 31
 have hrg0 : W.rangeAt w.heap.size 1 (cellsS ss) := Box.range [.int .i64 n] (cellsS ss) [] (by simpa using b0)
 have hi0 : (Try.prog.info? 29).map (·.size) = some (cellsS ss).length := by rw [cellsS_len, h4]; kernel_rfl
 go_enter Try.func67, Try.ntmps67
 go_wp2_with (first | (guard_target = wpList _ _ _ (Oper.mk (some 6) _ _ _ _ _ :: _) _ _; refine wpList_load_mid rfl 29 (.tmp 5) rfl w.heap.size 1 rfl (cellsS ss) _ (by rw [hW.out]; exact hrg0) Try.underlying29 rfl hi0 ?_) | fail)
 rw [hW.out]
 clear hW hrg0 hi0 hsW
 refine (heldSlotA4_any ss h4 lo hi k0 W (ho.below hbW) hl h0 hk).mono ?_
 rintro e w1 ⟨rfl, hb1⟩
 have hnn : ¬ (k0 + (countS ss : Int)) < 0 := by omega
 go_wp2
 go_ret
 exact ⟨rfl, hbW.trans (hb1.mono hbW.size)⟩
theorem eqHold_same (l : HoldV) (w : World) :
  Calls Try.prog 62 #[.agg l.cells.toArray, .agg l.cells.toArray] w fun e w' => e = .returned (.bool true) ∧ Below w.heap.size w w' := by
 obtain ⟨x, y⟩ := l
 simp only [HoldV.cells]
 obtain ⟨W, hW, b0, b1, hbW, hsW⟩ := boxes2 w [.int .i64 x, .int .i64 y] [.int .i64 x, .int .i64 y] 99 99
 clear b0 b1 hsW
 go_enter Try.func62, Try.ntmps62
 go_wp2
 rw [hW.out]
 go_ret
 exact ⟨rfl, hbW⟩
theorem eqHoldS_same (a b : Option Addr) (ca cb : Nat) (ls : List HoldV) (w : World) (ha : ReadsH w a ls) (hb : ReadsH w b ls) (hl : ls.length ≤ 1099511627776) :
  Calls Try.prog 40 #[.slice a ls.length ca, .slice b ls.length cb] w fun e w' => e = .returned (.bool true) ∧ Below w.heap.size w w' := by
 rcases ha.cases with rfl | ⟨b1, o1, rfl, hpos, hc1⟩
 ·go_enter Try.func40, Try.ntmps40
  go_wp2
  refine wp_loop_rounds 1 ?_
  rw [rounds_succ]
  go_wp2
  go_ret
  exact ⟨rfl, Below.refl _ _⟩
 ·rcases hb.cases with rfl | ⟨b2, o2, rfl, _, hc2⟩
  ·simp at hpos
  ·go_enter Try.func40, Try.ntmps40
   go_wp2
   go_loopw [5] (fun i wr => ∃ k : Nat, k ≤ ls.length ∧ i = .int .i64 k ∧ Below w.heap.size w wr) (fun i _ => ls.length - (intOf i).toNat)
   case atStart => exact ⟨0, Nat.zero_le _, rfl, Below.refl _ _⟩
   case round =>
    obtain ⟨k, hk, rfl, hbl⟩ := hrel
    by_cases hlt : k < ls.length
    ·have h1 := hc1 k hlt
     have h2 := hc2 k hlt
     clear hc1 hc2
     generalize ls.getD k zeroH = z at *
     have HS : Hid (∀ w1, Below w.heap.size w w1 → (w1.cell? ⟨b1, o1 + k * 2, none⟩ = some (.int .i64 z.tx) ∧ w1.cell? ⟨b1, o1 + k * 2 + 1, none⟩ = some (.int .i64 z.oid)) ∧ (w1.cell? ⟨b2, o2 + k * 2, none⟩ = some (.int .i64 z.tx) ∧ w1.cell? ⟨b2, o2 + k * 2 + 1, none⟩ = some (.int .i64 z.oid))) := fun w1 hh =>
      ⟨⟨(hh.cell (block_lt h1.1)).trans h1.1, (hh.cell (block_lt h1.2)).trans h1.2⟩, (hh.cell (block_lt h2.1)).trans h2.1, (hh.cell (block_lt h2.2)).trans h2.2⟩
     have hh := HS.out wr hbl
     clear h1 h2
     go_wp2_with fail
     go_region_held3 (fun w1 => (w1.cell? ⟨b1, o1 + k * 2, none⟩ = some (.int .i64 z.tx) ∧ w1.cell? ⟨b1, o1 + k * 2 + 1, none⟩ = some (.int .i64 z.oid)) ∧ (w1.cell? ⟨b2, o2 + k * 2, none⟩ = some (.int .i64 z.tx) ∧ w1.cell? ⟨b2, o2 + k * 2 + 1, none⟩ = some (.int .i64 z.oid)))
      (first | exact HS.out _ hw2 | go_keep | fail)
      ((first | (go_at_call 62; refine (eqHold_same z _).mono ?_; rintro e w2 ⟨rfl, hb2⟩; have hw2 : Below w.heap.size w w2 := (hbl.drew).trans (hb2.mono hbl.size)) | fail))
     all_goals
      go_wp2_with fail
      go_roundw
      case rel => exact ⟨k + 1, by omega, by go_num, hw2⟩
      case measure => simp [intOf]; omega
    ·go_wp2
     go_ret
     exact ⟨rfl, hbl⟩
def markH1 (k0 : Int) (i : Nat) : HoldV := ⟨k0 + 2 * i, k0 + 2 * i + 1⟩
def marksH (k0 : Int) (n : Nat) : List HoldV := (List.range n).map fun i : Nat => markH1 k0 i
theorem marksH_len (k0 : Int) (n : Nat) : (marksH k0 n).length = n := by simp [marksH]
theorem marksH_at (k0 : Int) (n i : Nat) (h : i < n) : (marksH k0 n).getD i zeroH = markH1 k0 i := by simp [marksH, List.getD, h]
theorem marksH_succ (k0 : Int) (n : Nat) : marksH k0 (n + 1) = marksH k0 n ++ [markH1 k0 n] := by simp [marksH, List.range_succ]
def markedH (k0 : Int) (xs : List HoldV) (k : Nat) : List HoldV := marksH k0 k ++ xs.drop k
theorem markedH_len (k0 : Int) (xs : List HoldV) (k : Nat) (h : k ≤ xs.length) : (markedH k0 xs k).length = xs.length := by simp [markedH, marksH_len]; omega
theorem markedH_set (k0 : Int) (xs : List HoldV) (k : Nat) (h : k < xs.length) : (markedH k0 xs k).set k (markH1 k0 k) = markedH k0 xs (k + 1) := by
 unfold markedH
 rw [List.set_append, if_neg (by rw [marksH_len]; omega), marksH_len, Nat.sub_self, marksH_succ, List.drop_eq_getElem_cons h, List.set_cons_zero]
 simp
theorem markedH_all (k0 : Int) (xs : List HoldV) : markedH k0 xs xs.length = marksH k0 xs.length := by simp [markedH]
theorem markHoldS_any (base : Nat) (a : Option Addr) (cap : Nat) (k0 : Int) (xs : List HoldV) (w : World)
  (hown : w.ownsRow base 99 2 (.slice a xs.length cap) xs.length (cellsH xs)) (h0 : 0 ≤ k0) (hl : k0 + 2 * xs.length ≤ 4611686018427387904) :
  Calls Try.prog 47 #[.slice a xs.length cap, .int .i64 k0] w fun e w' => e = .returned (.int .i64 (k0 + 2 * xs.length)) ∧
   w'.ownsRow base 99 2 (.slice a xs.length cap) xs.length (cellsH (marksH k0 xs.length)) ∧ w.grownBy w' (Value.slice a xs.length cap).ownBlock := by
 have hlen := hown.1
 rcases hown.2 with ⟨hv, h00⟩ | ⟨g, cap', cur, hv, hg, hgg, hr⟩
 ·simp only [Value.slice.injEq] at hv
  obtain ⟨rfl, h00', rfl⟩ := hv
  obtain rfl := List.length_eq_zero_iff.1 h00
  go_enter Try.func47, Try.ntmps47
  go_wp2
  refine wp_loop_rounds 1 ?_
  rw [rounds_succ]
  go_wp2
  go_ret
  exact ⟨by simp, hown, World.grownBy.refl _ _⟩
 ·simp only [Value.slice.injEq] at hv
  obtain ⟨rfl, _, rfl⟩ := hv
  clear hgg hr hlen
  have hM : w.ownsRow base 99 2 (.slice (some ⟨g, 0, none⟩) xs.length cap) xs.length (cellsH (markedH k0 xs 0)) := by simpa [markedH, marksH] using hown
  clear hown
  go_enter Try.func47, Try.ntmps47
  go_wp2
  go_loopw [1, 5] (fun kk i wr => ∃ k : Nat, k ≤ xs.length ∧ i = .int .i64 k ∧ kk = .int .i64 (k0 + 2 * k) ∧ wr.ownsRow base 99 2 (.slice (some ⟨g, 0, none⟩) xs.length cap) xs.length (cellsH (markedH k0 xs k)) ∧ w.grownBy wr (some g))
   (fun _ i _ => xs.length - (intOf i).toNat)
  case atStart => exact ⟨0, Nat.zero_le _, rfl, by simp, hM, World.grownBy.refl _ _⟩
  case round =>
   obtain ⟨k, hk, rfl, rfl, hown, hgr⟩ := hrel
   clear hM
   by_cases hlt : k < xs.length
   ·have hp := markedH_len k0 xs k hk
    obtain ⟨x0, x1, hfz⟩ := row_hold hown hp k hlt
    have f0 := hfz (k * 2)
    have f1 := hfz (k * 2 + 1)
    obtain ⟨W2, hW2, ho2, hg2⟩ := row_storeH hown hp k hlt (markH1 k0 k)
    rw [markedH_set k0 xs k hlt] at ho2
    have HH : Hid (_ ∧ _) := ⟨ho2, grownBy_trans hgr hg2⟩
    clear ho2 hg2 hfz hown hgr
    generalize (markedH k0 xs k).getD k zeroH = old at *
    simp only [markH1] at hW2
    go_wp2
    rw [hW2.out]
    go_roundw
    case rel => exact ⟨k + 1, by omega, by go_num, by go_num, HH.out.1, HH.out.2⟩
    case measure => simp [intOf]; omega
   ·have HE : Hid (wr.ownsRow base 99 2 (.slice (some ⟨g, 0, none⟩) xs.length cap) xs.length (cellsH (marksH k0 xs.length)) ∧ k = xs.length) := by
     have e : k = xs.length := by omega
     rw [e, markedH_all] at hown
     exact ⟨hown, e⟩
    go_wp2
    go_ret
    exact ⟨ret_int (by have := HE.out.2; omega), HE.out.1, hgr⟩
theorem markHoldS_own (lo hi : Nat) (a : Option Addr) (cap : Nat) (k0 : Int) (xs : List HoldV) (w : World) (ho : OwnH w lo hi a cap xs) (h0 : 0 ≤ k0) (hl : k0 + 2 * xs.length ≤ 4611686018427387904) :
  Calls Try.prog 47 #[.slice a xs.length cap, .int .i64 k0] w fun e w' => e = .returned (.int .i64 (k0 + 2 * xs.length)) ∧
   OwnH w' lo hi a cap (marksH k0 xs.length) ∧ Touch (Value.slice a xs.length cap).ownBlock.toList w w' := by
 refine (markHoldS_any lo a cap k0 xs w ho.1 h0 hl).mono ?_
 rintro e w' ⟨rfl, h1, h2⟩
 refine ⟨rfl, ⟨by rw [marksH_len]; exact h1, Nat.le_trans ho.2.1 h2.size, by rw [marksH_len]; exact ho.2.2⟩, Touch.of_grown h2 (fun j hj => Option.mem_toList.2 hj)⟩
theorem heldHoldS_any (a : Option Addr) (cap : Nat) (k0 : Int) (n : Nat) (w : World) (hr : ReadsH w a (marksH k0 n)) (h0 : 0 ≤ k0) (hl : k0 + 2 * n ≤ 4611686018427387904) :
  Calls Try.prog 53 #[.slice a n cap, .int .i64 k0] w fun e w' => e = .returned (.int .i64 (k0 + 2 * n)) ∧ w' = w := by
 rcases hr.cases with h | ⟨b, off, rfl, hpos, hcell⟩
 ·have h' := congrArg List.length h
  rw [marksH_len] at h'
  simp at h'
  subst h'
  go_enter Try.func53, Try.ntmps53
  go_wp2
  refine wp_loop_rounds 1 ?_
  rw [rounds_succ]
  go_wp2
  go_ret
  exact ⟨by simp, rfl⟩
 ·rw [marksH_len] at hpos hcell
  go_enter Try.func53, Try.ntmps53
  go_wp2
  go_loop [1, 5] (fun kk i => ∃ k : Nat, k ≤ n ∧ i = .int .i64 k ∧ kk = .int .i64 (k0 + 2 * k)) (fun _ i => n - (intOf i).toNat)
  case atStart => exact ⟨0, Nat.zero_le _, rfl, by simp⟩
  case round =>
   obtain ⟨k, hk, rfl, rfl⟩ := hrel
   by_cases hlt : k < n
   ·obtain ⟨c0, c1⟩ := hcell k hlt
    rw [marksH_at k0 n k hlt] at c0 c1
    simp only [markH1] at c0 c1
    clear hcell
    go_wp2
    go_round
    case rel => exact ⟨k + 1, by omega, by go_num, by go_num⟩
    case measure => simp [intOf]; omega
   ·have HE : Hid (k = n) := by show k = n; omega
    go_wp2
    go_ret
    exact ⟨ret_int (by have := HE.out; omega), rfl⟩
def markL1 (k0 : Int) (i : Nat) : LiveV := ⟨k0 + 3 * i, k0 + 3 * i + 1, ((k0 + 3 * i + 1 + 1) % 3 == 0)⟩
def marksL (k0 : Int) (n : Nat) : List LiveV := (List.range n).map fun i : Nat => markL1 k0 i
theorem marksL_len (k0 : Int) (n : Nat) : (marksL k0 n).length = n := by simp [marksL]
theorem marksL_at (k0 : Int) (n i : Nat) (h : i < n) : (marksL k0 n).getD i zeroL = markL1 k0 i := by simp [marksL, List.getD, h]
theorem marksL_succ (k0 : Int) (n : Nat) : marksL k0 (n + 1) = marksL k0 n ++ [markL1 k0 n] := by simp [marksL, List.range_succ]
def markedL (k0 : Int) (xs : List LiveV) (k : Nat) : List LiveV := marksL k0 k ++ xs.drop k
theorem markedL_len (k0 : Int) (xs : List LiveV) (k : Nat) (h : k ≤ xs.length) : (markedL k0 xs k).length = xs.length := by simp [markedL, marksL_len]; omega
theorem markedL_set (k0 : Int) (xs : List LiveV) (k : Nat) (h : k < xs.length) : (markedL k0 xs k).set k (markL1 k0 k) = markedL k0 xs (k + 1) := by
 unfold markedL
 rw [List.set_append, if_neg (by rw [marksL_len]; omega), marksL_len, Nat.sub_self, marksL_succ, List.drop_eq_getElem_cons h, List.set_cons_zero]
 simp
theorem markedL_all (k0 : Int) (xs : List LiveV) : markedL k0 xs xs.length = marksL k0 xs.length := by simp [markedL]
theorem markLiveS_any (base : Nat) (a : Option Addr) (cap : Nat) (k0 : Int) (xs : List LiveV) (w : World)
  (hown : w.ownsRow base 96 3 (.slice a xs.length cap) xs.length (cellsL xs)) (h0 : 0 ≤ k0) (hl : k0 + 3 * xs.length ≤ 4611686018427387904) :
  Calls Try.prog 46 #[.slice a xs.length cap, .int .i64 k0] w fun e w' => e = .returned (.int .i64 (k0 + 3 * xs.length)) ∧
   w'.ownsRow base 96 3 (.slice a xs.length cap) xs.length (cellsL (marksL k0 xs.length)) ∧ w.grownBy w' (Value.slice a xs.length cap).ownBlock := by
 have hlen := hown.1
 rcases hown.2 with ⟨hv, h00⟩ | ⟨g, cap', cur, hv, hg, hgg, hr⟩
 ·simp only [Value.slice.injEq] at hv
  obtain ⟨rfl, h00', rfl⟩ := hv
  obtain rfl := List.length_eq_zero_iff.1 h00
  go_enter Try.func46, Try.ntmps46
  go_wp2
  refine wp_loop_rounds 1 ?_
  rw [rounds_succ]
  go_wp2
  go_ret
  exact ⟨by simp, hown, World.grownBy.refl _ _⟩
 ·simp only [Value.slice.injEq] at hv
  obtain ⟨rfl, _, rfl⟩ := hv
  clear hgg hr hlen
  have hM : w.ownsRow base 96 3 (.slice (some ⟨g, 0, none⟩) xs.length cap) xs.length (cellsL (markedL k0 xs 0)) := by simpa [markedL, marksL] using hown
  clear hown
  go_enter Try.func46, Try.ntmps46
  go_wp2
  go_loopw [1, 5] (fun kk i wr => ∃ k : Nat, k ≤ xs.length ∧ i = .int .i64 k ∧ kk = .int .i64 (k0 + 3 * k) ∧ wr.ownsRow base 96 3 (.slice (some ⟨g, 0, none⟩) xs.length cap) xs.length (cellsL (markedL k0 xs k)) ∧ w.grownBy wr (some g))
   (fun _ i _ => xs.length - (intOf i).toNat)
  case atStart => exact ⟨0, Nat.zero_le _, rfl, by simp, hM, World.grownBy.refl _ _⟩
  case round =>
   obtain ⟨k, hk, rfl, rfl, hown, hgr⟩ := hrel
   clear hM
   by_cases hlt : k < xs.length
   ·have hp := markedL_len k0 xs k hk
    obtain ⟨x0, x1, x2, hfz⟩ := row_live hown hp k hlt
    have f0 := hfz (k * 3)
    have f1 := hfz (k * 3 + 1)
    have f2 := hfz (k * 3 + 2)
    obtain ⟨W2, hW2, ho2, hg2⟩ := row_store hown hp k hlt (markL1 k0 k)
    rw [markedL_set k0 xs k hlt] at ho2
    have HH : Hid (_ ∧ _) := ⟨ho2, grownBy_trans hgr hg2⟩
    clear ho2 hg2 hfz hown hgr
    generalize (markedL k0 xs k).getD k zeroL = old at *
    simp only [markL1] at hW2
    go_wp2
    rw [hW2.out]
    go_roundw
    case rel => exact ⟨k + 1, by omega, by go_num, by go_num, HH.out.1, HH.out.2⟩
    case measure => simp [intOf]; omega
   ·have HE : Hid (wr.ownsRow base 96 3 (.slice (some ⟨g, 0, none⟩) xs.length cap) xs.length (cellsL (marksL k0 xs.length)) ∧ k = xs.length) := by
     have e : k = xs.length := by omega
     rw [e, markedL_all] at hown
     exact ⟨hown, e⟩
    go_wp2
    go_ret
    exact ⟨ret_int (by have := HE.out.2; omega), HE.out.1, hgr⟩
theorem markLiveS_own (lo hi : Nat) (a : Option Addr) (cap : Nat) (k0 : Int) (xs : List LiveV) (w : World) (ho : OwnL w lo hi a cap xs) (h0 : 0 ≤ k0) (hl : k0 + 3 * xs.length ≤ 4611686018427387904) :
  Calls Try.prog 46 #[.slice a xs.length cap, .int .i64 k0] w fun e w' => e = .returned (.int .i64 (k0 + 3 * xs.length)) ∧
   OwnL w' lo hi a cap (marksL k0 xs.length) ∧ Touch (Value.slice a xs.length cap).ownBlock.toList w w' := by
 refine (markLiveS_any lo a cap k0 xs w ho.1 h0 hl).mono ?_
 rintro e w' ⟨rfl, h1, h2⟩
 refine ⟨rfl, ⟨by rw [marksL_len]; exact h1, Nat.le_trans ho.2.1 h2.size, by rw [marksL_len]; exact ho.2.2⟩, Touch.of_grown h2 (fun j hj => Option.mem_toList.2 hj)⟩
theorem heldLiveS_any (a : Option Addr) (cap : Nat) (k0 : Int) (n : Nat) (w : World) (hr : ReadsL w a (marksL k0 n)) (h0 : 0 ≤ k0) (hl : k0 + 3 * n ≤ 4611686018427387904) :
  Calls Try.prog 52 #[.slice a n cap, .int .i64 k0] w fun e w' => e = .returned (.int .i64 (k0 + 3 * n)) ∧ w' = w := by
 rcases hr.cases with h | ⟨b, off, rfl, hpos, hcell⟩
 ·have h' := congrArg List.length h
  rw [marksL_len] at h'
  simp at h'
  subst h'
  go_enter Try.func52, Try.ntmps52
  go_wp2
  refine wp_loop_rounds 1 ?_
  rw [rounds_succ]
  go_wp2
  go_ret
  exact ⟨by simp, rfl⟩
 ·rw [marksL_len] at hpos hcell
  go_enter Try.func52, Try.ntmps52
  go_wp2
  go_loop [1, 5] (fun kk i => ∃ k : Nat, k ≤ n ∧ i = .int .i64 k ∧ kk = .int .i64 (k0 + 3 * k)) (fun _ i => n - (intOf i).toNat)
  case atStart => exact ⟨0, Nat.zero_le _, rfl, by simp⟩
  case round =>
   obtain ⟨k, hk, rfl, rfl⟩ := hrel
   by_cases hlt : k < n
   ·obtain ⟨c0, c1, c2⟩ := hcell k hlt
    rw [marksL_at k0 n k hlt] at c0 c1 c2
    simp only [markL1] at c0 c1 c2
    clear hcell
    go_wp2
    go_round
    case rel => exact ⟨k + 1, by omega, by go_num, by go_num⟩
    case measure => simp [intOf]; omega
   ·have HE : Hid (k = n) := by show k = n; omega
    go_wp2
    go_ret
    exact ⟨ret_int (by have := HE.out; omega), rfl⟩
structure GrantV where
 tx : Int
 res : Int
 mode : Int
def GrantV.cells (l : GrantV) : List Value := [.int .i64 l.tx, .int .i64 l.res, .int .i64 l.mode]
def zeroG : GrantV := ⟨0, 0, 0⟩
def cellsG (ls : List GrantV) : List Value := ls.flatMap GrantV.cells
theorem cellsG_at (ls : List GrantV) (k j : Nat) (hk : k < ls.length) (hj : j < 3) : (cellsG ls)[k * 3 + j]? = (ls.getD k zeroG).cells[j]? := by
 induction ls generalizing k with
 | nil => simp at hk
 | cons s r ih =>
  have e : cellsG (s :: r) = s.cells ++ cellsG r := by simp [cellsG]
  have l3 : s.cells.length = 3 := rfl
  rw [e]
  cases k with
  | zero => rw [List.getElem?_append_left (by rw [l3]; omega)]; simp
  | succ k =>
   rw [List.getElem?_append_right (by rw [l3]; omega), l3]
   have := ih k (by simpa using hk)
   rw [show (k + 1) * 3 + j - 3 = k * 3 + j by omega, this]
   simp
theorem cellsG_set (ls : List GrantV) (k : Nat) (hk : k < ls.length) (t : GrantV) :
  (((cellsG ls).set (k * 3) (.int .i64 t.tx)).set (k * 3 + 1) (.int .i64 t.res)).set (k * 3 + 2) (.int .i64 t.mode) = cellsG (ls.set k t) := by
 induction ls generalizing k with
 | nil => simp at hk
 | cons s r ih =>
  cases k with
  | zero => simp [cellsG, GrantV.cells]
  | succ k =>
   have := ih k (by simpa using hk)
   have e2 : ∀ x, cellsG (s :: x) = s.cells ++ cellsG x := fun x => by simp [cellsG]
   have l3 : s.cells.length = 3 := rfl
   rw [e2, List.set_append_right _ _ (by rw [l3]; omega), List.set_append_right _ _ (by rw [l3]; omega), List.set_append_right _ _ (by rw [l3]; omega), l3, show (k + 1) * 3 - 3 = k * 3 by omega, show (k + 1) * 3 + 1 - 3 = k * 3 + 1 by omega, show (k + 1) * 3 + 2 - 3 = k * 3 + 2 by omega, this, List.set_cons_succ, e2]
def ReadsG (w : World) (a : Option Addr) (ls : List GrantV) : Prop := ls ≠ [] → ∃ b off, a = some ⟨b, off, none⟩ ∧ ∀ k, k < ls.length → w.cell? ⟨b, off + k * 3, none⟩ = some (.int .i64 (ls.getD k zeroG).tx) ∧ w.cell? ⟨b, off + k * 3 + 1, none⟩ = some (.int .i64 (ls.getD k zeroG).res) ∧ w.cell? ⟨b, off + k * 3 + 2, none⟩ = some (.int .i64 (ls.getD k zeroG).mode)
theorem ReadsG.nil (w : World) (a : Option Addr) : ReadsG w a [] := fun h => absurd rfl h
theorem ReadsG.below {w w' : World} {a : Option Addr} {ls : List GrantV} (h : ReadsG w a ls) (hb : Below w.heap.size w w') : ReadsG w' a ls := by
 intro hne
 obtain ⟨b, off, ha, hc⟩ := h hne
 refine ⟨b, off, ha, fun k hk => ?_⟩
 obtain ⟨h0, h1, h2⟩ := hc k hk
 have hlt := block_lt h0
 exact ⟨by rw [hb.cell (p := ⟨b, off + k * 3, none⟩) hlt]; exact h0, by rw [hb.cell (p := ⟨b, off + k * 3 + 1, none⟩) hlt]; exact h1, by rw [hb.cell (p := ⟨b, off + k * 3 + 2, none⟩) hlt]; exact h2⟩
theorem ReadsG.cases {w : World} {a : Option Addr} {ls : List GrantV} (h : ReadsG w a ls) : ls = [] ∨ ∃ b off, a = some ⟨b, off, none⟩ ∧ 0 < ls.length ∧ ∀ k, k < ls.length → w.cell? ⟨b, off + k * 3, none⟩ = some (.int .i64 (ls.getD k zeroG).tx) ∧ w.cell? ⟨b, off + k * 3 + 1, none⟩ = some (.int .i64 (ls.getD k zeroG).res) ∧ w.cell? ⟨b, off + k * 3 + 2, none⟩ = some (.int .i64 (ls.getD k zeroG).mode) := by
 by_cases e : ls = []
 ·exact .inl e
 ·obtain ⟨b, off, ha, hc⟩ := h e
  exact .inr ⟨b, off, ha, List.length_pos_iff.2 e, hc⟩
def OwnG (w : World) (lo hi : Nat) (a : Option Addr) (c : Nat) (ls : List GrantV) : Prop :=
 w.ownsRow lo 102 3 (.slice a ls.length c) ls.length (cellsG ls) ∧ hi ≤ w.heap.size ∧ ∀ k, (Value.slice a ls.length c).ownBlock = some k → k < hi
theorem OwnG.lt {w : World} {lo hi : Nat} {a : Option Addr} {c : Nat} {ls : List GrantV} (h : OwnG w lo hi a c ls) : ∀ k, (Value.slice a ls.length c).ownBlock = some k → lo ≤ k ∧ k < hi := fun k hk => ⟨(h.1.lt k hk).1, h.2.2 k hk⟩
theorem OwnG.touch {w w' : World} {lo hi : Nat} {a : Option Addr} {c : Nat} {ls : List GrantV} {bl : List Nat} (h : OwnG w lo hi a c ls) (ht : Touch bl w w') (hd : ∀ k, (Value.slice a ls.length c).ownBlock = some k → k ∉ bl) : OwnG w' lo hi a c ls :=
 ⟨ownsRow_block h.1 (fun k hk => ht.block k (h.1.lt k hk).2 (hd k hk)), Nat.le_trans h.2.1 ht.size, h.2.2⟩
theorem OwnG.widen {w : World} {lo hi lo' hi' : Nat} {a : Option Addr} {c : Nat} {ls : List GrantV} (h : OwnG w lo hi a c ls) (h1 : lo' ≤ lo) (h2 : hi ≤ hi') (h3 : hi' ≤ w.heap.size) : OwnG w lo' hi' a c ls :=
 ⟨ownsRow_base h.1 (fun k hk => by have := h.lt k hk; omega), h3, fun k hk => by have := h.lt k hk; omega⟩
theorem ownG_nil (w : World) (lo hi : Nat) (h : hi ≤ w.heap.size) : OwnG w lo hi none 0 [] := ⟨⟨by simp [cellsG], .inl ⟨rfl, rfl⟩⟩, h, fun k hk => by cases hk⟩
theorem OwnG.nocap {w : World} {lo hi : Nat} {a : Option Addr} {c : Nat} {ls : List GrantV} (h : OwnG w lo hi a c ls) : a = none → c = 0 := by
 intro ha
 rcases h.1.2 with ⟨hv, _⟩ | ⟨g, cap, cur, hv, _⟩
 ·simp only [Value.slice.injEq] at hv; exact hv.2.2
 ·simp [ha] at hv
theorem row_grant {w : World} {base g n cap : Nat} {ls : List GrantV} (h : w.ownsRow base 102 3 (.slice (some ⟨g, 0, none⟩) n cap) n (cellsG ls)) (hn : ls.length = n) (k : Nat) (hk : k < n) :
  w.cell? ⟨g, k * 3, none⟩ = some (.int .i64 (ls.getD k zeroG).tx) ∧ w.cell? ⟨g, k * 3 + 1, none⟩ = some (.int .i64 (ls.getD k zeroG).res) ∧ w.cell? ⟨g, k * 3 + 2, none⟩ = some (.int .i64 (ls.getD k zeroG).mode) ∧ (∀ i, w.frozen? ⟨g, i, none⟩ = false) := by
 have a0 := cellsG_at ls k 0 (by omega) (by omega)
 have a1 := cellsG_at ls k 1 (by omega) (by omega)
 have a2 := cellsG_at ls k 2 (by omega) (by omega)
 simp only [GrantV.cells, Nat.add_zero, List.getElem?_cons_zero, List.getElem?_cons_succ] at a0 a1 a2
 exact ⟨by rw [h.cellAt (k * 3) (by omega)]; exact a0, by rw [h.cellAt (k * 3 + 1) (by omega)]; exact a1, by rw [h.cellAt (k * 3 + 2) (by omega)]; exact a2, fun i => h.frozenAt i⟩
theorem row_storeG {w : World} {base g n cap : Nat} {ls : List GrantV} (h : w.ownsRow base 102 3 (.slice (some ⟨g, 0, none⟩) n cap) n (cellsG ls)) (hn : ls.length = n) (k : Nat) (hk : k < n) (t : GrantV) :
  ∃ W, Hid (((w.setCell ⟨g, k * 3, none⟩ (.int .i64 t.tx)).setCell ⟨g, k * 3 + 1, none⟩ (.int .i64 t.res)).setCell ⟨g, k * 3 + 2, none⟩ (.int .i64 t.mode) = W) ∧ W.ownsRow base 102 3 (.slice (some ⟨g, 0, none⟩) n cap) n (cellsG (ls.set k t)) ∧ w.grownBy W (some g) := by
 have s1 := h.stored (k * 3) (.int .i64 t.tx)
 have s2 := s1.1.stored (k * 3 + 1) (.int .i64 t.res)
 have s3 := s2.1.stored (k * 3 + 2) (.int .i64 t.mode)
 refine ⟨_, rfl, ?_, grownBy_trans (grownBy_trans s1.2 s2.2) s3.2⟩
 have := s3.1
 rw [cellsG_set ls k (by omega) t] at this
 exact this
theorem OwnG.reads {w : World} {lo hi : Nat} {a : Option Addr} {c : Nat} {ls : List GrantV} (h : OwnG w lo hi a c ls) : ReadsG w a ls := by
 intro hne
 rcases h.1.2 with ⟨_, h0⟩ | ⟨g, cap', cur, hv, hb, hg, hr⟩
 ·exact absurd (List.length_eq_zero_iff.1 h0) hne
 ·simp only [Value.slice.injEq] at hv
  obtain ⟨rfl, _, rfl⟩ := hv
  refine ⟨g, 0, rfl, fun k hk => ?_⟩
  obtain ⟨a0, a1, a2, _⟩ := row_grant h.1 rfl k hk
  rw [Nat.zero_add]
  exact ⟨a0, a1, a2⟩
theorem eqGrant_same (l : GrantV) (w : World) :
  Calls Try.prog 63 #[.agg l.cells.toArray, .agg l.cells.toArray] w fun e w' => e = .returned (.bool true) ∧ Below w.heap.size w w' := by
 obtain ⟨x, y, z⟩ := l
 simp only [GrantV.cells]
 obtain ⟨W, hW, b0, b1, hbW, hsW⟩ := boxes2 w [.int .i64 x, .int .i64 y, .int .i64 z] [.int .i64 x, .int .i64 y, .int .i64 z] 102 102
 clear b0 b1 hsW
 go_enter Try.func63, Try.ntmps63
 go_wp2
 rw [hW.out]
 go_ret
 exact ⟨rfl, hbW⟩
theorem eqGrantS_same (a b : Option Addr) (ca cb : Nat) (ls : List GrantV) (w : World) (ha : ReadsG w a ls) (hb : ReadsG w b ls) (hl : ls.length ≤ 1099511627776) :
  Calls Try.prog 41 #[.slice a ls.length ca, .slice b ls.length cb] w fun e w' => e = .returned (.bool true) ∧ Below w.heap.size w w' := by
 rcases ha.cases with rfl | ⟨b1, o1, rfl, hpos, hc1⟩
 ·go_enter Try.func41, Try.ntmps41
  go_wp2
  refine wp_loop_rounds 1 ?_
  rw [rounds_succ]
  go_wp2
  go_ret
  exact ⟨rfl, Below.refl _ _⟩
 ·rcases hb.cases with rfl | ⟨b2, o2, rfl, _, hc2⟩
  ·simp at hpos
  ·go_enter Try.func41, Try.ntmps41
   go_wp2
   go_loopw [5] (fun i wr => ∃ k : Nat, k ≤ ls.length ∧ i = .int .i64 k ∧ Below w.heap.size w wr) (fun i _ => ls.length - (intOf i).toNat)
   case atStart => exact ⟨0, Nat.zero_le _, rfl, Below.refl _ _⟩
   case round =>
    obtain ⟨k, hk, rfl, hbl⟩ := hrel
    by_cases hlt : k < ls.length
    ·have h1 := hc1 k hlt
     have h2 := hc2 k hlt
     clear hc1 hc2
     generalize ls.getD k zeroG = z at *
     have HS : Hid (∀ w1, Below w.heap.size w w1 → (w1.cell? ⟨b1, o1 + k * 3, none⟩ = some (.int .i64 z.tx) ∧ w1.cell? ⟨b1, o1 + k * 3 + 1, none⟩ = some (.int .i64 z.res) ∧ w1.cell? ⟨b1, o1 + k * 3 + 2, none⟩ = some (.int .i64 z.mode)) ∧ (w1.cell? ⟨b2, o2 + k * 3, none⟩ = some (.int .i64 z.tx) ∧ w1.cell? ⟨b2, o2 + k * 3 + 1, none⟩ = some (.int .i64 z.res) ∧ w1.cell? ⟨b2, o2 + k * 3 + 2, none⟩ = some (.int .i64 z.mode))) := fun w1 hh =>
      ⟨⟨(hh.cell (block_lt h1.1)).trans h1.1, (hh.cell (block_lt h1.2.1)).trans h1.2.1, (hh.cell (block_lt h1.2.2)).trans h1.2.2⟩, (hh.cell (block_lt h2.1)).trans h2.1, (hh.cell (block_lt h2.2.1)).trans h2.2.1, (hh.cell (block_lt h2.2.2)).trans h2.2.2⟩
     have hh := HS.out wr hbl
     clear h1 h2
     go_wp2_with fail
     go_region_held3 (fun w1 => (w1.cell? ⟨b1, o1 + k * 3, none⟩ = some (.int .i64 z.tx) ∧ w1.cell? ⟨b1, o1 + k * 3 + 1, none⟩ = some (.int .i64 z.res) ∧ w1.cell? ⟨b1, o1 + k * 3 + 2, none⟩ = some (.int .i64 z.mode)) ∧ (w1.cell? ⟨b2, o2 + k * 3, none⟩ = some (.int .i64 z.tx) ∧ w1.cell? ⟨b2, o2 + k * 3 + 1, none⟩ = some (.int .i64 z.res) ∧ w1.cell? ⟨b2, o2 + k * 3 + 2, none⟩ = some (.int .i64 z.mode)))
      (first | exact HS.out _ hw2 | go_keep | fail)
      ((first | (go_at_call 63; refine (eqGrant_same z _).mono ?_; rintro e w2 ⟨rfl, hb2⟩; have hw2 : Below w.heap.size w w2 := (hbl.drew).trans (hb2.mono hbl.size)) | fail))
     all_goals
      go_wp2_with fail
      go_roundw
      case rel => exact ⟨k + 1, by omega, by go_num, hw2⟩
      case measure => simp [intOf]; omega
    ·go_wp2
     go_ret
     exact ⟨rfl, hbl⟩
end Go.Proofs.Ytgnkplbefclpgaa
namespace Go.Proofs.Ytgnkplbefclpgaa
end Go.Proofs.Ytgnkplbefclpgaa
namespace Go.Proofs.Ytgnkplbefclpgaa
open Go.RowKit
end Go.Proofs.Ytgnkplbefclpgaa
namespace Go.Proofs.Ytgnkplbefclpgaa
theorem take_step {α : Type} (ls : List α) (z : α) (k : Nat) (h : k < ls.length) : ls.take (k + 1) = ls.take k ++ [ls.getD k z] := by
 rw [List.take_succ_eq_append_getElem h]
 simp [List.getD, h]
theorem any_end {α : Type} {p : α → Bool} {ls : List α} {k : Nat} (h : ¬ k < ls.length) (h0 : (ls.take k).any p = false) : ls.any p = false := by
 rwa [List.take_of_length_le (by omega)] at h0
theorem all_step {α : Type} {p : α → Bool} {ls : List α} {z : α} {k : Nat} (h : k < ls.length) (h0 : (ls.take k).all p = true) (h1 : p (ls.getD k z) = true) : (ls.take (k + 1)).all p = true := by
 rw [take_step ls z k h, List.all_append, h0, List.all_cons, h1]
 rfl
theorem all_hit {α : Type} {p : α → Bool} {ls : List α} {z : α} {k : Nat} (h : k < ls.length) (h1 : p (ls.getD k z) = false) : ls.all p = false := by
 rw [List.all_eq_false]
 exact ⟨ls.getD k z, by simp [List.getD, h], by rw [h1]; decide⟩
theorem all_end {α : Type} {p : α → Bool} {ls : List α} {k : Nat} (h : ¬ k < ls.length) (h0 : (ls.take k).all p = true) : ls.all p = true := by
 rwa [List.take_of_length_le (by omega)] at h0
end Go.Proofs.Ytgnkplbefclpgaa
namespace Go.Proofs.Ytgnkplbefclpgaa
open Go.RowKit
end Go.Proofs.Ytgnkplbefclpgaa
namespace Go.Proofs.Ytgnkplbefclpgaa
open Go.RowKit
structure LocksA where
 given : List GrantV
 waits : List GrantV
 aG : Option Addr
 cG : Nat
 aW : Option Addr
 cW : Nat
def LocksA.cells (l : LocksA) : List Value := [.slice l.aG l.given.length l.cG, .slice l.aW l.waits.length l.cW]
structure LocksA.reads (w : World) (l : LocksA) : Prop where
 given : ReadsG w l.aG l.given
 waits : ReadsG w l.aW l.waits
 ng : l.aG = none → l.cG = 0
 nw : l.aW = none → l.cW = 0
 lg : l.given.length ≤ l.cG
 lw : l.waits.length ≤ l.cW
theorem OwnG.cap {w : World} {lo hi : Nat} {a : Option Addr} {c : Nat} {ls : List GrantV} (h : OwnG w lo hi a c ls) : ls.length ≤ c := by
 rcases h.1.2 with ⟨hv, h0⟩ | ⟨g, cap, cur, hv, _, _, hr⟩
 ·omega
 ·simp only [Value.slice.injEq] at hv
  omega
theorem ReadsG.take {w : World} {a : Option Addr} {ls : List GrantV} (h : ReadsG w a ls) (k : Nat) : ReadsG w a (ls.take k) := by
 intro hne
 have hy : ls ≠ [] := by intro e; simp [e] at hne
 obtain ⟨b, off, ha, hc⟩ := h hy
 refine ⟨b, off, ha, fun i hi => ?_⟩
 have hi2 : i < k ∧ i < ls.length := by simp at hi; omega
 have : (ls.take k).getD i zeroG = ls.getD i zeroG := by simp [List.getD, hi2.1]
 rw [this]
 exact hc i hi2.2
structure LocksA.own (w : World) (lo hi : Nat) (l : LocksA) : Prop where
 given : OwnG w lo hi l.aG l.cG l.given
 waits : OwnG w lo hi l.aW l.cW l.waits
 apart : ∀ k, (Value.slice l.aG l.given.length l.cG).ownBlock = some k → (Value.slice l.aW l.waits.length l.cW).ownBlock ≠ some k
theorem LocksA.own.reads {w : World} {lo hi : Nat} {l : LocksA} (h : l.own w lo hi) : l.reads w := ⟨h.given.reads, h.waits.reads, h.given.nocap, h.waits.nocap, h.given.cap, h.waits.cap⟩
theorem LocksA.own.widen {w : World} {lo hi lo' hi' : Nat} {l : LocksA} (h : l.own w lo hi) (h1 : lo' ≤ lo) (h2 : hi ≤ hi') (h3 : hi' ≤ w.heap.size) : l.own w lo' hi' := ⟨h.given.widen h1 h2 h3, h.waits.widen h1 h2 h3, h.apart⟩
def LocksA.short (l : LocksA) (n : Nat) : Prop := l.given.length ≤ n ∧ l.waits.length ≤ n
end Go.Proofs.Ytgnkplbefclpgaa