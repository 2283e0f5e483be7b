/- Several texts in one, in their order. -/
import Derived.Test.YtickiokdcbeefaaGreatDoorPFnAppendedx9
import Derived.Deep.RegionLaw
import Derived.Deep.DrawnRows
import Derived.Test.YtickiokdcbeefaaGreatDoorProg
import Derived.Test.YtickiokdcbeefaaGreatDoorPFnAppendedx1
/- The walk of spec.l2Obj. -/
namespace Go.Proofs.YtickiokdcbeefaaGreatDoor
open Go.RowKit
attribute [local go_sem ↓] Go.wp_at_zero Go.wp_at_succ

set_option maxHeartbeats 4000000 in
set_option maxRecDepth 100000 in
theorem l2Obj_any (B : Nat) (zs : List Int) (w : World) (hc : CurAt w B zs) (hl : zs.length ≤ 70368744177664) :
    Calls Tryz.prog 108 #[.pointer (some ⟨B, 0, none⟩)] w fun e w' => ∃ aI cI aR cR o, e = .returned (.agg #[.int .i64 o.kind, .slice aI o.ints.length cI, .slice aR o.refs.length cR]) ∧ o.ints.length ≤ 3 ∧ o.refs.length ≤ 3 ∧ OwnO w' w.heap.size w'.heap.size aI cI aR cR o ∧ CurAt w' B zs ∧ w.grownBy w' (some B) := by
  have hB := hc.lt
  obtain ⟨W, hW, b0, hbW, hsW⟩ := boxes1 w [.int .i64 0, .slice none 0 0, .slice none 0 0] 37
  have hg0 : w.grownBy W (some B) := ⟨hbW.os, hbW.tape, hbW.output, hbW.size, fun k hk _ => hbW.block k hk⟩
  have hcW : CurAt W B zs := hc.below hbW
  have hsW' : w.heap.size < W.heap.size := by omega
  clear hsW hc
  go_enter Tryz.func108, Tryz.ntmps108
  go_wp2_with fail
  rw [hW.out]
  clear hW hbW
  refine (l1Below_any B zs 5 W hcW hl (by omega)).mono ?_
  rintro e w1 ⟨x, rfl, hx, hc1, hg1⟩
  have hx5 : (x : Int) < 5 := hx (by omega)
  have b1 : Box w1 w.heap.size _ _ := b0.block (hg1.block w.heap.size b0.lt (fun e => by cases e; omega))
  have hg01 := grownBy_trans hg0 hg1
  have hs1 := hg1.size
  clear hx b0 hg1 hg0 hcW
  obtain ⟨W2, hW2, b2, hbW2, hsW2⟩ := boxes1 w1 [.int .i64 (1 + (x : Int)), .slice none 0 0, .slice none 0 0] 37
  have hb1' := b1.below hbW2 b1.lt
  have hc2 : CurAt W2 B zs := hc1.below hbW2
  have hg2 : w.grownBy W2 (some B) := grownBy_new (row := none) hg01 ⟨hbW2.os, hbW2.tape, hbW2.output, hbW2.size, fun k hk _ => hbW2.block k hk⟩ (fun k e => by cases e)
  have ho2 : ObjAt W2 (w1.heap.size + 1) w1.heap.size ⟨1 + (x : Int), [], []⟩ none 0 none 0 := ⟨b2, ⟨ownI_nil _ _ _ (Nat.le_refl _), ownI_nil _ _ _ (Nat.le_refl _), fun k hk => by cases hk⟩, by omega⟩
  have hsW2' : w1.heap.size < W2.heap.size := by omega
  clear hsW2 b1 b2 hbW2 hg01 hc1
  go_wp2_with fail
  rw [hW2.out]
  clear hW2
  generalize 1 + (x : Int) = q at *
  generalize w1.heap.size = Bo at *
  refine (l1Below_any B zs 3 W2 hc2 hl (by omega)).mono ?_
  rintro e w3 ⟨y, rfl, hy, hc3, hg3⟩
  have hy3 : (y : Int) < 3 := hy (by omega)
  have hBB : B < Bo := by omega
  have hwB : w.heap.size < Bo := by omega
  have b3 : Box w3 w.heap.size _ _ := hb1'.block (hg3.block w.heap.size hb1'.lt (fun e => by cases e; omega))
  have ho3 := ho2.kept hg3 hBB
  have hgw3 := grownBy_trans hg2 hg3
  clear hy hb1' hc2 hg2 hg3 ho2 hsW2' hs1 hsW' hx5
  go_wp2_with fail
  go_loopw [4] (fun i wr => ∃ (k : Nat) (aI : Option Addr) (cI : Nat) (is : List Int), i = .int .i64 k ∧ k ≤ 2 ∧ is.length + k ≤ 2 ∧ ObjAt wr (Bo + 1) Bo ⟨q, is, []⟩ aI cI none 0 ∧ Box wr w.heap.size [.int .i64 0, .slice none 0 0, .slice none 0 0] 37 ∧ CurAt wr B zs ∧ w.grownBy wr (some B))
    (fun i _ => (intOf i).toNat)
  case atStart => exact ⟨y, none, 0, [], rfl, by omega, by simp; omega, ho3, b3, hc3, hgw3⟩
  case round =>
    obtain ⟨k, aI, cI, is, rfl, hk, hik, ho, hb, hcr, hgr⟩ := hrel
    clear ho3 b3 hc3 hgw3 hy3
    cases k with
    | zero =>
      have hil : is.length ≤ 2 := by omega
      clear hik hk
      go_wp2_with fail
      refine (l1Below_any B zs 4 wr hcr hl (by omega)).mono ?_
      rintro e w4 ⟨z, rfl, hz, hc4, hg4⟩
      have hz4 : (z : Int) < 4 := hz (by omega)
      have b4 := hb.grown hg4 (by omega)
      have ho4 := ho.kept hg4 hBB
      have hgw4 := grownBy_trans hgr hg4
      clear hz hcr hb ho hgr hg4
      go_wp2_with fail
      go_loopw [5] (fun i wr => ∃ (k : Nat) (aR : Option Addr) (cR : Nat) (rs : List Int), i = .int .i64 k ∧ k ≤ 3 ∧ rs.length + k ≤ 3 ∧ ObjAt wr (Bo + 1) Bo ⟨q, is, rs⟩ aI cI aR cR ∧ Box wr w.heap.size [.int .i64 0, .slice none 0 0, .slice none 0 0] 37 ∧ CurAt wr B zs ∧ w.grownBy wr (some B))
        (fun i _ => (intOf i).toNat)
      case atStart => exact ⟨z, none, 0, [], rfl, by omega, by simp; omega, ho4, b4, hc4, hgw4⟩
      case round =>
        clear ho4 b4 hc4 hgw4 hz4 w4
        rename_i _ wx
        obtain ⟨k, aR, cR, rs, rfl, hk, hik, ho, hb, hcr, hgr⟩ := hrel
        cases k with
        | zero =>
          have hrl : rs.length ≤ 3 := by omega
          clear hik hk
          obtain ⟨c0, c1, c2, _, _, _⟩ := ho.three
          obtain ⟨x0, x1, x2, g0, g1, g2⟩ := hb.three
          obtain ⟨WF, hWF, bF, hwF, hsF⟩ := box3_fill hb (.int .i64 q) (.slice aI is.length cI) (.slice aR rs.length cR)
          go_wp2
          rw [hWF.out]
          obtain ⟨q0, q1, q2, _, _, _⟩ := bF.three
          have hlo := ho.lt
          have hgF : wr.grownBy WF (some w.heap.size) := ⟨hwF.os, hwF.tape, hwF.output, hwF.size, fun k hk hn => hwF.block k hk (fun h => hn (by rw [show k = w.heap.size by omega]))⟩
          exact bodyPost_ret (v := .agg #[.int .i64 q, .slice aI is.length cI, .slice aR rs.length cR]) (by simp [results, Tryz.results108, go_sem, q0, q1, q2]) rfl ⟨aI, cI, aR, cR, ⟨q, is, rs⟩, rfl, by simp only; omega, hrl, (ho.own.kept hgF (by omega)).widen (by omega) (Nat.le_refl _) (Nat.le_refl _), hcr.kept hgF (fun k e => by cases e; exact hB), grownBy_new hgr hgF (fun k e => by cases e; exact Nat.le_refl _)⟩
        | succ m =>
          have hkp : (0 : Int) < ((m + 1 : Nat) : Int) := by omega
          obtain ⟨_, _, c2, _, _, f2⟩ := ho.three
          go_wp2_with fail
          go_region_law ((first
            | (go_simp; go_at_call 42; refine (l1Below_any B zs 32 _ (by exact hcr.drew) hl (by omega)).mono ?_; rintro e u1 ⟨x, rfl, hx, hc1, hg1⟩; have hg1' := grownBy_trans (grown_drew _ (some B)) hg1; have ho1 := ho.kept hg1' hBB; obtain ⟨_, _, d2, _, _, _⟩ := ho1.three; have dA := fun ob => (ho1.alloc ob).three.2.2.1)
            | (go_simp; go_at_call 38; refine (l1Int_any B zs _ _ [0, 1, 2, 3, 5, 8, 12, 31, (x : Int)] _ (hc1.alloc _) hl (readsI_lit u1 _ _) (fun b off e => by cases e; have := hc1.lt; omega) (by simp) (by simp)).mono ?_; rintro e u2 ⟨j, hj, rfl, hc2, hg2⟩; generalize List.getD _ j (0 : Int) = n; have hg2' := grownBy_trans (World.grownBy_alloc u1 _ (some B)) hg2; have ho2 := ho1.kept hg2' hBB; obtain ⟨_, _, d2, _, _, _⟩ := ho2.three; have dA := fun ob => (ho2.alloc ob).three.2.2.1)
            | (refine step_append_ints rfl (.tmp 33) (.tmp 39) (by rfl) (Bo + 1) _ aR cR rs (by rfl) (ho2.alloc _).own.refs _ _ [n] (by rfl) (readsI_lit u2 [n] _) (by intro h; cases h) (by simp; omega) (by have := ho2.box.lt; simp; omega) ?_; intro a3 c3 y3 u3 hy3 ho3 hg3 hat3; obtain ⟨⟨d2, f2⟩, hO, hC, hG, hT⟩ := (ho2.alloc _).pushR (hc2.alloc _) hBB (grownBy_new (grownBy_trans (grownBy_trans hgr hg1') hg2') (World.grownBy_alloc u2 _ none) (fun j e => by cases e)) (by omega) ho3 hg3 hat3)))
          all_goals
            have hbF := (((hb.grown hg1' (by omega)).grown hg2' (by omega)).alloc _).block (hT w.heap.size (by omega) (by omega) (((hb.grown hg1' (by omega)).grown hg2' (by omega)).alloc _).lt)
            have hyl : y3.length + m ≤ 3 := by have := congrArg List.length hy3.out; simp at this; omega
            clear hT hat3 hg3 ho3 dA d2 f2 hc1 hc2 ho1 ho2 hg1' hg2' hcr hgr hb ho hg1 hg2 hy3
            generalize u3.setCell _ _ = wf at *
            go_wp2_with fail
            go_roundw
            case rel => exact ⟨m, a3, c3, y3, by go_num, by omega, hyl, hO, hbF, hC, hG⟩
            case measure => simp [intOf]
    | succ m =>
      have hkp : (0 : Int) < ((m + 1 : Nat) : Int) := by omega
      obtain ⟨_, c1, _, _, f1, _⟩ := ho.three
      go_wp2_with fail
      go_region_law ((first
        | (go_simp; go_at_call 42; refine (l1Below_any B zs 50 _ (by exact hcr.drew) hl (by omega)).mono ?_; rintro e u1 ⟨x, rfl, hx, hc1, hg1⟩; have hg1' := grownBy_trans (grown_drew wr (some B)) hg1; have ho1 := ho.kept hg1' hBB; obtain ⟨_, d1, _, _, _, _⟩ := ho1.three; have dA := fun ob => (ho1.alloc ob).three.2.1)
        | (go_simp; go_at_call 38; refine (l1Int_any B zs _ _ [0, 1, -1, 7, 1000000, -1000000, (x : Int)] _ (hc1.alloc _) hl (readsI_lit u1 _ _) (fun b off e => by cases e; have := hc1.lt; omega) (by simp) (by simp)).mono ?_; rintro e u2 ⟨j, hj, rfl, hc2, hg2⟩; generalize List.getD _ j (0 : Int) = n; have hg2' := grownBy_trans (World.grownBy_alloc u1 _ (some B)) hg2; have ho2 := ho1.kept hg2' hBB; obtain ⟨_, d1, _, _, _, _⟩ := ho2.three; have dA := fun ob => (ho2.alloc ob).three.2.1)
        | (refine step_append_ints rfl (.tmp 17) (.tmp 23) (by rfl) (Bo + 1) _ aI cI is (by rfl) (ho2.alloc _).own.ints _ _ [n] (by rfl) (readsI_lit u2 [n] _) (by intro h; cases h) (by simp; omega) (by have := ho2.box.lt; simp; omega) ?_; intro a3 c3 y3 u3 hy3 ho3 hg3 hat3; obtain ⟨⟨d1, f1⟩, hO, hC, hG, hT⟩ := (ho2.alloc _).pushI (hc2.alloc _) hBB (grownBy_new (grownBy_trans (grownBy_trans hgr hg1') hg2') (World.grownBy_alloc u2 _ none) (fun j e => by cases e)) (by omega) ho3 hg3 hat3)))
      all_goals
        have hbF := (((hb.grown hg1' (by omega)).grown hg2' (by omega)).alloc _).block (hT w.heap.size (by omega) (by omega) (((hb.grown hg1' (by omega)).grown hg2' (by omega)).alloc _).lt)
        have hyl : y3.length + m ≤ 2 := by have := congrArg List.length hy3.out; simp at this; omega
        clear hT hat3 hg3 ho3 dA d1 f1 hc1 hc2 ho1 ho2 hg1' hg2' hcr hgr hb ho hg1 hg2 hy3
        generalize u3.setCell _ _ = wf at *
        go_wp2_with fail
        go_roundw
        case rel => exact ⟨m, a3, c3, y3, by go_num, by omega, hyl, hO, hbF, hC, hG⟩
        case measure => simp [intOf]
end Go.Proofs.YtickiokdcbeefaaGreatDoor

/- The walk of spec.l2Bend. -/
namespace Go.Proofs.YtickiokdcbeefaaGreatDoor
open Go.RowKit
attribute [local go_sem ↓] Go.wp_at_zero Go.wp_at_succ

end Go.Proofs.YtickiokdcbeefaaGreatDoor

/- The walks of spec.l1Once, l2ObjAny and DrawPutObj. -/
namespace Go.Proofs.YtickiokdcbeefaaGreatDoor
open Go.RowKit

theorem l1Once_any (B : Nat) (zs : List Int) (n : Int) (w : World) (hc : CurAt w B zs) (hl : zs.length ≤ 70368744177664) (hn : n ≤ 1000000000) :
    Calls Tryz.prog 66 #[.pointer (some ⟨B, 0, none⟩), .int .i64 n] w fun e w' => ∃ b : Bool, e = .returned (.bool b) ∧ CurAt w' B zs ∧ w.grownBy w' (some B) := by
  go_enter Tryz.func66, Tryz.ntmps66
  go_wp2_with fail
  refine (l1Below_any B zs n w hc hl hn).mono ?_
  rintro e w1 ⟨x, rfl, _, hc1, hg1⟩
  go_wp2
  go_ret
  exact ⟨_, rfl, hc1, hg1⟩

end Go.Proofs.YtickiokdcbeefaaGreatDoor

/- The walks of spec.l3DrawSlot and spec.l3DrawPage. -/
namespace Go.Proofs.YtickiokdcbeefaaGreatDoor
open Go.RowKit

theorem CurAt.within {w w' : World} {B l r : Nat} {zs : List Int} (h : CurAt w B zs) (hw : Within l r w w') (hl : B < l) : CurAt w' B zs := by
  have hB := h.lt
  obtain ⟨a, c, i, h, hh, hi, hr, hlt⟩ := h
  refine ⟨a, c, i, h, ?_, hi, ⟨hr.1, fun e => ?_⟩, hlt⟩
  · rw [hw.block B hB (by omega)]; exact hh
  · obtain ⟨b, off, ha, hc⟩ := hr.2 e
    refine ⟨b, off, ha, fun j hj => ?_⟩
    have h1 := hlt e b off ha
    have := World.cell?_of_block (w := w) (w' := w') (a := ⟨b, off + j, none⟩) (hw.block b (block_lt (hc j hj)) (by omega))
    rw [this]
    exact hc j hj
theorem within_cur {w w' : World} {B : Nat} (h : w.grownBy w' (some B)) : Within B (B + 1) w w' := Within.of_grown h (fun k hk => by cases hk; omega)
/-- Something that lies behind the start was written: of what was there nothing but block B. -/
theorem Within.new {B l r : Nat} {w w1 w2 : World} (h : Within B (B + 1) w w1) (h2 : Within l r w1 w2) (hl : w.heap.size ≤ l) : Within B (B + 1) w w2 :=
  ⟨h2.os.trans h.os, h2.tape.trans h.tape, h2.output.trans h.output, Nat.le_trans h.size h2.size, fun k hk hn => (h2.block k (Nat.lt_of_lt_of_le hk h.size) (by omega)).trans (h.block k hk hn)⟩

set_option maxHeartbeats 1000000 in
set_option maxRecDepth 100000 in
theorem l3DrawSlot_any (B : Nat) (zs : List Int) (w : World) (hc : CurAt w B zs) (hl : zs.length ≤ 70368744177664) :
    Calls Tryz.prog 95 #[.pointer (some ⟨B, 0, none⟩)] w fun e w' => ∃ t : SlotA, e = .returned (.agg t.cells.toArray) ∧ (t.v.o.ints.length ≤ 3 ∧ t.v.o.refs.length ≤ 3) ∧ t.own w' w.heap.size w'.heap.size ∧ CurAt w' B zs ∧ Within B (B + 1) w w' := by
  have hB := hc.lt
  obtain ⟨W, hW, b0, hbW, hsW⟩ := boxes1 w [.bool false, .int .i64 0, .slice none 0 0, .slice none 0 0] 39
  have hcW : CurAt W B zs := hc.below hbW
  have hsW' : w.heap.size < W.heap.size := by omega
  clear hsW hc
  go_enter Tryz.func95, Tryz.ntmps95
  go_wp2_with fail
  rw [hW.out]
  clear hW
  refine (l1Once_any B zs 3 W hcW hl (by omega)).mono ?_
  rintro e w1 ⟨bb, rfl, hc1, hg1⟩
  have hw1 := within_cur hg1
  have hs1 := hw1.size
  have b1 := b0.within hw1 (by omega)
  have HW1 : Within B (B + 1) w w1 := (Within.of_below hbW).trans hw1
  clear b0 hg1 hw1 hcW hbW
  cases bb with
  | true =>
    obtain ⟨x0, x1, x2, x3, f0, f1, f2, f3⟩ := b1.four
    obtain ⟨WF, hWF, bF, hwF, hsF⟩ := box4_fill b1 (.bool false) (.int .i64 0) (.slice none 0 0) (.slice none 0 0)
    have HC : Hid (CurAt WF B zs) := hc1.within hwF (by omega)
    have HWF : Hid (Within B (B + 1) w WF) := HW1.new hwF (Nat.le_refl _)
    clear hwF HW1 hc1 b1
    go_wp2
    rw [hWF.out]
    obtain ⟨q0, q1, q2, q3, _⟩ := bF.four
    exact bodyPost_ret (v := .agg #[.bool false, .int .i64 0, .slice none 0 0, .slice none 0 0]) (by simp [results, Tryz.results95, go_sem, q0, q1, q2, q3]) rfl ⟨zeroS, rfl, ⟨by simp [zeroS], by simp [zeroS]⟩, ⟨ownI_nil _ _ _ (Nat.le_refl _), ownI_nil _ _ _ (Nat.le_refl _), fun k hk => by cases hk⟩, HC.out, HWF.out⟩
  | false =>
    go_wp2_with fail
    refine (l2Obj_any B zs w1 hc1 hl).mono ?_
    rintro e w2 ⟨aI, cI, aR, cR, o, rfl, hlI, hlR, ho2, hc2, hg2⟩
    have hw2 := within_cur hg2
    have hs2 := hw2.size
    have b2 := b1.within hw2 (by omega)
    have HW2 : Within B (B + 1) w w2 := HW1.trans hw2
    obtain ⟨x0, x1, x2, x3, f0, f1, f2, f3⟩ := b2.four
    obtain ⟨WF, hWF, bF, hwF, hsF⟩ := box4_fill b2 (.bool true) (.int .i64 o.kind) (.slice aI o.ints.length cI) (.slice aR o.refs.length cR)
    have HC : Hid (CurAt WF B zs) := hc2.within hwF (by omega)
    have HWF : Hid (Within B (B + 1) w WF) := HW2.new hwF (Nat.le_refl _)
    have HOF : Hid (OwnO WF w.heap.size WF.heap.size aI cI aR cR o) := (ho2.within hwF (.inr (by omega))).widen (by omega) (by omega) (Nat.le_refl _)
    clear hwF HW1 HW2 hc1 hc2 b1 b2 hg2 hw2 ho2
    go_wp2
    rw [hWF.out]
    obtain ⟨q0, q1, q2, q3, _⟩ := bF.four
    exact bodyPost_ret (v := .agg #[.bool true, .int .i64 o.kind, .slice aI o.ints.length cI, .slice aR o.refs.length cR]) (by simp [results, Tryz.results95, go_sem, q0, q1, q2, q3]) rfl ⟨⟨⟨true, o⟩, aI, cI, aR, cR⟩, rfl, ⟨hlI, hlR⟩, HOF.out, HC.out, HWF.out⟩

end Go.Proofs.YtickiokdcbeefaaGreatDoor

/- The walk of laws.big. -/
namespace Go.Proofs.YtickiokdcbeefaaGreatDoor
open Go.RowKit

set_option maxHeartbeats 400000 in
theorem big_any (a : Option Addr) (c n : Nat) (w : World) : Calls Tryz.prog 6 #[.slice a n c] w fun e w' => e = .returned (.bool (decide (1048576 < n))) ∧ w' = w := by
  by_cases h : 1048576 < n
  · have HB : Hid (decide (1048576 < n) = true) := decide_eq_true h
    go_enter Tryz.func6, Tryz.ntmps6
    go_wp2
    go_ret
    exact ⟨by rw [HB.out]; exact ret_bool (decide_eq_true (by omega)), rfl⟩
  · have HB : Hid (decide (1048576 < n) = false) := decide_eq_false h
    go_enter Tryz.func6, Tryz.ntmps6
    go_wp2
    go_ret
    exact ⟨by rw [HB.out]; exact ret_bool (decide_eq_false (by omega)), rfl⟩

end Go.Proofs.YtickiokdcbeefaaGreatDoor
