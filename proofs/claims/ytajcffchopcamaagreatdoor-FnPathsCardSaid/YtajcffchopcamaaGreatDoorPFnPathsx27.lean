/- Several texts in one, in their order. -/
import Derived.Test.YtajcffchopcamaaGreatDoorPFnPathsx1
import Derived.Test.YtajcffchopcamaaGreatDoorPFnPathsx22
import Derived.Test.YtajcffchopcamaaGreatDoorPFnPathsx17
import Derived.Test.YtajcffchopcamaaGreatDoorPFnPathsx6
import Derived.Test.YtajcffchopcamaaGreatDoorPFnPathsx19
import Derived.Test.YtajcffchopcamaaGreatDoorPFnPathsx20
/- A drawn path: the walk of spec.l12Draw. -/
namespace Go.Proofs.YtajcffchopcamaaGreatDoor
open Go.RowKit

/-- What the loop keeps: the box of the answer, the box of the path that is drawn, the row of its steps, the cursor. -/
structure DPI (w : World) (B Bp : Nat) (zs : List Int) (x : Int) (wr : World) (T : List StepV) (a : Option Addr) (c : Nat) : Prop where
  hB : w.heap.size < Bp
  sz : Bp + 1 ≤ wr.heap.size
  b0 : Box wr w.heap.size [.int .i64 0, .slice none 0 0] 27
  b1 : Box wr Bp [.int .i64 x, .slice a T.length c] 27
  own : OwnPh wr (Bp + 1) wr.heap.size a c T
  cur : CurAt wr B zs
  blt : B < w.heap.size
  gr : Within B (B + 1) w wr
theorem withinP {w w' : World} {B : Nat} (h : w.grownBy w' (some B)) : Within B (B + 1) w w' := (Touch.of_grown (bl := [B]) h (fun k hk => by cases hk; simp)).within (fun k hk => by simp at hk; omega)
theorem DPI.call {w : World} {B Bp : Nat} {zs : List Int} {x : Int} {wr u : World} {T : List StepV} {a : Option Addr} {c : Nat} (h : DPI w B Bp zs x wr T a c) (hc : CurAt u B zs) (hg : wr.grownBy u (some B)) : DPI w B Bp zs x u T a c := by
  have hw := withinP hg
  have h1 := h.hB
  have h2 := h.blt
  have h3 := h.sz
  have hs := hw.size
  exact ⟨h1, Nat.le_trans h3 hs, h.b0.within hw (by omega), h.b1.within hw (by omega), (h.own.within hw (.inr (by omega))).widen (Nat.le_refl _) hs (Nat.le_refl _), hc, h2, h.gr.trans hw⟩
theorem DPI.below {w : World} {B Bp : Nat} {zs : List Int} {x : Int} {wr u : World} {T : List StepV} {a : Option Addr} {c : Nat} (h : DPI w B Bp zs x wr T a c) (hu : Below wr.heap.size wr u) : DPI w B Bp zs x u T a c := by
  have h1 := h.hB
  have h3 := h.sz
  exact ⟨h1, Nat.le_trans h3 hu.size, h.b0.below hu (by omega), h.b1.below hu (by omega), (h.own.below hu).widen (Nat.le_refl _) hu.size (Nat.le_refl _), h.cur.below hu, h.blt, h.gr.trans (Within.of_below hu)⟩
theorem DPI.set {w : World} {B Bp Bs : Nat} {zs : List Int} {x : Int} {wr : World} {T : List StepV} {a : Option Addr} {c : Nat} {j : Nat} {v : Value} (h : DPI w B Bp zs x wr T a c) (hs : ∀ k, (Value.slice a T.length c).ownBlock = some k → k ≠ Bs) (hb : Bp < Bs) : DPI w B Bp zs x (wr.setCell ⟨Bs, j, none⟩ v) T a c := by
  have hw := within_set wr Bs j v (lo := Bs) (hi := Bs + 1) (by omega)
  have ht : Touch [Bs] wr (wr.setCell ⟨Bs, j, none⟩ v) := ⟨hw.os, hw.tape, hw.output, hw.size, fun k hk hn => hw.block k hk (fun hh => hn (by simp; omega))⟩
  have h1 := h.hB
  have h2 := h.blt
  have h3 := h.sz
  have ho := h.own.touch ht (fun k hk => by have := hs k hk; simpa using this)
  refine ⟨h1, by simpa using h3, h.b0.other (by omega), h.b1.other (by omega), by simpa using ho.widen (Nat.le_refl _) hw.size (Nat.le_refl _), h.cur.kept (row := some Bs) ⟨hw.os, hw.tape, hw.output, hw.size, fun k hk hn => hw.block k hk (fun hh => hn (by congr 1; omega))⟩ (fun k hk => by cases hk; omega), h2, ⟨hw.os.trans h.gr.os, hw.tape.trans h.gr.tape, hw.output.trans h.gr.output, Nat.le_trans h.gr.size hw.size, fun k hk hn => (hw.block k (Nat.lt_of_lt_of_le hk h.gr.size) (by omega)).trans (h.gr.block k hk hn)⟩⟩
theorem DPI.grown {w : World} {B Bp : Nat} {zs : List Int} {x : Int} {wr u w4 : World} {T : List StepV} {a : Option Addr} {c : Nat} (h : DPI w B Bp zs x wr T a c) (hu : Below wr.heap.size wr u) (hg : u.grownBy w4 (Value.slice a T.length c).ownBlock) :
    Box w4 w.heap.size [.int .i64 0, .slice none 0 0] 27 ∧ Box w4 Bp [.int .i64 x, .slice a T.length c] 27 ∧ CurAt w4 B zs ∧ Within B (B + 1) w w4 ∧ Bp + 1 ≤ w4.heap.size := by
  have h' := h.below hu
  have tt := Touch.of_grown (bl := (Value.slice a T.length c).ownBlock.toList) hg (fun k hk => Option.mem_toList.2 hk)
  have nin : ∀ k, k < Bp + 1 → k ∉ (Value.slice a T.length c).ownBlock.toList := fun k hk hm => by
    have := (h'.own.lt k (Option.mem_toList.1 hm)).1
    omega
  have hz := h'.sz
  have hB := h'.hB
  have hb := h'.blt
  refine ⟨h'.b0.block (tt.block _ h'.b0.lt (nin _ (by omega))), h'.b1.block (tt.block _ h'.b1.lt (nin _ (by omega))), h'.cur.kept hg (fun k hk => by have := (h'.own.lt k hk).1; omega), ?_, by have := tt.size; omega⟩
  exact ⟨tt.os.trans h'.gr.os, tt.tape.trans h'.gr.tape, tt.output.trans h'.gr.output, Nat.le_trans h'.gr.size tt.size, fun k hk hn => (tt.block k (Nat.lt_of_lt_of_le hk h'.gr.size) (nin k (by omega))).trans (h'.gr.block k hk hn)⟩
theorem DPI.put {w : World} {B Bp : Nat} {zs : List Int} {x : Int} {w4 : World} {T T3 : List StepV} {a a3 : Option Addr} {c c3 : Nat} (hB : w.heap.size < Bp) (hb : B < w.heap.size) (hb0 : Box w4 w.heap.size [.int .i64 0, .slice none 0 0] 27) (hb1 : Box w4 Bp [.int .i64 x, .slice a T.length c] 27) (hc : CurAt w4 B zs) (hw4 : Within B (B + 1) w w4) (hz : Bp + 1 ≤ w4.heap.size) (ho : OwnPh w4 (Bp + 1) w4.heap.size a3 c3 T3) :
    DPI w B Bp zs x (w4.setCell ⟨Bp, 1, none⟩ (.slice a3 T3.length c3)) T3 a3 c3 := by
  have hw := within_set w4 Bp 1 (.slice a3 T3.length c3) (lo := Bp) (hi := Bp + 1) (by omega)
  refine ⟨hB, by simpa using hz, hb0.other (by omega), hb1.set 1 _, ?_, hc.kept (row := some Bp) ⟨hw.os, hw.tape, hw.output, hw.size, fun k hk hn => hw.block k hk (fun hh => hn (by congr 1; omega))⟩ (fun k hk => by cases hk; omega), hb, ⟨hw.os.trans hw4.os, hw.tape.trans hw4.tape, hw.output.trans hw4.output, Nat.le_trans hw4.size hw.size, fun k hk hn => (hw.block k (Nat.lt_of_lt_of_le hk hw4.size) (by omega)).trans (hw4.block k hk hn)⟩⟩
  have := ho.within hw (.inr (Nat.le_refl _))
  simpa using this
theorem box2_fillD {w : World} {B : Nat} {x0 x1 : Value} {t : TypeId} (b : Box w B [x0, x1] t) (v0 v1 : Value) :
    ∃ W, Hid ((w.setCell ⟨B, 0, none⟩ v0).setCell ⟨B, 1, none⟩ v1 = W) ∧ Box W B [v0, v1] t ∧ Within B (B + 1) w W ∧ W.heap.size = w.heap.size := by
  refine ⟨_, rfl, by simpa using (b.set 0 v0).set 1 v1, (within_set w B 0 v0 (by omega)).trans (within_set _ B 1 v1 (by omega)), by simp⟩
/-- What l12Draw answers: a path that is right, owned. -/
def DrawnP (w w' : World) (B : Nat) (zs : List Int) (e : Ending) : Prop := ∃ (x : Int) (T : List StepV) (a : Option Addr) (c : Nat), e = .returned (.agg #[.int .i64 x, .slice a T.length c]) ∧ pathB x T = true ∧ OwnPh w' w.heap.size w'.heap.size a c T ∧ CurAt w' B zs ∧ Within B (B + 1) w w'
theorem DPI.done {w : World} {B Bp : Nat} {zs : List Int} {x : Int} {wr : World} {T : List StepV} {a : Option Addr} {c : Nat} (h : DPI w B Bp zs x wr T a c) (hp : pathB x T = true) :
    ∃ WF, Hid ((wr.setCell ⟨w.heap.size, 0, none⟩ (.int .i64 x)).setCell ⟨w.heap.size, 1, none⟩ (.slice a T.length c) = WF) ∧ (WF.cell? ⟨w.heap.size, 0, none⟩ = some (.int .i64 x) ∧ WF.cell? ⟨w.heap.size, 1, none⟩ = some (.slice a T.length c)) ∧ Hid (DrawnP w WF B zs (.returned (.agg #[.int .i64 x, .slice a T.length c]))) := by
  obtain ⟨WF, hWF, bF, hwF, hsF⟩ := box2_fillD h.b0 (.int .i64 x) (.slice a T.length c)
  have hz := h.sz
  have hB := h.hB
  have hb := h.blt
  refine ⟨WF, hWF, ⟨bF.cell 0 _ rfl, bF.cell 1 _ rfl⟩, x, T, a, c, rfl, hp, (h.own.within hwF (.inr (by omega))).widen (by omega) (by omega) (Nat.le_refl _), h.cur.kept (row := some w.heap.size) ⟨hwF.os, hwF.tape, hwF.output, hwF.size, fun k hk hn => hwF.block k hk (fun hh => hn (by congr 1; omega))⟩ (fun k hk => by cases hk; exact hb), ⟨hwF.os.trans h.gr.os, hwF.tape.trans h.gr.tape, hwF.output.trans h.gr.output, Nat.le_trans h.gr.size hwF.size, fun k hk hn => (hwF.block k (Nat.lt_of_lt_of_le hk h.gr.size) (by omega)).trans (h.gr.block k hk hn)⟩⟩
theorem pathB_more {x : Int} {T : List StepV} {t : StepV} (h : pathB x T = true) (ht : stepB t = true) (hl : T.length < 8) : pathB x (T ++ [t]) = true := by
  simp only [pathB, Bool.and_eq_true, decide_eq_true_eq, List.all_append, List.all_cons, List.all_nil, List.length_append, List.length_cons, List.length_nil] at h ⊢
  exact ⟨⟨h.1, ht, trivial⟩, h.2.1, by omega⟩

set_option maxHeartbeats 8000000 in
set_option maxRecDepth 100000 in
theorem l12Draw_any (B : Nat) (zs : List Int) (w : World) (hc : CurAt w B zs) (hl : zs.length ≤ 70368744177664) :
    Calls Tryz.prog 28 #[.pointer (some ⟨B, 0, none⟩)] w fun e w' => DrawnP w w' B zs e := by
  have hB := hc.lt
  obtain ⟨V, hV, b0, bI, hbV, hsV⟩ := boxes2 w [.int .i64 0, .slice none 0 0] [.int .i64 1, .int .i64 2, .int .i64 3, .int .i64 7, .int .i64 31] 27 3
  have hcV := hc.below hbV
  have hrI : ReadsI V (some ⟨w.heap.size + 1, 0, none⟩) [1, 2, 3, 7, 31] := fun _ => ⟨_, _, rfl, fun i hi => by rw [Nat.zero_add]; exact bI.cell i _ (by
    have : i = 0 ∨ i = 1 ∨ i = 2 ∨ i = 3 ∨ i = 4 := by simp at hi; omega
    rcases this with rfl | rfl | rfl | rfl | rfl <;> rfl)⟩
  have C1 := l1Int_any B zs (some ⟨w.heap.size + 1, 0, none⟩) 5 [1, 2, 3, 7, 31] V hcV hl hrI (fun b off e => by cases e; omega) (by simp) (by simp)
  have HWV : Hid (Within B (B + 1) w V) := Within.of_below hbV
  have hzV := b0.lt
  clear hc hcV hrI bI hsV hbV
  go_enter Tryz.func28, Tryz.ntmps28
  go_wp2_with fail
  rw [hV.out]
  clear hV
  refine C1.mono ?_
  clear C1
  rintro e v1 ⟨j1, hj1, rfl, hc1, hg1⟩
  obtain ⟨x, hx, hx1⟩ : ∃ x : Int, Hid ([1, 2, 3, 7, 31].getD j1 0 = x) ∧ Hid (pathB x [] = true) := by
    refine ⟨_, rfl, ?_⟩
    have : j1 = 0 ∨ j1 = 1 ∨ j1 = 2 ∨ j1 = 3 ∨ j1 = 4 := by simp at hj1; omega
    rcases this with rfl | rfl | rfl | rfl | rfl <;> rfl
  rw [hx.out]
  have hw1 := withinP hg1
  have hs1 := hw1.size
  have b01 := b0.within hw1 (by omega)
  obtain ⟨V2, hV2, b2, hbV2, hsV2⟩ := boxes1 v1 [.int .i64 x, .slice none 0 0] 27
  have HD : Hid (DPI w B v1.heap.size zs x V2 [] none 0) := ⟨by omega, b2.lt, b01.below hbV2 b01.lt, b2, ownPh_nil _ _ _ (Nat.le_refl _), hc1.below hbV2, hB, (HWV.out.trans hw1).trans (Within.of_below hbV2)⟩
  clear hg1 hw1 b01 b2 hbV2 hsV2 hc1 HWV b0 hj1 hs1 hzV
  go_upto_region 2 with fail
  rw [hV2.out]
  clear hx hV2
  generalize v1.heap.size = Bp at *
  have C2 := l1Below_any B zs 5 V2 HD.out.cur hl (by omega)
  go_wp2_with fail
  refine C2.mono ?_
  clear C2
  rintro e v3 ⟨n0, rfl, hn0, hc3, hg3⟩
  replace hn0 : (n0 : Int) < 5 := hn0 (by decide)
  have HD3 : Hid (DPI w B Bp zs x v3 [] none 0) := HD.out.call hc3 hg3
  clear HD hc3 hg3
  go_wp2_with fail
  go_loopw [4] (fun iv wr => ∃ (n : Nat) (T : List StepV) (a : Option Addr) (c : Nat), iv = .int .i64 n ∧ n + T.length ≤ 5 ∧ Hid (pathB x T = true) ∧ Hid (DPI w B Bp zs x wr T a c)) (fun iv _ => (RowKit.intOf iv).toNat)
  case atStart => exact ⟨n0, [], none, 0, rfl, by simp; omega, hx1, HD3⟩
  case round =>
    obtain ⟨n, T, a, c, rfl, hnT, hpT, hJ⟩ := hrel
    clear HD3 hx1
    by_cases hn : 0 < n
    · obtain ⟨m, rfl⟩ : ∃ m, n = m + 1 := ⟨n - 1, by omega⟩
      have C5 := l1Below_any B zs 5 wr hJ.out.cur hl (by omega)
      have hnI : ((m + 1 : Nat) : Int) > 0 := by omega
      go_wp2_with fail
      refine C5.mono ?_
      clear C5
      rintro e v5 ⟨k5, rfl, hk5, hc5, hg5⟩
      replace hk5 : (k5 : Int) < 5 := hk5 (by decide)
      have HD5 : Hid (DPI w B Bp zs x v5 T a c) := hJ.out.call hc5 hg5
      clear hJ hc5 hg5
      obtain ⟨V6, hV6, b6, hbV6, hsV6⟩ := boxes1 v5 [.int .i64 (1 + (k5 : Int)), .int .i64 0] 44
      have HD6 : Hid (DPI w B Bp zs x V6 T a c) := HD5.out.below hbV6
      have HOB : Hid (∀ k, (Value.slice a T.length c).ownBlock = some k → k < v5.heap.size) := fun k hk => (HD5.out.own.lt k hk).2
      have hBs : Bp < v5.heap.size := HD5.out.sz
      clear HD5 hbV6 hsV6
      go_upto_region 6 with fail
      rw [hV6.out]
      clear hV6
      generalize v5.heap.size = Bs at *
      have hk : k5 = 0 ∨ k5 = 1 ∨ k5 = 2 ∨ k5 = 3 ∨ k5 = 4 := by omega
      rcases hk with rfl | rfl | rfl | rfl | rfl
      · have b6' : Box V6 Bs [.int .i64 1, .int .i64 0] 44 := b6
        clear b6
        have q0 := b6'.cell 0 _ rfl
        have C7 := l1Below_any B zs 3 V6 HD6.out.cur hl (by omega)
        go_wp2_with fail
        refine C7.mono ?_
        clear C7 q0
        rintro e v7 ⟨y, rfl, hy, hc7, hg7⟩
        replace hy : (y : Int) < 3 := hy (by decide)
        have hw7 := withinP hg7
        have hBB := HD6.out.blt
        have hBp := HD6.out.hB
        replace HD6 : Hid (DPI w B Bp zs x v7 T a c) := HD6.out.call hc7 hg7
        replace b6' := b6'.within hw7 (by omega)
        clear hc7 hg7 hw7
        have q0 := b6'.cell 0 _ rfl
        generalize v7 = V6 at *
        have b7 := b6'.set 1 (.int .i64 (y : Int))
        have g1 := b6'.cell 1 _ rfl
        have u1 := b6'.frozen 1
        simp only [List.set] at b7
        have HD7 : Hid (DPI w B Bp zs x (V6.setCell ⟨Bs, 1, none⟩ (.int .i64 (y : Int))) T a c) := HD6.out.set (fun k hk => by have := HOB.out k hk; omega) hBs
        obtain ⟨V7, hV7⟩ : ∃ V7, Hid (V6.setCell ⟨Bs, 1, none⟩ (.int .i64 (y : Int)) = V7) := ⟨_, rfl⟩
        rw [hV7.out] at b7 HD7
        clear HD6 b6'
        go_upto_region 13 with fail
        rw [hV7.out]
        clear hV7 q0 g1 u1
        have HST : Hid (stepB ⟨1, (y : Int)⟩ = true) := by rw [Hid]; simp [stepB, inB]; omega
        have y1 := HD7.out.b1.cell 1 _ rfl
        have hr1 := readsPh_one V7 ⟨1, (y : Int)⟩ 44
        have hu : Below V7.heap.size V7 (V7.alloc (.cells #[.int .i64 1, .int .i64 (y : Int)] 44)) := (Below.refl _ _).alloc (Nat.le_refl _) _
        have hoA := HD7.out.own.below hu
        have hlo : Bp + 1 ≤ (V7.alloc (.cells #[.int .i64 1, .int .i64 (y : Int)] 44)).heap.size := by have := HD7.out.sz; simp; omega
        have z0 := b7.cell 0 _ rfl
        have z1 := b7.cell 1 _ rfl
        clear b7
        go_wp2_with (at_builtin; refine append_steps rfl _ _ rfl (Bp + 1) V7.heap.size a c T rfl hoA (some ⟨V7.heap.size, 0, none⟩) 1 [⟨1, (y : Int)⟩] rfl hr1 (by intro h; cases h) (by simp; omega) hlo ?_; intro a3 c3 T3 w4 hT3 ho3 hg3; have hgg := HD7.out.grown hu hg3; have p1 := hgg.2.1.cell 1 _ rfl; have f1 := hgg.2.1.frozen 1)
        go_roundw
        case rel => exact ⟨m, T3, a3, c3, by go_num, by rw [hT3.out]; simp; omega, by rw [hT3.out]; exact pathB_more hpT.out HST.out (by omega), DPI.put HD7.out.hB HD7.out.blt hgg.1 hgg.2.1 hgg.2.2.1 hgg.2.2.2.1 hgg.2.2.2.2 ho3⟩
        case measure => simp [RowKit.intOf]
      · have b6' : Box V6 Bs [.int .i64 2, .int .i64 0] 44 := b6
        clear b6
        have q0 := b6'.cell 0 _ rfl
        have HD7 := HD6
        have b7 := b6'
        go_upto_region 13 with fail
        clear q0 HD6 b6'
        generalize V6 = V7 at *
        have HST : Hid (stepB ⟨2, 0⟩ = true) := rfl
        have y1 := HD7.out.b1.cell 1 _ rfl
        have hr1 := readsPh_one V7 ⟨2, 0⟩ 44
        have hu : Below V7.heap.size V7 (V7.alloc (.cells #[.int .i64 2, .int .i64 0] 44)) := (Below.refl _ _).alloc (Nat.le_refl _) _
        have hoA := HD7.out.own.below hu
        have hlo : Bp + 1 ≤ (V7.alloc (.cells #[.int .i64 2, .int .i64 0] 44)).heap.size := by have := HD7.out.sz; simp; omega
        have z0 := b7.cell 0 _ rfl
        have z1 := b7.cell 1 _ rfl
        clear b7
        go_wp2_with (at_builtin; refine append_steps rfl _ _ rfl (Bp + 1) V7.heap.size a c T rfl hoA (some ⟨V7.heap.size, 0, none⟩) 1 [⟨2, 0⟩] rfl hr1 (by intro h; cases h) (by simp; omega) hlo ?_; intro a3 c3 T3 w4 hT3 ho3 hg3; have hgg := HD7.out.grown hu hg3; have p1 := hgg.2.1.cell 1 _ rfl; have f1 := hgg.2.1.frozen 1)
        go_roundw
        case rel => exact ⟨m, T3, a3, c3, by go_num, by rw [hT3.out]; simp; omega, by rw [hT3.out]; exact pathB_more hpT.out HST.out (by omega), DPI.put HD7.out.hB HD7.out.blt hgg.1 hgg.2.1 hgg.2.2.1 hgg.2.2.2.1 hgg.2.2.2.2 ho3⟩
        case measure => simp [RowKit.intOf]
      · have b6' : Box V6 Bs [.int .i64 3, .int .i64 0] 44 := b6
        clear b6
        have q0 := b6'.cell 0 _ rfl
        have HD7 := HD6
        have b7 := b6'
        go_upto_region 13 with fail
        clear q0 HD6 b6'
        generalize V6 = V7 at *
        have HST : Hid (stepB ⟨3, 0⟩ = true) := rfl
        have y1 := HD7.out.b1.cell 1 _ rfl
        have hr1 := readsPh_one V7 ⟨3, 0⟩ 44
        have hu : Below V7.heap.size V7 (V7.alloc (.cells #[.int .i64 3, .int .i64 0] 44)) := (Below.refl _ _).alloc (Nat.le_refl _) _
        have hoA := HD7.out.own.below hu
        have hlo : Bp + 1 ≤ (V7.alloc (.cells #[.int .i64 3, .int .i64 0] 44)).heap.size := by have := HD7.out.sz; simp; omega
        have z0 := b7.cell 0 _ rfl
        have z1 := b7.cell 1 _ rfl
        clear b7
        go_wp2_with (at_builtin; refine append_steps rfl _ _ rfl (Bp + 1) V7.heap.size a c T rfl hoA (some ⟨V7.heap.size, 0, none⟩) 1 [⟨3, 0⟩] rfl hr1 (by intro h; cases h) (by simp; omega) hlo ?_; intro a3 c3 T3 w4 hT3 ho3 hg3; have hgg := HD7.out.grown hu hg3; have p1 := hgg.2.1.cell 1 _ rfl; have f1 := hgg.2.1.frozen 1)
        go_roundw
        case rel => exact ⟨m, T3, a3, c3, by go_num, by rw [hT3.out]; simp; omega, by rw [hT3.out]; exact pathB_more hpT.out HST.out (by omega), DPI.put HD7.out.hB HD7.out.blt hgg.1 hgg.2.1 hgg.2.2.1 hgg.2.2.2.1 hgg.2.2.2.2 ho3⟩
        case measure => simp [RowKit.intOf]
      · have b6' : Box V6 Bs [.int .i64 4, .int .i64 0] 44 := b6
        clear b6
        have q0 := b6'.cell 0 _ rfl
        have C7 := l1Below_any B zs 3 V6 HD6.out.cur hl (by omega)
        go_wp2_with fail
        refine C7.mono ?_
        clear C7 q0
        rintro e v7 ⟨y, rfl, hy, hc7, hg7⟩
        replace hy : (y : Int) < 3 := hy (by decide)
        have hw7 := withinP hg7
        have hBB := HD6.out.blt
        have hBp := HD6.out.hB
        replace HD6 : Hid (DPI w B Bp zs x v7 T a c) := HD6.out.call hc7 hg7
        replace b6' := b6'.within hw7 (by omega)
        clear hc7 hg7 hw7
        have q0 := b6'.cell 0 _ rfl
        generalize v7 = V6 at *
        have b7 := b6'.set 1 (.int .i64 (1 + (y : Int)))
        have g1 := b6'.cell 1 _ rfl
        have u1 := b6'.frozen 1
        simp only [List.set] at b7
        have HD7 : Hid (DPI w B Bp zs x (V6.setCell ⟨Bs, 1, none⟩ (.int .i64 (1 + (y : Int)))) T a c) := HD6.out.set (fun k hk => by have := HOB.out k hk; omega) hBs
        obtain ⟨V7, hV7⟩ : ∃ V7, Hid (V6.setCell ⟨Bs, 1, none⟩ (.int .i64 (1 + (y : Int))) = V7) := ⟨_, rfl⟩
        rw [hV7.out] at b7 HD7
        clear HD6 b6'
        go_upto_region 13 with fail
        rw [hV7.out]
        clear hV7 q0 g1 u1
        have HST : Hid (stepB ⟨4, (1 + (y : Int))⟩ = true) := by rw [Hid]; simp [stepB, inB]; omega
        have y1 := HD7.out.b1.cell 1 _ rfl
        have hr1 := readsPh_one V7 ⟨4, (1 + (y : Int))⟩ 44
        have hu : Below V7.heap.size V7 (V7.alloc (.cells #[.int .i64 4, .int .i64 (1 + (y : Int))] 44)) := (Below.refl _ _).alloc (Nat.le_refl _) _
        have hoA := HD7.out.own.below hu
        have hlo : Bp + 1 ≤ (V7.alloc (.cells #[.int .i64 4, .int .i64 (1 + (y : Int))] 44)).heap.size := by have := HD7.out.sz; simp; omega
        have z0 := b7.cell 0 _ rfl
        have z1 := b7.cell 1 _ rfl
        clear b7
        go_wp2_with (at_builtin; refine append_steps rfl _ _ rfl (Bp + 1) V7.heap.size a c T rfl hoA (some ⟨V7.heap.size, 0, none⟩) 1 [⟨4, (1 + (y : Int))⟩] rfl hr1 (by intro h; cases h) (by simp; omega) hlo ?_; intro a3 c3 T3 w4 hT3 ho3 hg3; have hgg := HD7.out.grown hu hg3; have p1 := hgg.2.1.cell 1 _ rfl; have f1 := hgg.2.1.frozen 1)
        go_roundw
        case rel => exact ⟨m, T3, a3, c3, by go_num, by rw [hT3.out]; simp; omega, by rw [hT3.out]; exact pathB_more hpT.out HST.out (by omega), DPI.put HD7.out.hB HD7.out.blt hgg.1 hgg.2.1 hgg.2.2.1 hgg.2.2.2.1 hgg.2.2.2.2 ho3⟩
        case measure => simp [RowKit.intOf]
      · have b6' : Box V6 Bs [.int .i64 5, .int .i64 0] 44 := b6
        clear b6
        have q0 := b6'.cell 0 _ rfl
        obtain ⟨U6, hU6, bJ, hbU6, hsU6⟩ := boxes1 V6 [.int .i64 0, .int .i64 3, .int .i64 (-1), .int .i64 8] 3
        have hrJ : ReadsI U6 (some ⟨V6.heap.size, 0, none⟩) [0, 3, -1, 8] := fun _ => ⟨_, _, rfl, fun i hi => by rw [Nat.zero_add]; exact bJ.cell i _ (by
          have : i = 0 ∨ i = 1 ∨ i = 2 ∨ i = 3 := by simp at hi; omega
          rcases this with rfl | rfl | rfl | rfl <;> rfl)⟩
        have hBB := HD6.out.blt
        have hBp := HD6.out.hB
        have hsz6 := HD6.out.sz
        replace HD6 : Hid (DPI w B Bp zs x U6 T a c) := HD6.out.below hbU6
        replace b6' := b6'.below hbU6 b6'.lt
        have C7 := l1Int_any B zs (some ⟨V6.heap.size, 0, none⟩) 4 [0, 3, -1, 8] U6 HD6.out.cur hl hrJ (fun b off e => by cases e; omega) (by simp) (by simp)
        clear hrJ bJ hbU6 hsU6
        go_wp2_with fail
        rw [hU6.out]
        clear hU6
        refine C7.mono ?_
        clear C7 q0
        rintro e v7 ⟨j7, hj7, rfl, hc7, hg7⟩
        obtain ⟨y, hy, hyS⟩ : ∃ y : Int, Hid ([0, 3, -1, 8].getD j7 0 = y) ∧ Hid (stepB ⟨5, y⟩ = true) := by
          refine ⟨_, rfl, ?_⟩
          have : j7 = 0 ∨ j7 = 1 ∨ j7 = 2 ∨ j7 = 3 := by simp at hj7; omega
          rcases this with rfl | rfl | rfl | rfl <;> rfl
        rw [hy.out]
        have hw7 := withinP hg7
        replace HD6 : Hid (DPI w B Bp zs x v7 T a c) := HD6.out.call hc7 hg7
        replace b6' := b6'.within hw7 (by omega)
        clear hc7 hg7 hw7 hy hj7
        have q0 := b6'.cell 0 _ rfl
        generalize v7 = V6 at *
        have b7 := b6'.set 1 (.int .i64 y)
        have g1 := b6'.cell 1 _ rfl
        have u1 := b6'.frozen 1
        simp only [List.set] at b7
        have HD7 : Hid (DPI w B Bp zs x (V6.setCell ⟨Bs, 1, none⟩ (.int .i64 y)) T a c) := HD6.out.set (fun k hk => by have := HOB.out k hk; omega) hBs
        obtain ⟨V7, hV7⟩ : ∃ V7, Hid (V6.setCell ⟨Bs, 1, none⟩ (.int .i64 y) = V7) := ⟨_, rfl⟩
        rw [hV7.out] at b7 HD7
        clear HD6 b6'
        go_upto_region 13 with fail
        rw [hV7.out]
        clear hV7 q0 g1 u1
        have HST : Hid (stepB ⟨5, y⟩ = true) := hyS
        have y1 := HD7.out.b1.cell 1 _ rfl
        have hr1 := readsPh_one V7 ⟨5, y⟩ 44
        have hu : Below V7.heap.size V7 (V7.alloc (.cells #[.int .i64 5, .int .i64 y] 44)) := (Below.refl _ _).alloc (Nat.le_refl _) _
        have hoA := HD7.out.own.below hu
        have hlo : Bp + 1 ≤ (V7.alloc (.cells #[.int .i64 5, .int .i64 y] 44)).heap.size := by have := HD7.out.sz; simp; omega
        have z0 := b7.cell 0 _ rfl
        have z1 := b7.cell 1 _ rfl
        clear b7
        go_wp2_with (at_builtin; refine append_steps rfl _ _ rfl (Bp + 1) V7.heap.size a c T rfl hoA (some ⟨V7.heap.size, 0, none⟩) 1 [⟨5, y⟩] rfl hr1 (by intro h; cases h) (by simp; omega) hlo ?_; intro a3 c3 T3 w4 hT3 ho3 hg3; have hgg := HD7.out.grown hu hg3; have p1 := hgg.2.1.cell 1 _ rfl; have f1 := hgg.2.1.frozen 1)
        go_roundw
        case rel => exact ⟨m, T3, a3, c3, by go_num, by rw [hT3.out]; simp; omega, by rw [hT3.out]; exact pathB_more hpT.out HST.out (by omega), DPI.put HD7.out.hB HD7.out.blt hgg.1 hgg.2.1 hgg.2.2.1 hgg.2.2.2.1 hgg.2.2.2.2 ho3⟩
        case measure => simp [RowKit.intOf]
    · obtain rfl : n = 0 := by omega
      obtain ⟨WF, hWF, ⟨r0, r1⟩, HA⟩ := hJ.out.done hpT.out
      have y0 := hJ.out.b0.cell 0 _ rfl
      have y1 := hJ.out.b0.cell 1 _ rfl
      have f0 := hJ.out.b0.frozen 0
      have f1 := hJ.out.b0.frozen 1
      have p0 := hJ.out.b1.cell 0 _ rfl
      have p1 := hJ.out.b1.cell 1 _ rfl
      clear hJ
      go_wp2
      rw [hWF.out]
      exact bodyPost_ret (v := .agg #[.int .i64 x, .slice a T.length c]) (by simp [results, Tryz.results28, go_sem, r0, r1]) rfl HA.out
end Go.Proofs.YtajcffchopcamaaGreatDoor

/- A drawn view and a drawn path: the walk of spec.DrawAsked. -/
namespace Go.Proofs.YtajcffchopcamaaGreatDoor
open Go.RowKit

set_option maxHeartbeats 1000000 in
set_option maxRecDepth 100000 in
theorem drawAsked_any (a : Option Addr) (c : Nat) (zs : List Int) (w : World) (hr : Reads w a zs) (hl : zs.length ≤ 70368744177664) :
    Calls Tryz.prog 6 #[.slice a zs.length c] w fun e w' => ∃ g ts x T aT cT, e = .returned (.tuple #[.slice (some ⟨g, 0, none⟩) 32 32, .agg #[.int .i64 x, .slice aT (T : List StepV).length cT]]) ∧ Hid (ts.length = 32 ∧ viewB (vsOf ts) = true ∧ Fit ts ∧ pathB x T = true) ∧ ReadsVw w' (some ⟨g, 0, none⟩) ts ∧ ReadsPh w' aT T ∧ Below w.heap.size w w' := by
  obtain ⟨W, hW, b0, hbW, hsW⟩ := boxes1 w [.int .i64 0, .slice none 0 0] 27
  have hzW := b0.lt
  go_enter Tryz.func6, Tryz.ntmps6
  go_wp2_with fail
  rw [hW.out]
  clear hW hsW
  refine (l1New_any a c zs W (hr.below hbW) hl).mono ?_
  rintro e w1 ⟨rfl, hc1, hb1⟩
  replace b0 := b0.below hb1 b0.lt
  have z1 := hb1.size
  have B1 : Below w.heap.size w w1 := hbW.trans (hb1.mono hbW.size)
  clear hbW hb1 hr
  go_wp2_with fail
  refine (l11Draw_any W.heap.size zs w1 hc1 hl).mono ?_
  rintro e w2 ⟨g, ts, rfl, hts, ho2, hc2, hg2⟩
  have hw2 := withinP hg2
  have z2 := hw2.size
  have hWlt := hc1.lt
  replace b0 := b0.within hw2 (by omega)
  have B2 : Below w.heap.size w w2 := B1.trans (hw2.below (by omega) (by omega))
  clear hc1 hg2 hw2 B1
  go_wp2_with fail
  refine (l12Draw_any W.heap.size zs w2 hc2 hl).mono ?_
  rintro e w3 ⟨x, T, aT, cT, rfl, hpB, ho3, hc3, hw3⟩
  have z3 := hw3.size
  replace b0 := b0.within hw3 (by omega)
  replace ho2 := ho2.within hw3 (.inr (by omega))
  have B3 : Below w.heap.size w w3 := B2.trans (hw3.below (by omega) (by omega))
  obtain ⟨WF, hWF, bF, hwF, hsF⟩ := box2_fillD b0 (.int .i64 x) (.slice aT T.length cT)
  replace ho2 := ho2.within hwF (.inr (by omega))
  replace ho3 := ho3.within hwF (.inr (by omega))
  have HN : Hid ((ts.length = 32 ∧ viewB (vsOf ts) = true ∧ Fit ts ∧ pathB x T = true) ∧ ReadsVw WF (some ⟨g, 0, none⟩) ts ∧ ReadsPh WF aT T ∧ Below w.heap.size w WF) := ⟨⟨hts.out.1, heap_view hts.out.1 hts.out.2, heap_fit hts.out.2, hpB⟩, ho2.reads, ho3.reads, B3.trans (hwF.below (Nat.le_refl _) (by omega))⟩
  have r0 := bF.cell 0 _ rfl
  have r1 := bF.cell 1 _ rfl
  have y0 := b0.cell 0 _ rfl
  have y1 := b0.cell 1 _ rfl
  have f0 := b0.frozen 0
  have f1 := b0.frozen 1
  clear hts ho2 ho3 hc2 hc3 hw3 b0 bF hwF hsF B2 B3 hpB
  go_wp2
  rw [hWF.out]
  exact bodyPost_ret (v := .tuple #[.slice (some ⟨g, 0, none⟩) 32 32, .agg #[.int .i64 x, .slice aT T.length cT]]) (by simp [results, Tryz.results6, go_sem, r0, r1]) rfl ⟨g, ts, x, T, aT, cT, rfl, HN.out.1, HN.out.2.1, HN.out.2.2.1, HN.out.2.2.2⟩
end Go.Proofs.YtajcffchopcamaaGreatDoor

/- Plain mathematics of a path's text: where its steps begin, and that it is one path's alone. -/
namespace Go.Proofs.YtajcffchopcamaaGreatDoor

theorem num_nostop (n : Int) : ∀ z ∈ numText n, stopB z = false := by
  have hd : ∀ m : Nat, ∀ z ∈ decOf m, stopB z = false := fun m z hz => by
    have := isDig_bd (decOf_dig m z hz)
    simp [stopB]
    omega
  intro z hz
  unfold numText at hz
  split at hz
  · rcases List.mem_cons.1 hz with rfl | hz
    · rfl
    · exact hd _ z hz
  · exact hd _ z hz
theorem stepText_parts (s : StepV) : ∃ c R, stepText s = c :: R ∧ stopB c = true ∧ ∀ z ∈ R, stopB z = false := by
  have hn := num_nostop s.num
  unfold stepText
  repeat' split
  · exact ⟨46, numText s.num, rfl, rfl, hn⟩
  · exact ⟨46, [42], rfl, rfl, by simp [stopB]⟩
  · exact ⟨46, [42, 42], rfl, rfl, by simp [stopB]⟩
  · refine ⟨91, ([107, 61] ++ numText s.num) ++ [93], rfl, rfl, ?_⟩
    intro z hz
    simp only [List.mem_append, List.mem_cons, List.not_mem_nil, or_false] at hz
    rcases hz with ((rfl | rfl) | hz) | rfl
    · rfl
    · rfl
    · exact hn z hz
    · rfl
  · refine ⟨91, ([105, 62] ++ numText s.num) ++ [93], rfl, rfl, ?_⟩
    intro z hz
    simp only [List.mem_append, List.mem_cons, List.not_mem_nil, or_false] at hz
    rcases hz with ((rfl | rfl) | hz) | rfl
    · rfl
    · rfl
    · exact hn z hz
    · rfl

theorem endAt_mid {L A B C : List Int} (h : L = A ++ (B ++ C)) (hB : ∀ z ∈ B, stopB z = false) (hC : ∀ c R, C = c :: R → stopB c = true) : EndAt L A.length (A.length + B.length) := by
  subst h
  refine ⟨Nat.le_add_right _ _, by simp, fun t h1 h2 => ?_, fun h => ?_⟩
  · have e : (A ++ (B ++ C)).getD t 0 = B.getD (t - A.length) 0 := by
      simp [List.getD, List.getElem?_append_right h1, List.getElem?_append_left (show t - A.length < B.length by omega)]
    rw [e]
    exact hB _ (by simp [List.getD, show t - A.length < B.length by omega])
  · cases C with
    | nil => simp at h
    | cons c R =>
      have e : (A ++ (B ++ c :: R)).getD (A.length + B.length) 0 = c := by
        simp [List.getD]
      rw [e]
      exact hC c R rfl

theorem flat_head (T : List StepV) (c : Int) (R : List Int) (h : T.flatMap stepText = c :: R) : stopB c = true := by
  cases T with
  | nil => cases h
  | cons s T =>
    obtain ⟨c', R', e, hc, -⟩ := stepText_parts s
    rw [List.flatMap_cons, e] at h
    simp at h
    rw [← h.1]
    exact hc

theorem pathTo_rest (x : Int) (T : List StepV) (k : Nat) : pathTo x T T.length = pathTo x T k ++ (T.drop k).flatMap stepText := by
  unfold pathTo
  rw [List.take_length, List.append_assoc, ← List.flatMap_append, List.take_append_drop]

theorem endAt_head (x : Int) (T : List StepV) : EndAt (pathTo x T T.length) 0 (pathTo x T 0).length := by
  have h := endAt_mid (L := pathTo x T T.length) (A := []) (B := pathTo x T 0) (C := (T.drop 0).flatMap stepText) (pathTo_rest x T 0) (by simpa [pathTo] using num_nostop x) (fun c R => flat_head _ c R)
  simpa using h

theorem drop_getPh (T : List StepV) {k : Nat} (hk : k < T.length) : T.drop k = T.getD k zeroPh :: T.drop (k + 1) := by
  rw [List.drop_eq_getElem_cons hk]
  simp [List.getD, hk]

theorem endAt_step (x : Int) (T : List StepV) {k : Nat} (hk : k < T.length) : EndAt (pathTo x T T.length) ((pathTo x T k).length + 1) (pathTo x T (k + 1)).length := by
  obtain ⟨c, R, e, hc, hR⟩ := stepText_parts (T.getD k zeroPh)
  have h := endAt_mid (L := pathTo x T T.length) (A := pathTo x T k ++ [c]) (B := R) (C := (T.drop (k + 1)).flatMap stepText) (by rw [pathTo_rest x T k, drop_getPh T hk, List.flatMap_cons, e]; simp) hR (fun c R => flat_head _ c R)
  rw [pathTo_step x T hk, e]
  simpa [Nat.add_assoc, Nat.add_comm] using h

/-- What lies between the places where a step begins and ends is the step's text. -/
theorem step_piece (x : Int) (T : List StepV) {k : Nat} (hk : k < T.length) : ((pathTo x T T.length).drop (pathTo x T k).length).take ((pathTo x T (k + 1)).length - (pathTo x T k).length) = stepText (T.getD k zeroPh) := by
  rw [pathTo_rest x T k, drop_getPh T hk, List.flatMap_cons, pathTo_step x T hk]
  simp
theorem head_piece (x : Int) (T : List StepV) : (pathTo x T T.length).take (pathTo x T 0).length = numText x := by
  rw [pathTo_rest x T 0]
  simp [pathTo]

/-- What a piece of the text says, as the model reads it; none: a number that is none. -/
def pieceOf (L : List Int) : Option StepV :=
  if L = [46, 42] then some ⟨2, 0⟩ else if L = [46, 42, 42] then some ⟨3, 0⟩
  else if L.getD 0 0 = 46 then (numberOf (L.drop 1)).map (fun n => ⟨1, n⟩)
  else if 4 < L.length ∧ L.take 3 = [91, 107, 61] then (numberOf ((L.drop 3).take (L.length - 1 - 3))).map (fun n => ⟨4, n⟩)
  else if 4 < L.length ∧ L.take 3 = [91, 105, 62] then (numberOf ((L.drop 3).take (L.length - 1 - 3))).map (fun n => ⟨5, n⟩)
  else some ⟨0, 0⟩

theorem numText_first (n : Int) : ∃ c R, numText n = c :: R ∧ c ≠ 42 := by
  have hp : 0 < (numText n).length := by
    unfold numText
    split
    · simp
    · exact decOf_pos _
  cases e : numText n with
  | nil => rw [e] at hp; cases hp
  | cons c R =>
    refine ⟨c, R, rfl, ?_⟩
    have hm : c ∈ numText n := by rw [e]; simp
    unfold numText at hm
    split at hm
    · rcases List.mem_cons.1 hm with rfl | hm
      · decide
      · have := isDig_bd (decOf_dig _ c hm); omega
    · have := isDig_bd (decOf_dig _ c hm); omega

theorem piece_text {s : StepV} (h : stepB s = true) : pieceOf (stepText s) = some s := by
  obtain ⟨c, R, en, hc⟩ := numText_first s.num
  have hk := stepB_kd h
  have hb : -1000000 ≤ s.num ∧ s.num ≤ 1000000 ∧ ((s.kd = 2 ∨ s.kd = 3) → s.num = 0) := by
    unfold stepB at h
    repeat' split at h
    all_goals simp [inB] at h
    all_goals omega
  have hn := text_number s.num (by omega)
  obtain ⟨kd, num⟩ := s
  simp only at *
  have hl : (numText num).length = R.length + 1 := by rw [en]; simp
  rcases hk with rfl | rfl | rfl | rfl | rfl
  · have e : stepText ⟨1, num⟩ = 46 :: numText num := by simp [stepText]
    rw [e]
    have n1 : ¬ (46 :: numText num = [46, 42]) := by rw [en]; intro q; simp at q; exact hc q.1
    have n2 : ¬ (46 :: numText num = [46, 42, 42]) := by rw [en]; intro q; simp at q; exact hc q.1
    rw [pieceOf, if_neg n1, if_neg n2, if_pos (by simp), List.drop_one, List.tail_cons, hn]
    rfl
  · have : num = 0 := hb.2.2 (.inl rfl)
    subst this
    rfl
  · have : num = 0 := hb.2.2 (.inr rfl)
    subst this
    rfl
  · have e : stepText ⟨4, num⟩ = 91 :: 107 :: 61 :: (numText num ++ [93]) := by simp [stepText]
    rw [e, pieceOf, if_neg (by simp), if_neg (by simp), if_neg (by simp), if_pos (by simp; omega)]
    have e2 : (List.drop 3 (91 :: 107 :: 61 :: (numText num ++ [93]))).take ((91 :: 107 :: 61 :: (numText num ++ [93])).length - 1 - 3) = numText num := by simp
    rw [e2, hn]
    rfl
  · have e : stepText ⟨5, num⟩ = 91 :: 105 :: 62 :: (numText num ++ [93]) := by simp [stepText]
    rw [e, pieceOf, if_neg (by simp), if_neg (by simp), if_neg (by simp), if_neg (by simp), if_pos (by simp; omega)]
    have e2 : (List.drop 3 (91 :: 105 :: 62 :: (numText num ++ [93]))).take ((91 :: 105 :: 62 :: (numText num ++ [93])).length - 1 - 3) = numText num := by simp
    rw [e2, hn]
    rfl

/-- L is the text of the path of x and T. -/
def IsPath (L : List Int) (x : Int) (T : List StepV) : Prop := pathB x T = true ∧ pathTo x T T.length = L

theorem pathB_from {x : Int} {T : List StepV} (h : pathB x T = true) : 1 ≤ x ∧ x ≤ 31 := by
  simp only [pathB, inB, Bool.and_eq_true, decide_eq_true_eq] at h
  exact h.2.1

/-- What the reader has, k steps in, of every path whose text it is. -/
def PathIn (L : List Int) (x : Int) (T : List StepV) (ok : Bool) (at' : Nat) : Prop := ∀ y U, IsPath L y U → y = x ∧ ok = true ∧ T.length ≤ U.length ∧ T = U.take T.length ∧ at' = (pathTo y U T.length).length

theorem pathIn_start {L : List Int} {j : Nat} (h : EndAt L 0 j) : PathIn L ((numberOf (L.take j)).getD 0) [] (numberOf (L.take j)).isSome j := by
  rintro y U ⟨hB, rfl⟩
  obtain rfl := endAt_one (endAt_head y U) h
  have hy := pathB_from hB
  rw [head_piece, text_number y (by omega)]
  exact ⟨rfl, rfl, Nat.zero_le _, rfl, rfl⟩

theorem pathIn_step {L : List Int} {x : Int} {T : List StepV} {i j : Nat} (h : PathIn L x T true i) (hi : i < L.length) (hj : EndAt L (i + 1) j) :
    PathIn L x (T ++ [(pieceOf ((L.drop i).take (j - i))).getD ⟨0, 0⟩]) (pieceOf ((L.drop i).take (j - i))).isSome j := by
  rintro y U hP
  obtain ⟨rfl, -, hl, hT, hat⟩ := h y U hP
  obtain ⟨hB, rfl⟩ := hP
  have hlt : T.length < U.length := by
    rcases Nat.lt_or_ge T.length U.length with g | g
    · exact g
    · rw [hat, Nat.le_antisymm hl g] at hi
      exact absurd hi (Nat.lt_irrefl _)
  subst hat
  obtain rfl := endAt_one (endAt_step y U hlt) hj
  rw [step_piece y U hlt, piece_text ((pathB_info hB).2.2 _ hlt)]
  refine ⟨rfl, rfl, by simp; omega, ?_, by simp⟩
  simp only [List.length_append, List.length_cons, List.length_nil, Nat.zero_add, Option.getD_some]
  rw [List.take_add_one, ← hT]
  simp [List.getD, hlt]

theorem pathIn_end {L : List Int} {x : Int} {T : List StepV} {ok : Bool} {i : Nat} (h : PathIn L x T ok i) (hi : L.length ≤ i) : ∀ y U, IsPath L y U → y = x ∧ U = T := by
  intro y U hP
  obtain ⟨rfl, -, hl, hT, hat⟩ := h y U hP
  refine ⟨rfl, ?_⟩
  rcases Nat.lt_or_ge T.length U.length with g | g
  · exfalso
    obtain ⟨c, R, e, -, -⟩ := stepText_parts (U.getD T.length zeroPh)
    have h1 := pathTo_rest y U T.length
    rw [drop_getPh U g, List.flatMap_cons, e, hP.2] at h1
    rw [h1, hat] at hi
    simp at hi
    omega
  · rw [hT, Nat.le_antisymm hl g, List.take_length]
end Go.Proofs.YtajcffchopcamaaGreatDoor

/- Which of its ways the reader of a path's text goes at a piece. -/
namespace Go.Proofs.YtajcffchopcamaaGreatDoor
open Go.RowKit

theorem str_is (P : ByteArray) (l : List UInt8) : (P.toList == l) = decide (sBytes P = l.map fun b => (b.toNat : Int)) := by
  rw [ByteArray.toList_eq]
  have inj : ∀ a b : UInt8, (a.toNat : Int) = (b.toNat : Int) → a = b := fun a b h => UInt8.toNat_inj.1 (by omega)
  have key : P.data.toList = l ↔ sBytes P = l.map fun b => (b.toNat : Int) := by
    unfold sBytes
    constructor
    · intro h; rw [h]
    · intro h; exact (List.map_inj_right (fun a b h => inj a b h)).1 h
  by_cases h : P.data.toList = l
  · rw [decide_eq_true (key.1 h), h]; simp
  · rw [decide_eq_false (fun e => h (key.2 e))]; simpa using h

end Go.Proofs.YtajcffchopcamaaGreatDoor

/- The path of a text; the walk of spec.ParsePath. -/
namespace Go.Proofs.YtajcffchopcamaaGreatDoor
open Go.RowKit

/-- What ParsePath answers: the path whose text it is, owned, or nothing where it is none's. -/
def PathAns (w w' : World) (L : List Int) (e : Ending) : Prop :=
  ((∃ (x : Int) (T : List StepV) (a : Option Addr) (c : Nat), e = .returned (.tuple #[.agg #[.int .i64 x, .slice a T.length c], .bool true]) ∧ IsPath L x T ∧ OwnPh w' w.heap.size w'.heap.size a c T) ∨ (e = .returned (.tuple #[.agg #[.int .i64 0, .slice none 0 0], .bool false]) ∧ ∀ y U, ¬ IsPath L y U)) ∧ Below w.heap.size w w'

theorem box2_fillP {w : World} {B : Nat} {x0 x1 : Value} {t : TypeId} (b : Box w B [x0, x1] t) (v0 v1 : Value) :
    ∃ W, Hid ((w.setCell ⟨B, 0, none⟩ v0).setCell ⟨B, 1, none⟩ v1 = W) ∧ Box W B [v0, v1] t ∧ Within B (B + 1) w W ∧ W.heap.size = w.heap.size := by
  refine ⟨_, rfl, by simpa using (b.set 0 v0).set 1 v1, (within_set w B 0 v0 (by omega)).trans (within_set _ B 1 v1 (by omega)), by simp⟩

/-- What the loop keeps: the box of the answer, the box of the path that is read, the row of its steps. -/
structure PIn (w : World) (x : Int) (wr : World) (T : List StepV) (a : Option Addr) (c : Nat) : Prop where
  sz : w.heap.size + 2 ≤ wr.heap.size
  b0 : Box wr w.heap.size [.int .i64 0, .slice none 0 0] 27
  b1 : Box wr (w.heap.size + 1) [.int .i64 x, .slice a T.length c] 27
  own : OwnPh wr (w.heap.size + 2) wr.heap.size a c T
  bl : Below w.heap.size w wr

theorem PIn.grown {w : World} {x : Int} {wr u w4 : World} {T : List StepV} {a : Option Addr} {c : Nat} (h : PIn w x wr T a c) (hu : Below wr.heap.size wr u) (hg : u.grownBy w4 (Value.slice a T.length c).ownBlock) :
    Box w4 w.heap.size [.int .i64 0, .slice none 0 0] 27 ∧ Box w4 (w.heap.size + 1) [.int .i64 x, .slice a T.length c] 27 ∧ Below w.heap.size w w4 ∧ w.heap.size + 2 ≤ w4.heap.size := by
  have tt := Touch.of_grown (bl := (Value.slice a T.length c).ownBlock.toList) hg (fun k hk => Option.mem_toList.2 hk)
  have nin : ∀ k, k < w.heap.size + 2 → k ∉ (Value.slice a T.length c).ownBlock.toList := fun k hk hm => by
    have := (h.own.lt k (Option.mem_toList.1 hm)).1
    omega
  have hz := h.sz
  have hsz := hu.size
  have c0 := h.b0.below hu (by omega)
  have c1 := h.b1.below hu (by omega)
  refine ⟨c0.block (tt.block _ c0.lt (nin _ (by omega))), c1.block (tt.block _ c1.lt (nin _ (by omega))), (h.bl.trans (hu.mono h.bl.size)).grown hg (by omega) (fun k hk => by have := (h.own.lt k hk).1; omega), by have := tt.size; omega⟩

theorem PathIn.none {L : List Int} {x : Int} {T U : List StepV} {i j : Nat} (h : PathIn L x T false i) : PathIn L x U false j := fun y V hP => by
  have := (h y V hP).2.1
  cases this

theorem PIn.put {w : World} {x : Int} {w4 : World} {T T3 : List StepV} {a a3 : Option Addr} {c c3 : Nat} (hb0 : Box w4 w.heap.size [.int .i64 0, .slice none 0 0] 27) (hb1 : Box w4 (w.heap.size + 1) [.int .i64 x, .slice a T.length c] 27) (hb : Below w.heap.size w w4) (hz : w.heap.size + 2 ≤ w4.heap.size) (ho : OwnPh w4 (w.heap.size + 2) w4.heap.size a3 c3 T3) :
    PIn w x (w4.setCell ⟨w.heap.size + 1, 1, none⟩ (.slice a3 T3.length c3)) T3 a3 c3 := by
  have hw := within_set w4 (w.heap.size + 1) 1 (.slice a3 T3.length c3) (lo := w.heap.size + 1) (hi := w.heap.size + 2) (by omega)
  refine ⟨by simpa using hz, hb0.other (by omega), hb1.set 1 _, ?_, hb.trans (hw.below (by omega) (by omega))⟩
  have := ho.within hw (.inr (Nat.le_refl _))
  simpa using this

theorem PIn.below {w : World} {x : Int} {wr u : World} {T : List StepV} {a : Option Addr} {c : Nat} (h : PIn w x wr T a c) (hu : Below wr.heap.size wr u) : PIn w x u T a c := by
  have hz := h.sz
  exact ⟨Nat.le_trans hz hu.size, h.b0.below hu (by omega), h.b1.below hu (by omega), (h.own.below hu).widen (Nat.le_refl _) hu.size (Nat.le_refl _), h.bl.trans (hu.mono h.bl.size)⟩

/-- The answer that is nothing, laid into the answer's box. -/
theorem PIn.no {w : World} {x : Int} {wr : World} {T : List StepV} {a : Option Addr} {c : Nat} (h : PIn w x wr T a c) {L : List Int} (hn : ∀ y U, ¬ IsPath L y U) :
    ∃ WF, Hid ((wr.setCell ⟨w.heap.size, 0, none⟩ (.int .i64 0)).setCell ⟨w.heap.size, 1, none⟩ (.slice none 0 0) = WF) ∧ (WF.cell? ⟨w.heap.size, 0, none⟩ = some (.int .i64 0) ∧ WF.cell? ⟨w.heap.size, 1, none⟩ = some (.slice none 0 0)) ∧ Hid (PathAns w WF L (.returned (.tuple #[.agg #[.int .i64 0, .slice none 0 0], .bool false]))) := by
  obtain ⟨WF, hWF, bF, hwF, -⟩ := box2_fillP h.b0 (.int .i64 0) (.slice none 0 0)
  have hz := h.sz
  exact ⟨WF, hWF, ⟨bF.cell 0 _ rfl, bF.cell 1 _ rfl⟩, .inr ⟨rfl, hn⟩, h.bl.trans (hwF.below (Nat.le_refl _) (by omega))⟩
/-- The path that was read, laid into the answer's box. -/
theorem PIn.yes {w : World} {x : Int} {wr : World} {T : List StepV} {a : Option Addr} {c : Nat} (h : PIn w x wr T a c) {L : List Int} (hn : IsPath L x T) :
    ∃ WF, Hid ((wr.setCell ⟨w.heap.size, 0, none⟩ (.int .i64 x)).setCell ⟨w.heap.size, 1, none⟩ (.slice a T.length c) = WF) ∧ (WF.cell? ⟨w.heap.size, 0, none⟩ = some (.int .i64 x) ∧ WF.cell? ⟨w.heap.size, 1, none⟩ = some (.slice a T.length c)) ∧ Hid (PathAns w WF L (.returned (.tuple #[.agg #[.int .i64 x, .slice a T.length c], .bool true]))) := by
  obtain ⟨WF, hWF, bF, hwF, hsF⟩ := box2_fillP h.b0 (.int .i64 x) (.slice a T.length c)
  have hz := h.sz
  refine ⟨WF, hWF, ⟨bF.cell 0 _ rfl, bF.cell 1 _ rfl⟩, .inl ⟨x, T, a, c, rfl, hn, ?_⟩, h.bl.trans (hwF.below (Nat.le_refl _) (by omega))⟩
  exact (h.own.within hwF (.inr (by omega))).widen (by omega) (by omega) (Nat.le_refl _)

theorem strOf_back (s : ByteArray) : strOf (sBytes s) = s := by
  apply ByteArray.ext
  apply Array.ext'
  unfold strOf sBytes
  simp [Function.comp_def]
theorem sBytes_strOfP (L : List Int) (h : ∀ z ∈ L, 0 ≤ z ∧ z < 256) : sBytes (strOf L) = L := by
  unfold sBytes strOf
  simp only [List.map_map]
  conv => rhs; rw [← List.map_id L]
  apply List.map_congr_left
  intro z hz
  have := h z hz
  simp
  omega
theorem num_byte (n : Int) : ∀ z ∈ numText n, 0 ≤ z ∧ z < 256 := by
  intro z hz
  unfold numText at hz
  split at hz
  · rcases List.mem_cons.1 hz with rfl | hz
    · decide
    · have := isDig_bd (decOf_dig _ z hz); omega
  · have := isDig_bd (decOf_dig _ z hz); omega
theorem stepText_byte (s : StepV) : ∀ z ∈ stepText s, 0 ≤ z ∧ z < 256 := by
  have hn := num_byte s.num
  intro z hz
  unfold stepText at hz
  repeat' split at hz
  all_goals simp only [List.mem_append, List.mem_cons, List.not_mem_nil, or_false] at hz
  · rcases hz with rfl | hz
    · decide
    · exact hn z hz
  · rcases hz with rfl | rfl <;> decide
  · rcases hz with rfl | rfl | rfl <;> decide
  · rcases hz with ((rfl | rfl | rfl) | hz) | rfl
    · decide
    · decide
    · decide
    · exact hn z hz
    · decide
  · rcases hz with ((rfl | rfl | rfl) | hz) | rfl
    · decide
    · decide
    · decide
    · exact hn z hz
    · decide
theorem pathTo_byte (x : Int) (T : List StepV) (k : Nat) : ∀ z ∈ pathTo x T k, 0 ≤ z ∧ z < 256 := by
  intro z hz
  unfold pathTo at hz
  rcases List.mem_append.1 hz with hz | hz
  · exact num_byte x z hz
  · obtain ⟨s, -, hs⟩ := List.mem_flatMap.1 hz
    exact stepText_byte s z hs
/-- A right path's text is the text s just where s is the path's. -/
theorem path_same {x : Int} {T : List StepV} (hB : pathB x T = true) (s : ByteArray) : strOf (pathText x T) = s ↔ IsPath (sBytes s) x T := by
  have e : pathText x T = pathTo x T T.length := by rw [pathText, if_pos hB]
  rw [e]
  constructor
  · intro h
    refine ⟨hB, ?_⟩
    rw [← h, sBytes_strOfP _ (pathTo_byte x T _)]
  · intro h
    rw [h.2, strOf_back]

end Go.Proofs.YtajcffchopcamaaGreatDoor
