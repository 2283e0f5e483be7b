/- Several texts in one, in their order. -/
import Derived.Test.YtbaocehcnjdkkaaDoorPart3
import Derived.Test.YtbaocehcnjdkkaaDoorPart5
import Derived.Test.YtbaocehcnjdkkaaDoorPart2
import Derived.Deep.QuietTactic
import Derived.BigQuiet
import Derived.WalkSmall
import Derived.Test.YtbaocehcnjdkkaaDoorPart1
import Derived.Test.YtbaocehcnjdkkaaDoorPart4
import Derived.Test.YtbaocehcnjdkkaaDoorProg
/- The walk of spec.Frame: it comes to frameOf. -/
namespace Go.Proofs.YtbaocehcnjdkkaaDoor
open Go.RowKit

set_option maxHeartbeats 400000 in
set_option maxRecDepth 100000 in
theorem specFrame_any (a : Option Addr) (c : Nat) (zs : List Int) (w : World) (hr : Reads w a zs) (hc : a = none → c = 0) (hl : zs.length ≤ 70368744100000) :
    Calls Tryd.prog 60 #[.slice a zs.length c] w fun e w' => ∃ a' c' ys, e = .returned (.slice a' ys.length c') ∧ ys = frameOf zs ∧ OwnB w' w.heap.size a' c' ys ∧ Below w.heap.size w w' := by
  have HC : Hid (a = none → c = 0) := hc
  have HB : Hid (∀ z ∈ zs, 0 ≤ z ∧ z < 256) := hr.byte
  have HL : Hid ((putOf (zs.length : Int)).length ≤ 65) := (putOf_len _).2
  clear hc
  go_enter Tryd.func60, Tryd.ntmps60
  go_wp2_with fail
  refine (specPutInt_any _ 0 [] (zs.length : Int) _ (own_lit0 w).reads (fun h => by cases h) (by simp)).mono ?_
  rintro e w1 ⟨a1, c1, y1, rfl, hy1, ho1, hb1⟩
  have hbw : Below w.heap.size w w1 := ((Below.refl _ _).alloc (Nat.le_refl _) _).trans (hb1.mono (by simp))
  have hr1 := hr.below hbw
  have HY1 : Hid (y1 = putOf zs.length) := by rw [Hid, hy1]; simp
  have hl1 : y1.length ≤ 65 := by rw [HY1.out]; exact HL.out
  have ho1' : OwnB w1 w.heap.size a1 c1 y1 := ho1.base (by simp)
  have hs1 := hbw.size
  clear hy1 hb1 ho1
  go_wp2_with (at_builtin; refine append_bytes rfl _ _ rfl w.heap.size a1 c1 y1 rfl ho1' a c zs rfl hr1 HC.out (by omega) hs1 ?_; intro a2 c2 y2 w2 hy2 ho2 hg2)
  have hbw2 := hbw.grown hg2 hs1 (fun j hj => (ho1'.2.lt j hj).1)
  have hr2 := hr.below hbw2
  have HY2 : Hid (y2 = putOf zs.length ++ zs) := by rw [Hid, hy2.out, HY1.out]
  have hl2 : y2.length ≤ 70368744177000 := by
    have e := congrArg List.length HY2.out
    have := HL.out
    rw [List.length_append] at e
    omega
  clear hr hr1 hbw ho1' hg2 hs1 hl1
  refine (specCrc_any a c zs w2 hr2 (by omega)).mono ?_
  rintro e w3 ⟨rfl, rfl⟩
  have hcl := crcOf_lt zs HB.out
  go_wp2_with fail
  refine (l1Four_any (crcOf zs) w3 hcl).mono ?_
  rintro e w4 ⟨a4, c4, y4, rfl, hy4, ho4, hb4⟩
  have HY4 : Hid (y4 = four (crcOf zs)) := hy4
  have hl4 : y4.length = 4 := by rw [hy4]; simp [four, fourTo]
  have hl4' : y4.length ≤ 4 := by omega
  have ho2' := ho2.below hb4
  have hs4 : w.heap.size ≤ w4.heap.size := Nat.le_trans hbw2.size hb4.size
  clear hy4 hl4 ho2
  go_wp2_with (at_builtin; refine append_bytes rfl _ _ rfl w.heap.size a2 c2 y2 rfl ho2' a4 c4 y4 rfl ho4.reads ho4.nocap (by omega) hs4 ?_; intro a5 c5 y5 w5 hy5 ho5 hg5)
  go_ret
  exact ⟨a5, c5, y5, rfl, by rw [hy5.out, HY2.out, HY4.out]; rfl, ho5, (hbw2.trans (hb4.mono hbw2.size)).grown hg5 hs4 (fun j hj => (ho2'.2.lt j hj).1)⟩

end Go.Proofs.YtbaocehcnjdkkaaDoor

/- The walks of spec.l3PutSlot and spec.PutPage. -/
namespace Go.Proofs.YtbaocehcnjdkkaaDoor
open Go.RowKit

theorem flatS_step (ss : List SlotA) (k : Nat) (h : k < ss.length) : ((ss.take (k + 1)).map (·.v)).flatMap putSlotOf = ((ss.take k).map (·.v)).flatMap putSlotOf ++ putSlotOf (ss.getD k zeroS).v := by
  rw [List.take_add_one, List.map_append, List.flatMap_append]
  simp [List.getD, h]

set_option maxHeartbeats 400000 in
set_option maxRecDepth 100000 in
theorem l3PutSlot_any (a : Option Addr) (c : Nat) (xs : List Int) (s : SlotA) (w : World) (hx : Reads w a xs) (hc : a = none → c = 0) (hr : s.reads w) (hl : Fit [s]) (hxl : xs.length ≤ 1000000) :
    Calls Tryd.prog 59 #[.slice a xs.length c, .agg s.cells.toArray] w fun e w' => ∃ a' c' ys, e = .returned (.slice a' ys.length c') ∧ Hid (ys = xs ++ putSlotOf s.v) ∧ OwnB w' w.heap.size a' c' ys ∧ Below w.heap.size w w' := by
  obtain ⟨h1, h2⟩ := hl s (List.mem_singleton.2 rfl)
  obtain ⟨W, hW, b0, hbW, hsW⟩ := boxes1 w s.cells 28
  have C1 := specPutObj_any s.v.o s.aI s.cI s.aR s.cR W (ReadsO.below hr hbW) (by omega) (by omega)
  have HT : Hid (s.v.has = true → putSlotOf s.v = putOf (putObjOf s.v.o).length ++ putObjOf s.v.o) := fun h => by unfold putSlotOf; rw [if_pos h]
  have HF : Hid (s.v.has = false → putSlotOf s.v = putOf 0) := fun h => by unfold putSlotOf; rw [if_neg (by rw [h]; decide)]
  have hpl := putObj_len s.v.o
  have HC : Hid (a = none → c = 0) := hc
  generalize putSlotOf s.v = R at *
  simp only [SlotA.cells] at *
  clear hc
  cases hh : s.v.has with
  | false =>
    have HR : Hid (_ = _) := HF.out hh
    rw [hh] at hW
    clear hh HT HF C1
    go_enter Tryd.func59, Tryd.ntmps59
    go_wp2_with fail
    rw [hW.out]
    refine (specPutInt_any a c xs 0 W (hx.below hbW) HC.out (by omega)).mono ?_
    rintro e w1 ⟨a1, c1, y1, rfl, hy1, ho1, hb1⟩
    have HY : Hid (y1 = xs ++ R) := by rw [Hid, hy1, HR.out]
    clear hy1
    go_wp2
    go_ret
    exact ⟨a1, c1, y1, rfl, HY, ho1.base hbW.size, hbW.trans (hb1.mono hbW.size)⟩
  | true =>
    have HR : Hid (_ = _) := HT.out hh
    rw [hh] at hW
    clear hh HT HF
    go_enter Tryd.func59, Tryd.ntmps59
    go_wp2_with fail
    rw [hW.out]
    refine C1.mono ?_
    clear C1
    rintro e w1 ⟨a1, c1, y1, rfl, HY1, ho1, hb1⟩
    have B1 : Below w.heap.size w w1 := hbW.trans (hb1.mono hbW.size)
    have hyl : y1.length ≤ 1000 := by rw [HY1.out]; exact hpl
    go_wp2_with fail
    refine (specPutInt_any a c xs y1.length w1 (hx.below B1) HC.out (by omega)).mono ?_
    rintro e w2 ⟨a2, c2, y2, rfl, hy2, ho2, hb2⟩
    have HY2 : Hid (y2 = xs ++ putOf y1.length) := hy2
    have hyl2 : y2.length ≤ 1000100 := by have := (putOf_len (y1.length : Int)).2; rw [HY2.out, List.length_append]; omega
    have B2 : Below w.heap.size w w2 := B1.trans (hb2.mono B1.size)
    have ho2' := ho2.base B1.size
    have hr12 := ho1.reads.below hb2
    have hnc := ho1.nocap
    have HNC : Hid (_) := hnc
    have hs2 := B2.size
    clear hy2 hnc
    go_wp2_with (at_builtin; refine append_bytes rfl _ _ rfl w.heap.size a2 c2 y2 rfl ho2' a1 c1 y1 rfl hr12 HNC.out (by omega) hs2 ?_; intro a3 c3 y3 w3 hy3 ho3 hg3)
    have HY : Hid (y3 = xs ++ R) := by rw [Hid, hy3.out, HY2.out, HR.out, HY1.out]; simp only [List.append_assoc]
    go_ret
    exact ⟨a3, c3, y3, rfl, HY, ho3, B2.grown hg3 hs2 (fun k hk => (ho2'.2.lt k hk).1)⟩

set_option maxHeartbeats 1000000 in
set_option maxRecDepth 100000 in
theorem specPutPage_any (p : PageA) (h4 : p.ss.length = 4) (w : World) (hr : ReadsS w p.ss) (hl : Fit p.ss) :
    Calls Tryd.prog 22 #[.agg p.cells.toArray] w fun e w' => ∃ a' c' ys, e = .returned (.slice a' ys.length c') ∧ Hid (ys = putPageOf p.lsn (p.ss.map (·.v))) ∧ OwnB w' w.heap.size a' c' ys ∧ Below w.heap.size w w' := by
  obtain ⟨W, hW, b0, hbW, hsW⟩ := boxes1 w p.cells 31
  have hrg : W.rangeAt w.heap.size 0 p.cells := Box.range [] p.cells [] (by simpa using b0)
  have hi : (Tryd.prog.info? 31).map (·.size) = some p.cells.length := by rw [page_len p h4]; kernel_rfl
  have C1 := specPageOk_any p h4 W (hr.below hbW) hl
  have HPT : Hid (okP p.lsn (p.ss.map (·.v)) = true → putPageOf p.lsn (p.ss.map (·.v)) = frameOf (bodyOf p.lsn (p.ss.map (·.v)))) := fun h => putP_ok h
  have HPF : Hid (okP p.lsn (p.ss.map (·.v)) = false → putPageOf p.lsn (p.ss.map (·.v)) = []) := fun h => by unfold putPageOf; rw [if_neg (by rw [h]; decide)]
  generalize putPageOf p.lsn (p.ss.map (·.v)) = R at *
  go_enter Tryd.func22, Tryd.ntmps22
  go_wp2_with (first | (guard_target = wpList _ _ _ (Oper.mk (some 5) _ _ _ _ _ :: _) _ _; refine wpList_load_mid rfl 31 (.tmp 1) rfl w.heap.size 0 rfl p.cells _ (by rw [hW.out]; exact hrg) Tryd.underlying31 rfl hi ?_) | fail)
  rw [hW.out]
  clear hW hrg hi hsW
  refine C1.mono ?_
  clear C1
  rintro e w1 ⟨rfl, hb1⟩
  have B1 : Below w.heap.size w w1 := hbW.trans (hb1.mono hbW.size)
  have b1 := b0.below hb1 b0.lt
  cases hok : okP p.lsn (p.ss.map (·.v)) with
  | false =>
    have HR : Hid (R = []) := HPF.out hok
    clear hok HPT
    go_wp2
    go_ret
    exact ⟨_, 0, [], rfl, HR.out.symm, (own_lit0 w1).base B1.size, B1.alloc B1.size _⟩
  | true =>
    have HR : Hid (_ = _) := HPT.out hok
    clear hok HPF HPT
    obtain ⟨n, ss⟩ := p
    simp only [PageA.cells] at *
    have H4 : Hid (ss.length = 4) := h4
    have x0 := (b1.alloc (.cells #[] 5)).cell 0 _ rfl
    clear h4
    go_wp2_with fail
    refine (specPutInt_any _ 0 [] n _ ⟨by simp, by simp⟩ (fun h => by cases h) (by simp)).mono ?_
    rintro e w2 ⟨a2, c2, y2, rfl, hy2, ho2, hb2⟩
    have hbA : Below w1.heap.size w1 (w1.alloc (.cells #[] 5)) := (Below.refl _ _).alloc (Nat.le_refl _) _
    have N2 : Below w1.heap.size w1 w2 := hbA.trans (hb2.mono hbA.size)
    have B2 : Below w.heap.size w w2 := B1.trans (N2.mono B1.size)
    have HY2 : Hid (y2 = putOf n ++ ((ss.take 0).map (·.v)).flatMap putSlotOf) := by rw [Hid, hy2]; simp
    have ho2' : OwnB w2 w.heap.size a2 c2 y2 := ho2.base (Nat.le_trans B1.size hbA.size)
    have b2 := b1.below N2 b1.lt
    have hlt2 := b2.lt
    clear hy2 hbA hb2 ho2 x0
    go_wp2_with fail
    go_loopw [3, 4] (fun b i wr => ∃ (a' : Option Addr) (c' : Nat) (ys : List Int) (k : Nat), b = .slice a' ys.length c' ∧ i = .int .i64 k ∧ k ≤ 4 ∧ Hid (ys = putOf n ++ ((ss.take k).map (·.v)).flatMap putSlotOf) ∧ OwnB wr w.heap.size a' c' ys ∧ Below w2.heap.size w2 wr)
      (fun _ i _ => 4 - (intOf i).toNat)
    case atStart => exact ⟨a2, c2, y2, 0, rfl, rfl, by omega, HY2, ho2', Below.refl _ _⟩
    case round =>
      obtain ⟨a', c', ys, k, rfl, rfl, hk, hy, ho, hbx⟩ := hrel
      have hbl : Below w.heap.size w wr := B2.trans (hbx.mono B2.size)
      have hyl : ys.length ≤ 100000 := by
        have h1 := flatS_len ((ss.take k).map (·.v))
        have h2 := (putOf_len n).2
        rw [hy.out, List.length_append]
        rw [List.length_map, List.length_take] at h1
        omega
      by_cases hlt : k < 4
      · have hkl : k < ss.length := by rw [H4.out]; exact hlt
        have br := b2.below hbx hlt2
        obtain ⟨c0, c1, c2, c3, _⟩ := br.pslot k hkl
        have hi0 : (0 : Int) ≤ (k : Int) := by omega
        have hi4 : (k : Int) < 4 := by omega
        have hrk := (hr _ (getD_mem hkl)).below hbl
        have hlk : Fit [ss.getD k zeroS] := fun s hs => by obtain rfl := List.mem_singleton.1 hs; exact hl _ (getD_mem hkl)
        have HF : Hid (_ = _) := flatS_step ss k hkl
        generalize ss.getD k zeroS = s at *
        have C := l3PutSlot_any a' c' ys s wr ho.reads ho.nocap hrk hlk (by omega)
        simp only [SlotA.cells] at C
        go_wp2_with fail
        refine C.mono ?_
        clear C
        rintro e w4 ⟨a4, c4, y4, rfl, HY4, ho4, hb4⟩
        have HY : Hid (y4 = putOf n ++ ((ss.take (k + 1)).map (·.v)).flatMap putSlotOf) := by rw [Hid, HY4.out, hy.out, HF.out]; simp only [List.append_assoc]
        go_wp2_with fail
        go_roundw
        case rel => exact ⟨a4, c4, y4, k + 1, rfl, by go_num, by omega, HY, ho4.base hbl.size, hbx.trans (hb4.mono hbx.size)⟩
        case measure => simp [intOf]; omega
      · obtain rfl : k = 4 := by omega
        have hkk : ¬ ((4 : Nat) : Int) < 4 := by omega
        have HYB : Hid (ys = bodyOf n (ss.map (·.v))) := by rw [Hid, hy.out, List.take_of_length_le (by rw [H4.out]; omega)]; rfl
        go_wp2_with fail
        refine (specFrame_any a' c' ys wr ho.reads ho.nocap (by omega)).mono ?_
        rintro e w5 ⟨a5, c5, y5, rfl, hy5, ho5, hb5⟩
        have HY5 : Hid (y5 = R) := by rw [Hid, hy5, HYB.out, HR.out]
        clear hy5
        go_wp2
        go_ret
        exact ⟨a5, c5, y5, rfl, HY5, ho5.base hbl.size, hbl.trans (hb5.mono hbl.size)⟩
end Go.Proofs.YtbaocehcnjdkkaaDoor

/- The walks of spec.l1Ends and spec.Unframe. -/
namespace Go.Proofs.YtbaocehcnjdkkaaDoor
open Go.RowKit

/-- Does what begins at q end ahead of a number's last group? -/
def endsB (zs : List Int) (q : Nat) : Bool := decide (lead (zs.drop q) = zs.length - q ∧ zs.length - q < 6)

theorem endsB_no (zs : List Int) (q j : Nat) (hj : q + j < zs.length) (h : zs.getD (q + j) 0 < 128) : endsB zs q = false := by
  unfold endsB
  rw [decide_eq_false_iff_not]
  rintro ⟨h1, _⟩
  have := lead_stop j (zs.drop q) (by simp; omega) (by rw [drop_getD]; exact h)
  omega
theorem endsB_all (zs : List Int) (q : Nat) (h : ∀ i, i < zs.length - q → 128 ≤ zs.getD (q + i) 0) : endsB zs q = decide ((zs.length - q) < 6) := by
  have h1 := lead_ge (zs.length - q) (zs.drop q) (by simp) (fun i hi => by rw [drop_getD]; exact h i hi)
  have h2 := lead_le (zs.drop q)
  have h3 : (zs.drop q).length = zs.length - q := List.length_drop
  unfold endsB
  exact decide_eq_decide.2 ⟨fun h => h.2, fun h => ⟨by omega, h⟩⟩

theorem why_ends (zs : List Int) (q : Nat) (hq : q ≤ zs.length) (b : Bool) (h : endsB zs q = b) : scanWhy zs q = if b then 1 else 3 := by
  subst h
  unfold scanWhy endsB
  rw [Int.toNat_natCast]
  by_cases h : lead (zs.drop q) = zs.length - q ∧ zs.length - q < 6
  · rw [if_pos ⟨by omega, by omega, h.1, by omega⟩, decide_eq_true h]; rfl
  · rw [if_neg (fun h' => h ⟨h'.2.2.1, by omega⟩), decide_eq_false h]; rfl

set_option maxHeartbeats 400000 in
set_option maxRecDepth 100000 in
theorem l1Ends_any (a : Option Addr) (c : Nat) (zs : List Int) (q : Nat) (w : World) (hr : Reads w a zs) (hl : zs.length ≤ 70368744177664) (hq : q ≤ zs.length) :
    Calls Tryd.prog 95 #[.slice a zs.length c, .int .i64 q] w fun e w' => e = .returned (.bool (endsB zs q)) ∧ w' = w := by
  have hby := hr.byte
  rcases hr.cases with rfl | ⟨b, off, rfl, hpos, hcell⟩
  · have hq' : q < 1 := by simp at hq; omega
    have HE : Hid (endsB [] q = true) := by rw [Hid]; unfold endsB; simp [lead]
    have hz : ((0 : Int) - (q : Int) < 6) := by omega
    go_enter Tryd.func95, Tryd.ntmps95
    go_wp2
    refine wp_loop_rounds 1 ?_
    rw [rounds_succ]
    go_wp2
    go_ret
    exact ⟨ret_bool (by rw [HE.out]; simp; omega), rfl⟩
  go_enter Tryd.func95, Tryd.ntmps95
  go_wp2
  go_loop [5] (fun i => ∃ j : Nat, q + j ≤ zs.length ∧ i = .int .i64 ((q + j : Nat) : Int) ∧ Hid (∀ i, i < j → 128 ≤ zs.getD (q + i) 0)) (fun i => zs.length - (intOf i).toNat)
  case atStart => exact ⟨0, by omega, by simp, fun i hi => by omega⟩
  case round =>
    obtain ⟨j, hjl, rfl, hall⟩ := hrel
    by_cases hlt : q + j < zs.length
    · have hc := hcell (q + j) hlt
      obtain ⟨hn, hn2⟩ := bytes_nat hby (q + j)
      have HCC : Hid (zs.getD (q + j) 0 = ((zs.getD (q + j) 0).toNat : Int)) := hn
      rw [hn] at hc
      clear hn
      generalize (zs.getD (q + j) 0).toNat = cc at *
      by_cases hcc : cc < 128
      · have HE : Hid (endsB zs q = false) := endsB_no zs q j hlt (by rw [HCC.out]; omega)
        clear hcell hby
        go_wp2
        go_ret
        exact ⟨ret_bool HE.out.symm, rfl⟩
      · have HN : Hid (∀ i, i < j + 1 → 128 ≤ zs.getD (q + i) 0) := by
          intro i hi
          by_cases e : i = j
          · rw [e, HCC.out]; omega
          · exact hall.out i (by omega)
        clear hcell hby
        go_wp2
        go_round
        case rel => exact ⟨j + 1, by omega, by go_num, HN⟩
        case measure => simp [intOf]; omega
    · have HE : Hid (endsB zs q = decide (zs.length - q < 6)) := endsB_all zs q (fun i hi => hall.out i (by omega))
      clear hcell hby
      go_wp2
      go_ret
      exact ⟨ret_bool (by rw [HE.out]; exact decide_eq_decide.2 (by omega)), rfl⟩

theorem own_empty (w : World) : OwnB (w.alloc (.cells #[] 5)) w.heap.size (some ⟨w.heap.size, 0, none⟩) 0 [] := own_lit0 w

theorem take4_of (S F : List Int) (hs : 4 ≤ S.length) (hf : F.length = 4) (h : ∀ t, t < 4 → S.getD t 0 = F.getD t 0) : S.take 4 = F := by
  apply List.ext_getElem
  · simp; omega
  · intro i h1 h2
    have := h i (by omega)
    simp [List.getD, h2] at this
    rw [List.getElem?_eq_getElem (by omega)] at this
    simpa using this
theorem take4_not (S F : List Int) (t : Nat) (ht : t < 4) (h : S.getD t 0 ≠ F.getD t 0) : ¬ S.take 4 = F := by
  intro e
  apply h
  rw [← e]
  simp [List.getD, ht]

set_option maxHeartbeats 2000000 in
set_option maxRecDepth 100000 in
theorem specUnframe_any (a : Option Addr) (c : Nat) (zs : List Int) (p : Int) (w : World) (hr : Reads w a zs) (hl : zs.length ≤ 70368744100000) (hcap : zs.length ≤ c) :
    Calls Tryd.prog 62 #[.slice a zs.length c, .int .i64 p] w fun e w' => ∃ a' c' ys q code, e = .returned (.tuple #[.slice a' ys.length c', .int .i64 q, .int .i64 code]) ∧ Hid (unfOf zs p = (ys, q, code)) ∧ OwnB w' w.heap.size a' c' ys ∧ Below w.heap.size w w' := by
  by_cases hin : 0 ≤ p ∧ p ≤ zs.length
  case neg =>
    have HB : Hid (inB p 0 zs.length = false) := by unfold inB; exact decide_eq_false hin
    have hg : getAt zs p = none := by
      by_cases h0 : p < 0
      · exact getAt_neg zs p h0
      · exact getAt_past zs p (by omega)
    have HU : Hid (unfOf zs p = ([], p, 3)) := by rw [Hid, unf_none zs p hg]; unfold scanWhy; rw [if_neg (fun h => hin ⟨h.1, h.2.1⟩)]
    clear hg hin
    go_enter Tryd.func62, Tryd.ntmps62
    go_wp2_with fail
    refine (l1In_any _ _ _ _).mono ?_
    rintro e w' ⟨rfl, rfl⟩
    rw [HB.out]
    go_wp2
    go_ret3
    exact ⟨_, 0, [], p, 3, rfl, HU, own_lit0 w', (Below.refl _ _).alloc (Nat.le_refl _) _⟩
  case pos =>
  obtain ⟨q, rfl⟩ := Int.eq_ofNat_of_zero_le hin.1
  have hq : q ≤ zs.length := by omega
  have HB : Hid (inB q 0 zs.length = true) := by unfold inB; exact decide_eq_true hin
  clear hin
  cases hg : getAt zs q with
  | none =>
    have HG : Hid (_ = _) := hg
    have HU : Hid (_ = _) := unf_none zs q hg
    have HW : Hid (∀ b, endsB zs q = b → scanWhy zs q = if b then 1 else 3) := fun b h => why_ends zs q hq b h
    clear hg
    cases he : endsB zs q with
    | true =>
      have HE : Hid (_ = _) := he
      have HU1 : Hid (unfOf zs q = ([], (q : Int), 1)) := by rw [Hid, HU.out, HW.out _ he]; rfl
      clear he HW
      go_enter Tryd.func62, Tryd.ntmps62
      go_wp2_with fail
      refine (l1In_any _ _ _ _).mono ?_
      rintro e w' ⟨rfl, rfl⟩
      rw [HB.out]
      go_wp2_with fail
      refine (specGetInt_any a c zs q w' hr (by omega)).mono ?_
      rintro e w'' ⟨rfl, rfl⟩
      rw [HG.out]
      simp only [triple]
      go_wp2_with fail
      refine (l1Ends_any a c zs q w'' hr (by omega) hq).mono ?_
      rintro e w3 ⟨rfl, rfl⟩
      rw [HE.out]
      go_wp2
      go_ret3
      exact ⟨_, 0, [], q, 1, rfl, HU1, own_lit0 _, (Below.refl _ _).alloc (Nat.le_refl _) _⟩
    | false =>
      have HE : Hid (_ = _) := he
      have HU1 : Hid (unfOf zs q = ([], (q : Int), 3)) := by rw [Hid, HU.out, HW.out _ he]; rfl
      clear he HW
      go_enter Tryd.func62, Tryd.ntmps62
      go_wp2_with fail
      refine (l1In_any _ _ _ _).mono ?_
      rintro e w' ⟨rfl, rfl⟩
      rw [HB.out]
      go_wp2_with fail
      refine (specGetInt_any a c zs q w' hr (by omega)).mono ?_
      rintro e w'' ⟨rfl, rfl⟩
      rw [HG.out]
      simp only [triple]
      go_wp2_with fail
      refine (l1Ends_any a c zs q w'' hr (by omega) hq).mono ?_
      rintro e w3 ⟨rfl, rfl⟩
      rw [HE.out]
      go_wp2
      go_ret3
      exact ⟨_, 0, [], q, 3, rfl, HU1, own_lit0 _, (Below.refl _ _).alloc (Nat.le_refl _) _⟩
  | some r =>
    obtain ⟨n, k⟩ := r
    obtain ⟨hk, hn1, hn2⟩ := getAt_bd zs q n k hg
    have HG : Hid (_ = _) := hg
    by_cases h0 : n < 0
    · have HU : Hid (_ = _) := unf_neg zs q n k hg h0
      clear hg
      go_enter Tryd.func62, Tryd.ntmps62
      go_wp2_with fail
      refine (l1In_any _ _ _ _).mono ?_
      rintro e w' ⟨rfl, rfl⟩
      rw [HB.out]
      go_wp2_with fail
      refine (specGetInt_any a c zs q w' hr (by omega)).mono ?_
      rintro e w'' ⟨rfl, rfl⟩
      rw [HG.out]
      simp only [triple]
      go_wp2
      go_ret3
      exact ⟨_, 0, [], q, 3, rfl, HU, own_lit0 _, (Below.refl _ _).alloc (Nat.le_refl _) _⟩
    obtain ⟨m, rfl⟩ := Int.eq_ofNat_of_zero_le (show 0 ≤ n from by omega)
    by_cases h1 : (zs.length : Int) - (k : Int) < (m : Int) + 4
    · have HU : Hid (_ = _) := unf_end zs q m k hg h1
      have h1' : (zs.length : Int) - (k : Int) - 4 < (m : Int) := by omega
      clear hg h1
      go_enter Tryd.func62, Tryd.ntmps62
      go_wp2_with fail
      refine (l1In_any _ _ _ _).mono ?_
      rintro e w' ⟨rfl, rfl⟩
      rw [HB.out]
      go_wp2_with fail
      refine (specGetInt_any a c zs q w' hr (by omega)).mono ?_
      rintro e w'' ⟨rfl, rfl⟩
      rw [HG.out]
      simp only [triple]
      go_wp2
      go_ret3
      exact ⟨_, 0, [], q, 1, rfl, HU, own_lit0 _, (Below.refl _ _).alloc (Nat.le_refl _) _⟩
    have hlen : k + m + 4 ≤ zs.length := by omega
    have hrB := reads_slice hr k m (by omega)
    have hlB : ((zs.drop k).take m).length = m := by simp; omega
    have hcl := crcOf_lt _ hrB.byte
    have HUS : Hid (_ → _) := unf_sum zs q m k hg h1
    have HUG : Hid (_ → _) := unf_good zs q m k hg h1
    have h1' : ¬ (zs.length : Int) - (k : Int) - 4 < (m : Int) := by omega
    have HLB : Hid (m = ((zs.drop k).take m).length) := hlB.symm
    have hby := hr.byte
    rcases hr.cases with rfl | ⟨b, off, rfl, hpos, hcell⟩
    · simp at hlen
    clear hg h1 hlB
    have hrP := reads_part hby hcell k m (by omega)
    have HSL : Hid (4 ≤ (zs.drop (k + m)).length) := by rw [Hid]; simp; omega
    have HSD : Hid (∀ t, (zs.drop (k + m)).getD t 0 = zs.getD (k + m + t) 0) := drop_getD zs (k + m)
    generalize hG : (zs.drop k).take m = G at *
    clear hG
    go_enter Tryd.func62, Tryd.ntmps62
    go_wp2_with fail
    refine (l1In_any _ _ _ _).mono ?_
    rintro e w' ⟨rfl, rfl⟩
    rw [HB.out]
    go_wp2_with fail
    refine (specGetInt_any _ c zs q w' hr (by omega)).mono ?_
    rintro e w'' ⟨rfl, rfl⟩
    rw [HG.out]
    simp only [triple]
    have hck : ¬ c = k := by omega
    have hrG := hrP.alloc (.cells #[] 5)
    go_wp2_with (at_builtin; refine append_bytes rfl _ _ rfl w''.heap.size (some ⟨w''.heap.size, 0, none⟩) 0 [] rfl (own_lit0 _) (some ⟨b, off + k, none⟩) (c - k) G (by show Value.slice _ _ _ = Value.slice _ _ _; congr 1; have := HLB.out; omega) hrG (fun h => by cases h) (by have := HLB.out; simp; omega) (by simp) ?_; intro a2 c2 y2 w2 hy2 ho2 hg2)
    have B2 : Below w''.heap.size w'' w2 := ((Below.refl _ _).alloc (Nat.le_refl _) _).grown hg2 (by simp) (fun j hj => (own_lit0 w'').2.lt j hj |>.1)
    obtain rfl : y2 = G := by rw [hy2.out]; rfl
    clear hy2
    have hyl : y2.length ≤ 1000000000000 := by have := HLB.out; omega
    refine (specCrc_any a2 c2 y2 w2 ho2.reads (by omega)).mono ?_
    rintro e w3 ⟨rfl, rfl⟩
    go_wp2_with fail
    refine (l1Four_any (crcOf y2) w3 hcl).mono ?_
    rintro e w4 ⟨a4, c4, y4, rfl, hy4, ho4, hb4⟩
    have B4 : Below w''.heap.size w'' w4 := B2.trans (hb4.mono B2.size)
    have ho24 := ho2.below hb4
    have hr4 := hr.below B4
    have HY4 : Hid (y4 = four (crcOf y2)) := hy4
    have h4l : y4.length = 4 := by rw [hy4]; simp [four, fourTo]
    have H4L : Hid (y4.length = 4) := h4l
    have h4p : 4 ≤ y4.length := by omega
    rcases ho4.reads.cases with h | ⟨b4, o4, rfl, _, hc4⟩
    · rw [h] at h4l; simp at h4l
    have hc0 : ∀ i, i < zs.length → w4.cell? ⟨b, off + i, none⟩ = some (.int .u8 (zs.getD i 0)) := by
      rcases hr4.cases with h | ⟨b', o', h', _, hh⟩
      · rw [h] at hpos; simp at hpos
      · cases h'; exact hh
    clear hy4 h4l hcell hrB hrP hrG hg2
    go_wp2
    go_loopw [12] (fun i wr => ∃ j : Nat, j ≤ 4 ∧ i = .int .i64 j ∧ Hid (∀ t, t < j → (zs.drop (k + m)).getD t 0 = y4.getD t 0) ∧ ∃ n, wr = w4.drewN n) (fun i _ => 4 - (intOf i).toNat)
    case atStart => exact ⟨0, by omega, rfl, fun t ht => by omega, 0, rfl⟩
    case round =>
      obtain ⟨j, hj, rfl, hall, n, rfl⟩ := hrel
      by_cases hlt : j < 4
      · have h1 := hc0 (k + m + j) (by omega)
        have h2 := hc4 j (by omega)
        obtain ⟨hn, hn2⟩ := bytes_nat hby (k + m + j)
        obtain ⟨hn', hn2'⟩ := bytes_nat ho4.1 j
        have HZ : Hid ((zs.drop (k + m)).getD j 0 = ((zs.getD (k + m + j) 0).toNat : Int)) := by rw [Hid, HSD.out]; exact hn
        have HY : Hid (y4.getD j 0 = ((y4.getD j 0).toNat : Int)) := hn'
        rw [hn] at h1
        rw [hn'] at h2
        clear hn hn' hc0 hc4
        generalize (zs.getD (k + m + j) 0).toNat = zz at *
        generalize (y4.getD j 0).toNat = yy at *
        have hx1 : (k : Int) + (m : Int) + (j : Int) < (zs.length : Int) := by omega
        have hx2 : (j : Int) < (y4.length : Int) := by omega
        have hw1 : IntKind.i64.wrap ((k : Int) + (m : Int)) = (k : Int) + (m : Int) := by rw [IntKind.wrap_i64]; omega
        have hw2 : IntKind.i64.wrap ((k : Int) + (m : Int) + (j : Int)) = (k : Int) + (m : Int) + (j : Int) := by rw [IntKind.wrap_i64]; omega
        by_cases hzy : zz = yy
        · have HN : Hid (∀ t, t < j + 1 → (zs.drop (k + m)).getD t 0 = y4.getD t 0) := by
            intro t ht
            by_cases e : t = j
            · rw [e, HZ.out, HY.out, hzy]
            · exact hall.out t (by omega)
          subst hzy
          go_wp2
          go_region
          go_wp2
          go_roundw
          case rel => exact ⟨j + 1, by omega, by go_num, HN, _, rfl⟩
          case measure => simp [intOf]; omega
        · have hzb : (((zz : Nat) : Int) == (yy : Int)) = false := by simp; omega
          have HU : Hid (_ = _) := HUS.out (by rw [← HY4.out]; exact take4_not _ _ j hlt (by rw [HZ.out, HY.out]; omega))
          go_wp2
          go_region
          go_wp2
          go_ret3
          exact ⟨_, 0, [], q, 2, rfl, HU, (own_lit0 _).base (by have := B4.size; simpa using this), (below_drewN B4 _).alloc (by have := B4.size; simpa using this) _⟩
      · have HU : Hid (_ = _) := HUG.out (by rw [← HY4.out]; exact take4_of _ _ HSL.out H4L.out (fun t ht => hall.out t (by omega)))
        go_wp2
        go_ret3
        exact ⟨a2, c2, y2, (k : Int) + (m : Int) + 4, 0, rfl, HU, ho24.below (below_drewN (Below.refl _ _) n), below_drewN B4 n⟩
end Go.Proofs.YtbaocehcnjdkkaaDoor

/- No longer than its capacity; a beginning of what is owned. -/
namespace Go.Proofs.YtbaocehcnjdkkaaDoor
open Go.RowKit

theorem OwnB.len_cap {w : World} {base : Nat} {a : Option Addr} {c : Nat} {ys : List Int} (h : OwnB w base a c ys) : ys.length ≤ c := by
  rcases h.2.2 with ⟨hv, h0⟩ | ⟨g, cap, cur, hv, _, _, hn, _⟩
  · omega
  · simp only [Value.slice.injEq] at hv
    omega

theorem own_prefix {w : World} {base : Nat} {a : Option Addr} {c : Nat} {ys : List Int} (h : OwnB w base a c ys) (k : Nat) : Reads w a (ys.take k) := by
  refine ⟨fun z hz => h.1 z (List.mem_of_mem_take hz), fun hne => ?_⟩
  have hy : ys ≠ [] := by intro e; simp [e] at hne
  obtain ⟨b, off, ha, hc⟩ := h.reads.2 hy
  refine ⟨b, off, ha, fun i hi => ?_⟩
  have hi2 : i < k ∧ i < ys.length := by simp at hi; omega
  rw [hc i hi2.2]
  have : (ys.take k).getD i 0 = ys.getD i 0 := by simp [List.getD, hi2.1]
  rw [this]

end Go.Proofs.YtbaocehcnjdkkaaDoor

/- The walk of spec.GetPage. -/
namespace Go.Proofs.YtbaocehcnjdkkaaDoor
open Go.RowKit

theorem nextSlots_snoc (zs : List Int) (k : Nat) : ∀ s, nextSlots zs (k + 1) s = ((nextSlots zs k s).1 ++ [(nextSlotOf zs (nextSlots zs k s).2).1], (nextSlotOf zs (nextSlots zs k s).2).2) := by
  induction k with
  | zero => intro s; rfl
  | succ k ih =>
    intro s
    rw [nextSlots, ih (nextSlotOf zs s).2]
    rfl
theorem own_zero4 (w : World) (lo hi : Nat) (h : hi ≤ w.heap.size) : OwnS w lo hi zero4 := by
  refine ⟨fun s hs => ?_, by decide⟩
  simp only [zero4, List.mem_cons, List.not_mem_nil, or_false] at hs
  rcases hs with rfl | rfl | rfl | rfl <;> exact own_zero w lo hi h
theorem pairP_no {zs : List Int} (h : getP zs = none) : pairP zs = (noP, false) := by unfold pairP; rw [h]
theorem pairP_is {zs : List Int} {x : Int × List SlotV} (h : getP zs = some x) : pairP zs = (x, true) := by unfold pairP; rw [h]
theorem getP_read (zs : List Int) : getP zs = if (unfOf zs 0).2.2 = 0 ∧ (unfOf zs 0).2.1 = (zs.length : Int) ∧ (readerP (unfOf zs 0).1).2 = false ∧ okP (readerP (unfOf zs 0).1).1.1 (readerP (unfOf zs 0).1).1.2 = true ∧ putPageOf (readerP (unfOf zs 0).1).1.1 (readerP (unfOf zs 0).1).1.2 = zs
  then some (readerP (unfOf zs 0).1).1 else none := rfl

theorem getPair_small (zs : List Int) : (getPair zs).1.ints.length ≤ 5 ∧ (getPair zs).1.refs.length ≤ 5 := by
  cases h : (getPair zs).2 with
  | true => have := okB_bd (getPair_true h).1; exact ⟨this.2.1, this.2.2.1⟩
  | false => rw [getPair_false h]; simp [noO]
theorem nextSlot_small (zs : List Int) (s : Int × Bool) : (nextSlotOf zs s).1.o.ints.length ≤ 5 ∧ (nextSlotOf zs s).1.o.refs.length ≤ 5 := by
  unfold nextSlotOf
  split
  · simp [noS, noO]
  · split
    · simp [noS, noO]
    · exact getPair_small _
theorem nextSlots_small (zs : List Int) (k : Nat) : ∀ s, ∀ v ∈ (nextSlots zs k s).1, v.o.ints.length ≤ 5 ∧ v.o.refs.length ≤ 5 := by
  induction k with
  | zero => intro s v hv; simp [nextSlots] at hv
  | succ k ih =>
    intro s v hv
    simp only [nextSlots, List.mem_cons] at hv
    rcases hv with rfl | h
    · exact nextSlot_small zs s
    · exact ih _ v h
theorem unf_len (zs : List Int) (p : Int) : (unfOf zs p).1.length ≤ zs.length := by
  unfold unfOf
  split
  · simp
  · split
    · simp
    · split
      · simp
      · split
        · simp only [List.length_take, List.length_drop]; omega
        · simp

set_option maxHeartbeats 4000000 in
set_option maxRecDepth 100000 in
theorem specGetPage_any (a : Option Addr) (c : Nat) (zs : List Int) (w : World) (hr : Reads w a zs) (hl : zs.length ≤ 1099511627776) (hcap : zs.length ≤ c) :
    Calls Tryd.prog 27 #[.slice a zs.length c] w fun e w' => ∃ ts : List SlotA, e = .returned (.tuple #[.agg (PageA.cells ⟨(pairP zs).1.1, ts⟩).toArray, .bool (pairP zs).2]) ∧ Hid (ts.map (·.v) = (pairP zs).1.2) ∧ OwnS w' w.heap.size w'.heap.size ts ∧ Below w.heap.size w w' := by
  have HGR : Hid (_ = _) := getP_read zs
  have HUL : Hid (_ ≤ _) := unf_len zs 0
  have HNO : Hid (getP zs = none → pairP zs = (noP, false)) := fun h => pairP_no h
  have HYE : Hid (∀ x, getP zs = some x → pairP zs = (x, true)) := fun x h => pairP_is h
  generalize getP zs = G at *
  generalize pairP zs = PP at *
  obtain ⟨W, hW, b0, hbW, hsW⟩ := boxes1 w [.int .i64 0, .bool false, .int .i64 0, .slice none 0 0, .slice none 0 0, .bool false, .int .i64 0, .slice none 0 0, .slice none 0 0, .bool false, .int .i64 0, .slice none 0 0, .slice none 0 0, .bool false, .int .i64 0, .slice none 0 0, .slice none 0 0] 31
  have HI0 : Hid ((Tryd.prog.info? 31).map (·.size) = some (PageA.cells ⟨0, zero4⟩).length) := by rw [Hid]; kernel_rfl
  have HO0 : Hid (_) := all_oneCell_toArray (oneP ⟨0, zero4⟩)
  have hsW' := hsW
  clear hsW
  go_enter Tryd.func27, Tryd.ntmps27
  go_wp2_with fail
  rw [hW.out]
  clear hW
  refine (specUnframe_any a c zs 0 W (hr.below hbW) (by omega) hcap).mono ?_
  rintro e w1 ⟨a1, c1, body, q, code, rfl, HU, ho1, hb1⟩
  have hs1 := hb1.size
  have B1 : Below w.heap.size w w1 := hbW.trans (hb1.mono (by omega))
  have b01 := b0.below hb1 b0.lt
  rw [HU.out] at HGR HUL
  simp only at HGR HUL
  by_cases hgood : code = 0 ∧ q = (zs.length : Int)
  case neg =>
    have HPP : Hid (PP = (noP, false)) := HNO.out (by rw [HGR.out, if_neg (fun h => hgood ⟨h.1, h.2.1⟩)])
    obtain ⟨WF, hWF, hwF, hsF, HTF, HLF, _⟩ := page_out (C := w.heap.size) (T := 31) ⟨0, zero4⟩ rfl _ rfl b01 Tryd.underlying31 rfl (by kernel_rfl)
    have HEND : Hid (∃ ts : List SlotA, Ending.returned (.tuple #[.agg (PageA.cells ⟨0, zero4⟩).toArray, .bool false]) = .returned (.tuple #[.agg (PageA.cells ⟨PP.1.1, ts⟩).toArray, .bool PP.2]) ∧ Hid (ts.map (·.v) = PP.1.2) ∧ OwnS WF w.heap.size WF.heap.size ts ∧ Below w.heap.size w WF) :=
      ⟨zero4, by rw [HPP.out]; rfl, by rw [HPP.out]; rfl, own_zero4 _ _ _ (Nat.le_refl _), B1.trans (hwF.below (Nat.le_refl _) (by omega))⟩
    clear hwF hsF HGR HNO HYE
    by_cases hc0 : code = 0
    · have hq0 : (q == (zs.length : Int)) = false := by simp; exact fun e => hgood ⟨hc0, e⟩
      subst hc0
      clear hgood
      go_wp2_with (first | (guard_target = wpList _ _ _ (Oper.mk none (Op.store _ (Operand.tmp 2) _) _ _ _ _ :: _) _ _; refine wpList_store_mid rfl 31 (.tmp 2) (.tmp 24) rfl w.heap.size 0 (PageA.cells ⟨0, zero4⟩).toArray rfl rfl HTF.out (by rw [List.size_toArray]; exact HI0.out) HO0.out ?_) | fail)
      rw [hWF.out]
      exact bodyPost_ret (v := .tuple #[.agg (PageA.cells ⟨0, zero4⟩).toArray, .bool false]) (results_cell_flag Tryd.results27 rfl HLF.out rfl) rfl HEND.out
    · have hcb : (code == 0) = false := by simpa using hc0
      clear hgood hc0
      go_wp2_with (first | (guard_target = wpList _ _ _ (Oper.mk none (Op.store _ (Operand.tmp 2) _) _ _ _ _ :: _) _ _; refine wpList_store_mid rfl 31 (.tmp 2) (.tmp 24) rfl w.heap.size 0 (PageA.cells ⟨0, zero4⟩).toArray rfl rfl HTF.out (by rw [List.size_toArray]; exact HI0.out) HO0.out ?_) | fail)
      rw [hWF.out]
      exact bodyPost_ret (v := .tuple #[.agg (PageA.cells ⟨0, zero4⟩).toArray, .bool false]) (results_cell_flag Tryd.results27 rfl HLF.out rfl) rfl HEND.out
  case pos =>
  obtain ⟨rfl, rfl⟩ := hgood
  have hbl := HUL.out
  have hbcap := ho1.len_cap
  have HRP : Hid (readerP body = (((nextOf body (0, false)).1, (nextSlots body 4 (nextOf body (0, false)).2).1), (nextSlots body 4 (nextOf body (0, false)).2).2.2)) := rfl
  have HBR : Hid (body ≠ [] → ∀ b off, a1 = some ⟨b, off, none⟩ → b ≠ w1.heap.size) := by
    intro hne b off ha
    obtain ⟨b', off', ha', hc⟩ := ho1.reads.2 hne
    rw [ha] at ha'
    cases ha'
    have := block_lt (hc 0 (List.length_pos_iff.2 hne))
    omega
  obtain ⟨W2, hW2, bR2, hb2, hs2⟩ := boxes1 w1 [.slice a1 body.length c1, .int .i64 0, .bool false] 86
  have rd2 : RdAt W2 w1.heap.size a1 c1 body (0, false) := bR2
  have b0W := b01
  have hw1lt : w.heap.size < w1.heap.size := b01.lt
  clear b01 b0
  go_wp2_with fail
  rw [hW2.out]
  clear hW2
  refine (l2Next_any w1.heap.size a1 c1 body (0, false) W2 rd2 (ho1.reads.below hb2) (by omega)).mono ?_
  rintro e w3 ⟨⟨rfl, rd3⟩, hw3⟩
  generalize nextOf body (0, false) = Y at *
  obtain ⟨n, st0⟩ := Y
  simp only at rd3 HRP
  simp only
  have hs3 := hw3.size
  have N3 : Below w1.heap.size w1 w3 := hb2.trans (hw3.below (Nat.le_refl _) (by omega))
  obtain ⟨W4, hW4, bP4, hb4, hs4⟩ := boxes1 w3 [.int .i64 n, .bool false, .int .i64 0, .slice none 0 0, .slice none 0 0, .bool false, .int .i64 0, .slice none 0 0, .slice none 0 0, .bool false, .int .i64 0, .slice none 0 0, .slice none 0 0, .bool false, .int .i64 0, .slice none 0 0, .slice none 0 0] 31
  have bP4' : Box W4 w3.heap.size (.int .i64 n :: cellsS ([] ++ List.replicate (4 - 0) zeroS)) 31 := bP4
  have rd4 : RdAt W4 w1.heap.size a1 c1 body st0 := Box.below rd3 hb4 (Box.lt rd3)
  have N4 : Below w1.heap.size w1 W4 := N3.trans (hb4.mono (by omega))
  have hR3 := Box.lt rd3
  clear bP4 rd2 rd3 bR2 hw3 N3 hb2
  go_wp2_with fail
  rw [hW4.out]
  clear hW4
  go_loopw [9] (fun i wr => ∃ (k : Nat) (ts : List SlotA) (st : Int × Bool), i = .int .i64 k ∧ k ≤ 4 ∧ Hid (ts.length = k ∧ nextSlots body k st0 = (ts.map (·.v), st)) ∧ OwnS wr W4.heap.size wr.heap.size ts ∧ Box wr w3.heap.size (.int .i64 n :: cellsS (ts ++ List.replicate (4 - k) zeroS)) 31 ∧ RdAt wr w1.heap.size a1 c1 body st ∧ W4.heap.size ≤ wr.heap.size ∧ Below w1.heap.size w1 wr)
    (fun i _ => 4 - (intOf i).toNat)
  case atStart => exact ⟨0, [], st0, rfl, by omega, ⟨rfl, rfl⟩, OwnS.nil _ _ _, bP4', rd4, Nat.le_refl _, N4⟩
  case round =>
    obtain ⟨k, ts, st, rfl, hk, hts, hown, hbox, hrd, hsr, Nr⟩ := hrel
    clear bP4' rd4
    by_cases hlt : k < 4
    · have hrb := ho1.reads.below Nr
      have HSN : Hid (nextSlots body (k + 1) st0 = (ts.map (·.v) ++ [(nextSlotOf body st).1], (nextSlotOf body st).2)) := by rw [Hid, nextSlots_snoc, hts.out.2]
      go_wp2_with fail
      refine (l3NextSlot_any w1.heap.size a1 c1 body st wr hrd hrb (by omega) hbcap HBR.out).mono ?_
      rintro e w5 ⟨t, rfl, hv, ho, hrd5, hw5⟩
      have hs5 := hw5.size
      have hbx := hbox.within hw5 (by omega)
      have hkt : k < (ts ++ List.replicate (4 - k) zeroS).length := by have := hts.out.1; simp; omega
      obtain ⟨W6, hW6, b6, hw6, hs6⟩ := pslot_fill hbx k hkt t
      obtain ⟨x0, x1, x2, x3, hfz⟩ := hbx.pslot k hkt
      have f0 := hfz (1 + k * 4)
      have f1 := hfz (1 + k * 4 + 1)
      have f2 := hfz (1 + k * 4 + 2)
      have f3 := hfz (1 + k * 4 + 3)
      generalize (ts ++ List.replicate (4 - k) zeroS).getD k zeroS = old at *
      have b6' : Box W6 w3.heap.size (.int .i64 n :: cellsS ((ts ++ [t]) ++ List.replicate (4 - (k + 1)) zeroS)) 31 := by
        rw [show 4 - k = (4 - (k + 1)) + 1 by omega] at b6
        have e := set_snoc ts (4 - (k + 1)) t
        rw [hts.out.1] at e
        rw [e] at b6
        exact b6
      have hrd6 : RdAt W6 w1.heap.size a1 c1 body (nextSlotOf body st).2 := Box.within hrd5 hw6 (by omega)
      have hown5 : OwnS w5 W4.heap.size wr.heap.size ts := hown.within hw5 (.inr (by omega))
      have hO5 : OwnS w5 W4.heap.size w5.heap.size (ts ++ [t]) := hown5.snoc ho hsr hs5 (Nat.le_refl _)
      have hO6 : OwnS W6 W4.heap.size W6.heap.size (ts ++ [t]) := (hO5.within hw6 (.inr (by omega))).widen (Nat.le_refl _) (by omega) (Nat.le_refl _)
      have N6 : Below w1.heap.size w1 W6 := (Nr.trans (hw5.below (Nat.le_refl _) (by omega))).trans (hw6.below (by omega) (by omega))
      have HT : Hid ((ts ++ [t]).length = k + 1 ∧ nextSlots body (k + 1) st0 = ((ts ++ [t]).map (·.v), (nextSlotOf body st).2)) := by
        refine ⟨by have := hts.out.1; simp; omega, ?_⟩
        rw [HSN.out, List.map_append, ← hv.out]
        rfl
      have hi0 : (0 : Int) ≤ (k : Int) := by omega
      have hi4 : (k : Int) < 4 := by omega
      have hs6' : W4.heap.size ≤ W6.heap.size := by omega
      clear hfz hs6 hw6 hw5 b6 hO5 hown hown5 hbox hbx hts HSN hkt ho hrd hrd5 hrb
      generalize nextSlotOf body st = Z at *
      simp only [SlotA.cells]
      go_wp2_with fail
      rw [hW6.out]
      go_roundw
      case rel => exact ⟨k + 1, ts ++ [t], Z.2, by go_num, by omega, HT, hO6, b6', hrd6, hs6', N6⟩
      case measure => simp [intOf]; omega
    · obtain rfl : k = 4 := by omega
      have hkk : ¬ ((4 : Nat) : Int) < 4 := by omega
      have hrp : ts ++ List.replicate (4 - 4) zeroS = ts := by simp
      rw [hrp] at hbox
      have htl : ts.length = 4 := hts.out.1
      obtain ⟨pos, bad⟩ := st
      have HRR : Hid (readerP body = ((n, ts.map (·.v)), bad)) := by rw [Hid, HRP.out, hts.out.2]
      have hfT : ∀ s ∈ ts, s.v.o.ints.length ≤ 5 ∧ s.v.o.refs.length ≤ 5 := fun s hs => nextSlots_small body 4 st0 s.v (by rw [hts.out.2]; exact List.mem_map.2 ⟨s, hs, rfl⟩)
      rw [HRR.out] at HGR
      simp only at HGR
      clear hrp hts HRP HRR
      unfold RdAt at hrd
      simp only at hrd
      have y2 := hrd.cell 2 _ rfl
      generalize hq : (⟨n, ts⟩ : PageA) = P at *
      have hP4 : P.ss.length = 4 := by rw [← hq]; exact htl
      have HPe : Hid (P.lsn = n ∧ P.ss = ts) := by rw [← hq]; exact ⟨rfl, rfl⟩
      have hbox' : Box wr w3.heap.size P.cells 31 := by rw [← hq]; exact hbox
      have oP : OwnS wr W4.heap.size wr.heap.size P.ss := by rw [← hq]; exact hown
      have HGP : Hid (G = if bad = false ∧ okP P.lsn (P.ss.map (·.v)) = true ∧ putPageOf P.lsn (P.ss.map (·.v)) = zs then some (P.lsn, P.ss.map (·.v)) else none) := by rw [Hid, HGR.out, ← hq]; simp
      clear hq hbox hown HGR htl
      have HGR : Hid (_) := HGP.out
      have HIP : Hid ((Tryd.prog.info? 31).map (·.size) = some P.cells.length) := by rw [Hid, page_len P hP4]; kernel_rfl
      cases bad with
      | true =>
        have HPP : Hid (PP = (noP, false)) := HNO.out (by rw [HGR.out]; simp)
        clear HGP
        obtain ⟨WF, hWF, hwF, hsF, HTF, HLF, _⟩ := page_out (C := w.heap.size) (T := 31) ⟨0, zero4⟩ rfl _ rfl (b0W.below Nr b0W.lt) Tryd.underlying31 rfl (by kernel_rfl)
        have HEND : Hid (∃ ts : List SlotA, Ending.returned (.tuple #[.agg (PageA.cells ⟨0, zero4⟩).toArray, .bool false]) = .returned (.tuple #[.agg (PageA.cells ⟨PP.1.1, ts⟩).toArray, .bool PP.2]) ∧ Hid (ts.map (·.v) = PP.1.2) ∧ OwnS WF w.heap.size WF.heap.size ts ∧ Below w.heap.size w WF) :=
          ⟨zero4, by rw [HPP.out]; rfl, by rw [HPP.out]; rfl, own_zero4 _ _ _ (Nat.le_refl _), (B1.trans (Nr.mono B1.size)).trans (hwF.below (Nat.le_refl _) (by have := Nr.size; omega))⟩
        clear hwF hsF HGR HNO HYE
        go_wp2_with (first | (guard_target = wpList _ _ _ (Oper.mk none (Op.store _ (Operand.tmp 2) _) _ _ _ _ :: _) _ _; refine wpList_store_mid rfl 31 (.tmp 2) (.tmp 56) rfl w.heap.size 0 (PageA.cells ⟨0, zero4⟩).toArray rfl rfl HTF.out (by rw [List.size_toArray]; exact HI0.out) HO0.out ?_) | fail)
        rw [hWF.out]
        exact bodyPost_ret (v := .tuple #[.agg (PageA.cells ⟨0, zero4⟩).toArray, .bool false]) (results_cell_flag Tryd.results27 rfl HLF.out rfl) rfl HEND.out
      | false =>
      have hfP : Fit P.ss := fun s hs => by have := hfT s (by rw [← HPe.out.2]; exact hs); omega
      have HRGP : Hid (∀ w', Below wr.heap.size wr w' → w'.rangeAt w3.heap.size 0 P.cells) := fun w' hh => Box.range [] P.cells [] (by simpa using hbox'.below hh hbox'.lt)
      have rP := HRGP.out _ (Below.refl _ _)
      have C1 := specPageOk_any P hP4 wr oP.reads hfP
      have hsrr := Nr.size
      go_wp2_with (first | (guard_target = wpList _ _ _ (Oper.mk (some 45) _ _ _ _ _ :: _) _ _; refine wpList_load_mid_if (by rfl) 31 (.tmp 8) rfl w3.heap.size 0 rfl P.cells _ rP Tryd.underlying31 rfl HIP.out ?_) | fail)
      refine C1.mono ?_
      clear C1 rP
      rintro e w6 ⟨rfl, hb6⟩
      have N6 : Below w1.heap.size w1 w6 := Nr.trans (hb6.mono hsrr)
      cases hok : okP P.lsn (P.ss.map (·.v)) with
      | false =>
        have HPP : Hid (PP = (noP, false)) := HNO.out (by rw [HGR.out, hok]; simp)
        clear HGP hok
        obtain ⟨WF, hWF, hwF, hsF, HTF, HLF, _⟩ := page_out (C := w.heap.size) (T := 31) ⟨0, zero4⟩ rfl _ rfl (b0W.below N6 b0W.lt) Tryd.underlying31 rfl (by kernel_rfl)
        have HEND : Hid (∃ ts : List SlotA, Ending.returned (.tuple #[.agg (PageA.cells ⟨0, zero4⟩).toArray, .bool false]) = .returned (.tuple #[.agg (PageA.cells ⟨PP.1.1, ts⟩).toArray, .bool PP.2]) ∧ Hid (ts.map (·.v) = PP.1.2) ∧ OwnS WF w.heap.size WF.heap.size ts ∧ Below w.heap.size w WF) :=
          ⟨zero4, by rw [HPP.out]; rfl, by rw [HPP.out]; rfl, own_zero4 _ _ _ (Nat.le_refl _), (B1.trans (N6.mono B1.size)).trans (hwF.below (Nat.le_refl _) (by have := N6.size; omega))⟩
        clear hwF hsF HGR HNO HYE
        go_wp2_with (first | (guard_target = wpList _ _ _ (Oper.mk none (Op.store _ (Operand.tmp 2) _) _ _ _ _ :: _) _ _; refine wpList_store_mid rfl 31 (.tmp 2) (.tmp 56) rfl w.heap.size 0 (PageA.cells ⟨0, zero4⟩).toArray rfl rfl HTF.out (by rw [List.size_toArray]; exact HI0.out) HO0.out ?_) | fail)
        rw [hWF.out]
        exact bodyPost_ret (v := .tuple #[.agg (PageA.cells ⟨0, zero4⟩).toArray, .bool false]) (results_cell_flag Tryd.results27 rfl HLF.out rfl) rfl HEND.out
      | true =>
      have HOK : Hid (_ = _) := hok
      clear hok
      have oP6 := oP.below hb6
      have C2 := specPutPage_any P hP4 w6 oP6.reads hfP
      have rP6 := HRGP.out _ hb6
      have HYL : Hid ((putPageOf P.lsn (P.ss.map (·.v))).length ≤ 1000000) := by
        rw [Hid, putP_ok HOK.out]
        have h1 := frameOf_len (bodyOf P.lsn (P.ss.map (·.v)))
        have h2 := body_len P.lsn (P.ss.map (·.v))
        rw [List.length_map, hP4] at h2
        omega
      go_wp2_with (first | (guard_target = wpList _ _ _ (Oper.mk (some 50) _ _ _ _ _ :: _) _ _; refine wpList_load_mid_if (by rfl) 31 (.tmp 8) rfl w3.heap.size 0 rfl P.cells _ rP6 Tryd.underlying31 rfl HIP.out ?_) | fail)
      refine C2.mono ?_
      clear C2 rP6
      rintro e w7 ⟨a7, c7, y7, rfl, HY7, ho7, hb7⟩
      have hb67 : Below wr.heap.size wr w7 := hb6.trans (hb7.mono hb6.size)
      have N7 : Below w1.heap.size w1 w7 := Nr.trans (hb67.mono hsrr)
      have hyl : y7.length ≤ 1000000 := by rw [HY7.out]; exact HYL.out
      have hsm := l2Same_any a7 a c7 c y7 zs w7 ho7.reads (hr.below (B1.trans (N7.mono B1.size))) (by omega) hl
      go_wp2_with fail
      refine hsm.mono ?_
      clear hsm
      rintro e w8 ⟨rfl, n8, rfl⟩
      have hb8 : Below wr.heap.size wr (w7.drewN n8) := below_drewN hb67 n8
      have N8 : Below w1.heap.size w1 (w7.drewN n8) := below_drewN N7 n8
      have hs8 : wr.heap.size ≤ (w7.drewN n8).heap.size := hb8.size
      have HD1 : Hid (decide (y7 = zs) = false → PP = (noP, false)) := by
        intro h
        apply HNO.out
        rw [HGR.out, if_neg]
        rintro ⟨_, _, h3⟩
        rw [decide_eq_false_iff_not] at h
        exact h (HY7.out.trans h3)
      have HD2 : Hid (decide (y7 = zs) = true → PP = ((P.lsn, P.ss.map (·.v)), true)) := by
        intro h
        rw [decide_eq_true_eq] at h
        apply HYE.out
        rw [HGR.out, if_pos ⟨by first | rfl | trivial, HOK.out, by rw [← HY7.out]; exact h⟩]
      generalize w7.drewN n8 = w8 at *
      generalize decide (y7 = zs) = D at *
      cases D with
      | false =>
        have HPP : Hid (PP = (noP, false)) := HD1.out rfl
        clear HGP HD1 HD2
        obtain ⟨WF, hWF, hwF, hsF, HTF, HLF, _⟩ := page_out (C := w.heap.size) (T := 31) ⟨0, zero4⟩ rfl _ rfl (b0W.below N8 b0W.lt) Tryd.underlying31 rfl (by kernel_rfl)
        have HEND : Hid (∃ ts : List SlotA, Ending.returned (.tuple #[.agg (PageA.cells ⟨0, zero4⟩).toArray, .bool false]) = .returned (.tuple #[.agg (PageA.cells ⟨PP.1.1, ts⟩).toArray, .bool PP.2]) ∧ Hid (ts.map (·.v) = PP.1.2) ∧ OwnS WF w.heap.size WF.heap.size ts ∧ Below w.heap.size w WF) :=
          ⟨zero4, by rw [HPP.out]; rfl, by rw [HPP.out]; rfl, own_zero4 _ _ _ (Nat.le_refl _), (B1.trans (N8.mono B1.size)).trans (hwF.below (Nat.le_refl _) (by have := N8.size; omega))⟩
        clear hwF hsF HGR HNO HYE
        go_wp2_with (first | (guard_target = wpList _ _ _ (Oper.mk none (Op.store _ (Operand.tmp 2) _) _ _ _ _ :: _) _ _; refine wpList_store_mid rfl 31 (.tmp 2) (.tmp 56) rfl w.heap.size 0 (PageA.cells ⟨0, zero4⟩).toArray rfl rfl HTF.out (by rw [List.size_toArray]; exact HI0.out) HO0.out ?_) | fail)
        rw [hWF.out]
        exact bodyPost_ret (v := .tuple #[.agg (PageA.cells ⟨0, zero4⟩).toArray, .bool false]) (results_cell_flag Tryd.results27 rfl HLF.out rfl) rfl HEND.out
      | true =>
        have HPP : Hid (PP = ((P.lsn, P.ss.map (·.v)), true)) := HD2.out rfl
        have rP8 := HRGP.out _ hb8
        have HOP : Hid (_) := all_oneCell_toArray (oneP P)
        obtain ⟨WF, hWF, hwF, hsF, HTF, HLF, _⟩ := page_out (C := w.heap.size) (T := 31) P hP4 _ rfl (b0W.below N8 b0W.lt) Tryd.underlying31 rfl (by kernel_rfl)
        have HOF : Hid (OwnS WF w.heap.size WF.heap.size P.ss) := ((oP.below hb8).within hwF (.inr (by omega))).widen (by omega) (by omega) (Nat.le_refl _)
        have HEND : Hid (∃ ts : List SlotA, Ending.returned (.tuple #[.agg P.cells.toArray, .bool true]) = .returned (.tuple #[.agg (PageA.cells ⟨PP.1.1, ts⟩).toArray, .bool PP.2]) ∧ Hid (ts.map (·.v) = PP.1.2) ∧ OwnS WF w.heap.size WF.heap.size ts ∧ Below w.heap.size w WF) :=
          ⟨P.ss, by rw [HPP.out], by rw [HPP.out, Hid], HOF.out, (B1.trans (N8.mono B1.size)).trans (hwF.below (Nat.le_refl _) (by have := N8.size; omega))⟩
        clear hwF hsF HGR HNO HYE HGP HD1 HD2 HOF
        go_wp2_with (first | (guard_target = wpList _ _ _ (Oper.mk (some 57) _ _ _ _ _ :: _) _ _; refine wpList_load_mid rfl 31 (.tmp 8) rfl w3.heap.size 0 rfl P.cells _ rP8 Tryd.underlying31 rfl HIP.out ?_) | (guard_target = wpList _ _ _ (Oper.mk none (Op.store _ (Operand.tmp 2) _) _ _ _ _ :: _) _ _; refine wpList_store_mid rfl 31 (.tmp 2) (.tmp 57) rfl w.heap.size 0 P.cells.toArray rfl rfl HTF.out (by rw [List.size_toArray]; exact HIP.out) HOP.out ?_) | fail)
        rw [hWF.out]
        exact bodyPost_ret (v := .tuple #[.agg P.cells.toArray, .bool true]) (results_cell_flag Tryd.results27 rfl HLF.out rfl) rfl HEND.out
end Go.Proofs.YtbaocehcnjdkkaaDoor

/- The walk of impl.SameObj. -/
namespace Go.Proofs.YtbaocehcnjdkkaaDoor
open Go.RowKit

set_option maxHeartbeats 400000 in
theorem equalInts_any (a b : Option Addr) (ca cb : Nat) (xs ys : List Int) (w : World) (ha : ReadsI w a xs) (hb : ReadsI w b ys) (hl : xs.length ≤ 1099511627776) (hl2 : ys.length ≤ 1099511627776) :
    Calls Tryd.prog 108 #[.slice a xs.length ca, .slice b ys.length cb] w fun e w' => e = .returned (.bool (decide (xs = ys))) ∧ ∃ n, w' = w.drewN n := by
  by_cases hle : xs.length = ys.length
  case neg =>
    have HE : Hid (_ = _) := ne_len hle
    have hle' : ((xs.length : Int) == (ys.length : Int)) = false := by simp; omega
    go_enter Tryd.func108, Tryd.ntmps108
    go_wp2
    go_ret
    exact ⟨ret_bool HE.out.symm, 0, rfl⟩
  case pos =>
  have HL : Hid (xs.length = ys.length) := hle
  have hle' : ((xs.length : Int) == (ys.length : Int)) = true := by simp; omega
  rcases ha.cases with rfl | ⟨b1, o1, rfl, hpos, hc1⟩
  · obtain rfl : ys = [] := List.length_eq_zero_iff.1 (by simpa using hle.symm)
    have HE : Hid (decide (([] : List Int) = []) = true) := by simp [Hid]
    clear hle hle' HL
    go_enter Tryd.func108, Tryd.ntmps108
    go_wp2
    refine wp_loop_rounds 1 ?_
    rw [rounds_succ]
    go_wp2
    go_ret
    exact ⟨ret_bool HE.out.symm, 0, rfl⟩
  · rcases hb.cases with rfl | ⟨b2, o2, rfl, _, hc2⟩
    · simp at hle; simp [hle] at hpos
    · clear hle
      go_enter Tryd.func108, Tryd.ntmps108
      go_wp2
      go_loopw [13] (fun i wr => ∃ k : Nat, k ≤ xs.length ∧ i = .int .i64 k ∧ Hid (∀ t, t < k → xs.getD t 0 = ys.getD t 0) ∧ ∃ n, wr = w.drewN n) (fun i _ => xs.length - (intOf i).toNat)
      case atStart => exact ⟨0, Nat.zero_le _, rfl, fun t ht => by omega, 0, rfl⟩
      case round =>
        obtain ⟨k, hk, rfl, hall, n, rfl⟩ := hrel
        by_cases hlt : k < xs.length
        · have h1 := hc1 k hlt
          have h2 := hc2 k (by have := HL.out; omega)
          have hlt2 : (k : Int) < (ys.length : Int) := by have := HL.out; omega
          clear hc1 hc2
          by_cases hz : xs.getD k 0 = ys.getD k 0
          · have HN : Hid (∀ t, t < k + 1 → xs.getD t 0 = ys.getD t 0) := by
              intro t ht
              by_cases e : t = k
              · rw [e]; exact hz
              · exact hall.out t (by omega)
            rw [← hz] at h2
            clear hz
            generalize xs.getD k 0 = z at *
            go_wp2
            go_quiet (fail)
            go_wp2
            go_roundw
            case rel => exact ⟨k + 1, by omega, by go_num, HN, _, rfl⟩
            case measure => simp [intOf]; omega
          · have HE : Hid (_ = _) := ne_at k hz
            have hzb : (xs.getD k 0 == ys.getD k 0) = false := by simpa using hz
            clear hz
            generalize xs.getD k 0 = z at *
            generalize ys.getD k 0 = y at *
            go_wp2
            go_quiet (fail)
            go_wp2
            go_ret
            exact ⟨ret_bool HE.out.symm, n + nq, by first | rfl | simp⟩
        · have HE : Hid (_ = _) := eq_all HL.out (fun t ht => hall.out t (by omega))
          go_wp2
          go_ret
          exact ⟨ret_bool HE.out.symm, n, rfl⟩

set_option maxHeartbeats 1000000 in
set_option maxRecDepth 100000 in
theorem implSameObj_any (o p : ObjV) (aI : Option Addr) (cI : Nat) (aR : Option Addr) (cR : Nat) (bI : Option Addr) (dI : Nat) (bR : Option Addr) (dR : Nat) (w : World) (ha : ReadsO w aI cI aR cR o) (hb : ReadsO w bI dI bR dR p) (h1 : o.ints.length ≤ 1099511627776) (h2 : o.refs.length ≤ 1099511627776) (h3 : p.ints.length ≤ 1099511627776) (h4 : p.refs.length ≤ 1099511627776) :
    Calls Tryd.prog 83 #[.agg #[.int .i64 o.kind, .slice aI o.ints.length cI, .slice aR o.refs.length cR], .agg #[.int .i64 p.kind, .slice bI p.ints.length dI, .slice bR p.refs.length dR]] w fun e w' => e = .returned (.bool (sameO o p)) ∧ Below w.heap.size w w' := by
  obtain ⟨k, ints, refs⟩ := o
  obtain ⟨k', ints', refs'⟩ := p
  obtain ⟨haI, haR, _, _⟩ := ha
  obtain ⟨hbI, hbR, _, _⟩ := hb
  simp only at *
  obtain ⟨W, hW, b0, b1, hbW, hsW⟩ := boxes2 w [.int .i64 k, .slice aI ints.length cI, .slice aR refs.length cR] [.int .i64 k', .slice bI ints'.length dI, .slice bR refs'.length dR] 26 26
  by_cases hk : k = k'
  case neg =>
    have HE : Hid (sameO ⟨k, ints, refs⟩ ⟨k', ints', refs'⟩ = false) := by simp [Hid, sameO, hk]
    have hkb : (k == k') = false := by simpa using hk
    clear hk
    go_enter Tryd.func83, Tryd.ntmps83
    go_wp2
    go_ret
    exact ⟨ret_bool HE.out.symm, by rw [hW.out]; exact hbW⟩
  case pos =>
  subst hk
  have HE : Hid (sameO ⟨k, ints, refs⟩ ⟨k, ints', refs'⟩ = (decide (ints = ints') && decide (refs = refs'))) := by simp [Hid, sameO]
  go_enter Tryd.func83, Tryd.ntmps83
  go_wp2_with fail
  rw [hW.out]
  refine (equalInts_any aI bI cI dI ints ints' W (haI.below hbW) (hbI.below hbW) h1 h3).mono ?_
  rintro e w1 ⟨rfl, n1, rfl⟩
  have c0 := (b0.drewN n1).cell 2 _ rfl
  have c1 := (b1.drewN n1).cell 2 _ rfl
  have hb1 : Below w.heap.size w (W.drewN n1) := below_drewN hbW n1
  cases hd : decide (ints = ints') with
  | false =>
    rw [hd] at HE
    clear hd
    go_wp2
    go_ret
    exact ⟨ret_bool (by rw [HE.out]; rfl), hb1⟩
  | true =>
    rw [hd] at HE
    clear hd
    go_wp2_with fail
    refine (equalInts_any aR bR cR dR refs refs' (W.drewN n1) (haR.below hb1) (hbR.below hb1) h2 h4).mono ?_
    rintro e w2 ⟨rfl, n2, rfl⟩
    generalize decide (refs = refs') = D at *
    go_wp2
    go_ret
    exact ⟨ret_bool (by rw [HE.out]; rfl), below_drewN hbW (n1 + n2)⟩
end Go.Proofs.YtbaocehcnjdkkaaDoor

/- The walk of impl.readSum. -/
namespace Go.Proofs.YtbaocehcnjdkkaaDoor
open Go.RowKit

theorem shl8_go (c j : Nat) (hc : c < 256) (hj : j < 4) : wrap64 ((c : Int) * 2 ^ (8 * j)) = ((c * 256 ^ j : Nat) : Int) ∧ c * 256 ^ j ≤ 4294967296 := by
  have e7 : (256 : Nat) ^ j = 2 ^ (8 * j) := by rw [Nat.pow_mul]
  have hp : (256 : Nat) ^ j ≤ 256 ^ 3 := Nat.pow_le_pow_right (by omega) (by omega)
  have h5 : (256 : Nat) ^ 3 = 16777216 := by decide
  have hb : c * 256 ^ j ≤ 255 * 16777216 := Nat.mul_le_mul (by omega) (by omega)
  have e : ((c : Int) * 2 ^ (8 * j)) = ((c * 256 ^ j : Nat) : Int) := by
    rw [e7]; simp
  rw [e]
  constructor
  · unfold wrap64; omega
  · omega

theorem sumTo_le (zs : List Int) (hb : ∀ z ∈ zs, 0 ≤ z ∧ z < 256) (k : Nat) (hk : k ≤ 4) : sumTo zs k < 4294967296 := by
  have h1 := sumTo_lt zs hb k
  have h2 : (256 : Nat) ^ k ≤ 256 ^ 4 := Nat.pow_le_pow_right (by omega) hk
  have h3 : (256 : Nat) ^ 4 = 4294967296 := by decide
  omega

set_option maxHeartbeats 400000 in
theorem readSum_any (a : Option Addr) (c : Nat) (zs : List Int) (w : World) (hr : Reads w a zs) (hl : 4 ≤ zs.length) (hl2 : zs.length ≤ 70368744177664) :
    Calls Tryd.prog 86 #[.slice a zs.length c] w fun e w' => e = .returned (.int .i64 (sumTo zs 4 : Nat)) ∧ w' = w := by
  have hby := hr.byte
  rcases hr.cases with rfl | ⟨b, off, rfl, hpos, hcell⟩
  · simp at hl
  go_enter Tryd.func86, Tryd.ntmps86
  go_wp2
  go_loop [3, 5] (fun m i => ∃ k : Nat, k ≤ 4 ∧ i = .int .i64 k ∧ m = .int .i64 (sumTo zs k : Nat)) (fun _ i => 4 - (intOf i).toNat)
  case atStart => exact ⟨0, by omega, rfl, rfl⟩
  case round =>
    obtain ⟨k, hk, rfl, rfl⟩ := hrel
    have hm := sumTo_le zs hby k hk
    by_cases hlt : k < 4
    · have hck := hcell k (by omega)
      obtain ⟨hkn, hkn2⟩ := bytes_nat hby k
      have HV : Hid (sumTo zs (k + 1) = sumTo zs k + (zs.getD k 0).toNat * 256 ^ k) := rfl
      rw [hkn] at hck
      clear hkn hcell hby
      generalize (zs.getD k 0).toNat = cc at *
      obtain ⟨hsh, hshl⟩ := shl8_go cc k hkn2 hlt
      generalize cc * 256 ^ k = t at *
      generalize sumTo zs k = m at *
      go_wp2
      go_round
      case rel => exact ⟨k + 1, by omega, by go_num, by rw [HV.out]; go_num⟩
      case measure => simp [intOf]; omega
    · have HE : Hid (sumTo zs k = sumTo zs 4) := by rw [Hid, show k = 4 from by omega]
      generalize sumTo zs k = m at *
      go_wp2
      go_ret
      exact ⟨ret_int (by rw [HE.out]), rfl⟩
end Go.Proofs.YtbaocehcnjdkkaaDoor

/- The walk of impl.Unframe. -/
namespace Go.Proofs.YtbaocehcnjdkkaaDoor
open Go.RowKit

theorem unf_ret {a' : Option Addr} {c' : Nat} {ys : List Int} {q code : Int} {r : List Int × Int × Int} (h : (ys, q, code) = r) :
    Ending.returned (.tuple #[.slice a' ys.length c', .int .i64 q, .int .i64 code]) = .returned (unfVal a' c' r) := by subst h; rfl

theorem Option_map_none {α β : Type} {f : α → β} {a : Option α} (h : a.map f = none) : a = none := by cases a <;> simp_all

set_option maxHeartbeats 1000000 in
set_option maxRecDepth 100000 in
theorem implUnframe_any (a : Option Addr) (c : Nat) (zs : List Int) (p : Int) (w : World) (hr : Reads w a zs) (hl : zs.length ≤ 70368744100000) (hcap : zs.length ≤ c) :
    Calls Tryd.prog 48 #[.slice a zs.length c, .int .i64 p] w fun e w' => ∃ a' c' ys q code, e = .returned (.tuple #[.slice a' ys.length c', .int .i64 q, .int .i64 code]) ∧ Hid (unfOf zs p = (ys, q, code)) ∧ OwnB w' w.heap.size a' c' ys ∧ Below w.heap.size w w' := by
  cases hg : getAt zs p with
  | none =>
    have HS : Hid (scanOf zs p = _) := scan_none zs p hg _ rfl
    have hw : (scanWhy zs p == 0) = false := by unfold scanWhy; split <;> rfl
    have HU : Hid (_ = _) := unf_none zs p hg
    clear hg
    generalize scanWhy zs p = y at *
    go_enter Tryd.func48, Tryd.ntmps48
    go_wp2_with fail
    refine (scanInt_any a c zs p w hr (by omega) hcap).mono ?_
    rintro e w' ⟨rfl, rfl⟩
    rw [HS.out]
    go_wp2
    go_ret3
    exact ⟨none, 0, [], p, y, rfl, HU, own_none _ _, Below.refl _ _⟩
  | some r =>
    obtain ⟨n, k⟩ := r
    obtain ⟨hk, hn1, hn2⟩ := getAt_bd zs p n k hg
    have HS : Hid (scanOf zs p = _) := (show scanOf zs p = scanOk (n, k) from by unfold scanOf; rw [hg])
    simp only [scanOk] at HS
    by_cases h0 : n < 0
    · have HU : Hid (_ = _) := unf_neg zs p n k hg h0
      clear hg
      go_enter Tryd.func48, Tryd.ntmps48
      go_wp2_with fail
      refine (scanInt_any a c zs p w hr (by omega) hcap).mono ?_
      rintro e w' ⟨rfl, rfl⟩
      rw [HS.out]
      go_wp2
      go_ret3
      exact ⟨none, 0, [], p, 3, rfl, HU, own_none _ _, Below.refl _ _⟩
    obtain ⟨m, rfl⟩ := Int.eq_ofNat_of_zero_le (show 0 ≤ n from by omega)
    by_cases h1 : (zs.length : Int) - (k : Int) < (m : Int) + 4
    · have HU : Hid (_ = _) := unf_end zs p m k hg h1
      clear hg
      go_enter Tryd.func48, Tryd.ntmps48
      go_wp2_with fail
      refine (scanInt_any a c zs p w hr (by omega) hcap).mono ?_
      rintro e w' ⟨rfl, rfl⟩
      rw [HS.out]
      go_wp2
      go_ret3
      exact ⟨none, 0, [], p, 1, rfl, HU, own_none _ _, Below.refl _ _⟩
    have hlen : k + m + 4 ≤ zs.length := by omega
    have hrB := reads_slice hr k m (by omega)
    have hrS : Reads w (a.map fun x => x.add (k + m)) (zs.drop (k + m)) := by
      have := reads_slice hr (k + m) (zs.length - (k + m)) (by omega)
      rwa [List.take_of_length_le (by simp)] at this
    have hlS : (zs.drop (k + m)).length = zs.length - (k + m) := List.length_drop
    have hlB : ((zs.drop k).take m).length = m := by simp; omega
    have hcS := fun c' w' (hh : Reads w' (a.map fun x => x.add (k + m)) (zs.drop (k + m))) => readSum_any (a.map fun x => x.add (k + m)) c' (zs.drop (k + m)) w' hh (by omega) (by omega)
    rw [hlS] at hcS
    have hcB := fun c' w' (hh : Reads w' (a.map fun x => x.add k) ((zs.drop k).take m)) => implCrc_any (a.map fun x => x.add k) c' ((zs.drop k).take m) w' hh (by omega)
    rw [hlB] at hcB
    have hcl := crcOf_lt _ hrB.byte
    have hsl := sumTo_le _ hrS.byte 4 (by omega)
    have HIF : Hid (_ ↔ _) := sum_iff (zs.drop (k + m)) hrS.byte (by omega) _ hcl
    have HUS : Hid (_ → _) := unf_sum zs p m k hg h1
    have HUG : Hid (_ → _) := unf_good zs p m k hg h1
    have hne : a = none → False := by
      intro e
      subst e
      rcases hr.cases with h | ⟨b, off, h, _⟩
      · rw [h] at hlen; simp at hlen
      · cases h
    have HNE : Hid (a = none → False) := hne
    clear hg hne
    by_cases hs : sumTo (zs.drop (k + m)) 4 = crcOf ((zs.drop k).take m)
    · have HU : Hid (_ = _) := HUG.out (HIF.out.1 hs)
      rw [hs] at hcS
      generalize crcOf ((zs.drop k).take m) = x at *
      have HLB : Hid (m = ((zs.drop k).take m).length) := hlB.symm
      clear hs HUS HUG HIF hlS hlB
      generalize (zs.drop k).take m = G at *
      generalize zs.drop (k + m) = S at *
      go_enter Tryd.func48, Tryd.ntmps48
      go_wp2_with fail
      refine (scanInt_any a c zs p w hr (by omega) hcap).mono ?_
      rintro e w' ⟨rfl, rfl⟩
      rw [HS.out]
      go_wp2_with fail
      have hck : (k : Int) < (c : Int) := by omega
      have hck2 : (k : Int) + (m : Int) < (c : Int) := by omega
      have hrSd : ∀ n, Reads (w'.drewN n) (a.map fun x => x.add (k + m)) S := fun n => hrS.below (below_drewN (Below.refl _ _) n)
      have hrBd : ∀ n, Reads (w'.drewN n) (a.map fun x => x.add k) G := fun n => hrB.below (below_drewN (Below.refl _ _) n)
      go_quiet (first | (go_at_call 86; refine Calls.quiet_of_same (hcS _ _ (hrSd _))) | (go_at_call 80; refine Calls.quiet_of_same (hcB _ _ (hrBd _))))
      have hrG := (hrBd nq).alloc (.cells #[] 5)
      have HNC : Hid ((a.map fun x => x.add k) = none → c - k = 0) := fun h => (HNE.out (Option_map_none h)).elim
      have HSZ : Hid ((w'.drewN nq).heap.size = w'.heap.size) := rfl
      clear hrSd hrBd hrS hrB hcS hcB
      go_wp2_with (at_builtin; refine append_bytes rfl _ _ rfl (w'.drewN nq).heap.size (some ⟨(w'.drewN nq).heap.size, 0, none⟩) 0 [] rfl (own_lit0 _) (a.map fun x => x.add k) (c - k) G (by show Value.slice _ _ _ = Value.slice _ _ _; congr 1; have := HLB.out; omega) hrG HNC.out (by have := HLB.out; simp; omega) (by simp) ?_; intro a2 c2 y2 w2 hy2 ho2 hg2)
      go_wp2
      go_ret3
      exact ⟨a2, c2, y2, (k : Int) + (m : Int) + 4, 0, rfl, by rw [Hid, HU.out, hy2.out]; simp, ho2, ((below_drewN (Below.refl _ _) nq).alloc (Nat.le_refl _) _).grown hg2 (by simp) (fun j hj => (own_lit0 (w'.drewN nq)).2.lt j hj |>.1)⟩
    · have HU : Hid (_ = _) := HUS.out (fun h => hs (HIF.out.2 h))
      have hs' : ((sumTo (zs.drop (k + m)) 4 : Nat) : Int) ≠ (crcOf ((zs.drop k).take m) : Nat) := by omega
      have hsd : (((sumTo (zs.drop (k + m)) 4 : Nat) : Int) == (crcOf ((zs.drop k).take m) : Nat)) = false := by simpa using hs'
      clear hs hs'
      generalize crcOf ((zs.drop k).take m) = x at *
      generalize sumTo (zs.drop (k + m)) 4 = y at *
      clear HUS HUG HIF hlS hlB
      generalize (zs.drop k).take m = G at *
      generalize zs.drop (k + m) = S at *
      go_enter Tryd.func48, Tryd.ntmps48
      go_wp2_with fail
      refine (scanInt_any a c zs p w hr (by omega) hcap).mono ?_
      rintro e w' ⟨rfl, rfl⟩
      rw [HS.out]
      go_wp2_with fail
      have hck : (k : Int) < (c : Int) := by omega
      have hck2 : (k : Int) + (m : Int) < (c : Int) := by omega
      have hrSd : ∀ n, Reads (w'.drewN n) (a.map fun x => x.add (k + m)) S := fun n => hrS.below (below_drewN (Below.refl _ _) n)
      have hrBd : ∀ n, Reads (w'.drewN n) (a.map fun x => x.add k) G := fun n => hrB.below (below_drewN (Below.refl _ _) n)
      go_quiet (first | (go_at_call 86; refine Calls.quiet_of_same (hcS _ _ (hrSd _))) | (go_at_call 80; refine Calls.quiet_of_same (hcB _ _ (hrBd _))))
      go_wp2
      go_ret3
      exact ⟨none, 0, [], p, 2, rfl, HU, own_none _ _, below_drewN (Below.refl _ _) nq⟩
end Go.Proofs.YtbaocehcnjdkkaaDoor

/- The walk of laws.eqIntS. -/
namespace Go.Proofs.YtbaocehcnjdkkaaDoor
open Go.RowKit

set_option maxHeartbeats 400000 in
/-- Two slices that read alike are alike. -/
theorem eqIntS_same (a b : Option Addr) (ca cb : Nat) (zs : List Int) (w : World) (ha : ReadsI w a zs) (hb : ReadsI w b zs) (hl : zs.length ≤ 1099511627776) :
    Calls Tryd.prog 100 #[.slice a zs.length ca, .slice b zs.length cb] w fun e w' => e = .returned (.bool true) ∧ ∃ n, w' = w.drewN n := by
  rcases ha.cases with rfl | ⟨b1, o1, rfl, hpos, hc1⟩
  · go_enter Tryd.func100, Tryd.ntmps100
    go_wp2
    refine wp_loop_rounds 1 ?_
    rw [rounds_succ]
    go_wp2
    go_ret
    exact ⟨rfl, 0, rfl⟩
  · rcases hb.cases with rfl | ⟨b2, o2, rfl, _, hc2⟩
    · simp at hpos
    · go_enter Tryd.func100, Tryd.ntmps100
      go_wp2
      go_loopw [5] (fun i wr => ∃ k : Nat, k ≤ zs.length ∧ i = .int .i64 k ∧ ∃ n, wr = w.drewN n) (fun i _ => zs.length - (intOf i).toNat)
      case atStart => exact ⟨0, Nat.zero_le _, rfl, 0, rfl⟩
      case round =>
        obtain ⟨k, hk, rfl, n, rfl⟩ := hrel
        by_cases hlt : k < zs.length
        · have h1 := hc1 k hlt
          have h2 := hc2 k hlt
          clear hc1 hc2
          generalize zs.getD k 0 = z at *
          go_wp2
          go_quiet (fail)
          go_wp2
          go_roundw
          case rel => exact ⟨k + 1, by omega, by go_num, _, rfl⟩
          case measure => simp [intOf]; omega
        · go_wp2
          go_ret
          exact ⟨rfl, n, rfl⟩
end Go.Proofs.YtbaocehcnjdkkaaDoor

/- The walks of laws.markIntS and laws.heldIntS. -/
namespace Go.Proofs.YtbaocehcnjdkkaaDoor
open Go.RowKit

def marksI (k0 : Int) (n : Nat) : List Int := (List.range n).map fun i : Nat => k0 + i

theorem marksI_len (k0 : Int) (n : Nat) : (marksI k0 n).length = n := by simp [marksI]
theorem marksI_at (k0 : Int) (n i : Nat) (h : i < n) : (marksI k0 n).getD i 0 = k0 + i := by
  simp [marksI, List.getD, h]
theorem marksI_succ (k0 : Int) (n : Nat) : marksI k0 (n + 1) = marksI k0 n ++ [k0 + n] := by
  simp [marksI, List.range_succ]

def markedI (k0 : Int) (xs : List Int) (k : Nat) : List Int := marksI k0 k ++ xs.drop k
theorem markedI_set (k0 : Int) (xs : List Int) (k : Nat) (h : k < xs.length) : (markedI k0 xs k).set k (k0 + k) = markedI k0 xs (k + 1) := by
  unfold markedI
  rw [List.set_append, if_neg (by rw [marksI_len]; omega), marksI_len, Nat.sub_self, marksI_succ, List.drop_eq_getElem_cons h, List.set_cons_zero]
  simp
theorem markedI_set_map (k0 : Int) (xs : List Int) (k : Nat) (h : k < xs.length) : ((markedI k0 xs k).map (Value.int .i64)).set k (.int .i64 (k0 + k)) = (markedI k0 xs (k + 1)).map (Value.int .i64) := by
  rw [← markedI_set k0 xs k h, List.map_set]
theorem markedI_all (k0 : Int) (xs : List Int) : markedI k0 xs xs.length = marksI k0 xs.length := by simp [markedI]

set_option maxHeartbeats 400000 in
theorem markIntS_any (base : Nat) (a : Option Addr) (cap : Nat) (k0 : Int) (xs : List Int) (w : World)
    (hown : w.ownsRow base 3 1 (.slice a xs.length cap) xs.length (xs.map (Value.int .i64))) (h0 : 0 ≤ k0) (hl : k0 + xs.length ≤ 4611686018427387904) :
    Calls Tryd.prog 101 #[.slice a xs.length cap, .int .i64 k0] w fun e w' => e = .returned (.int .i64 (k0 + xs.length)) ∧
      w'.ownsRow base 3 1 (.slice a xs.length cap) xs.length ((marksI k0 xs.length).map (Value.int .i64)) ∧ w.grownBy w' (Value.slice a xs.length cap).ownBlock := by
  have hlen := hown.1
  rcases hown.2 with ⟨hv, h00⟩ | ⟨g, cap', cur, hv, hg, hgg, hr⟩
  · simp only [Value.slice.injEq] at hv
    obtain ⟨rfl, h00', rfl⟩ := hv
    obtain rfl := List.length_eq_zero_iff.1 h00
    go_enter Tryd.func101, Tryd.ntmps101
    go_wp2
    refine wp_loop_rounds 1 ?_
    rw [rounds_succ]
    go_wp2
    go_ret
    exact ⟨by simp, World.ownsRow_nil _ _ _ _, World.grownBy.refl _ _⟩
  · simp only [Value.slice.injEq] at hv
    obtain ⟨rfl, _, rfl⟩ := hv
    clear hgg hr hlen
    have hM : w.ownsRow base 3 1 (.slice (some ⟨g, 0, none⟩) xs.length cap) xs.length ((markedI k0 xs 0).map (Value.int .i64)) := by simpa [markedI, marksI] using hown
    clear hown
    go_enter Tryd.func101, Tryd.ntmps101
    go_wp2
    go_loopw [1, 5] (fun kk i wr => ∃ k : Nat, k ≤ xs.length ∧ i = .int .i64 k ∧ kk = .int .i64 (k0 + k) ∧ wr.ownsRow base 3 1 (.slice (some ⟨g, 0, none⟩) xs.length cap) xs.length ((markedI k0 xs k).map (Value.int .i64)) ∧ w.grownBy wr (some g))
      (fun _ i _ => xs.length - (intOf i).toNat)
    case atStart => exact ⟨0, Nat.zero_le _, rfl, by simp, hM, World.grownBy.refl _ _⟩
    case round =>
      obtain ⟨k, hk, rfl, rfl, hown, hgr⟩ := hrel
      clear hM
      by_cases hlt : k < xs.length
      · have hfz := hown.frozenAt k
        obtain ⟨u, hct⟩ := own_cell hown k hlt
        have HS := hown.stored k (.int .i64 (k0 + k))
        rw [markedI_set_map k0 xs k hlt] at HS
        have HSS : Hid (_ ∧ _) := HS
        clear HS hown
        go_wp2
        go_roundw
        case rel => exact ⟨k + 1, by omega, by go_num, by go_num, HSS.out.1, grownBy_trans hgr HSS.out.2⟩
        case measure => simp [intOf]; omega
      · have HE : Hid (wr.ownsRow base 3 1 (.slice (some ⟨g, 0, none⟩) xs.length cap) xs.length ((marksI k0 xs.length).map (Value.int .i64)) ∧ k = xs.length) := by
          have e : k = xs.length := by omega
          rw [e, markedI_all] at hown
          exact ⟨hown, e⟩
        go_wp2
        go_ret
        exact ⟨ret_int (by have := HE.out.2; omega), HE.out.1, hgr⟩

set_option maxHeartbeats 400000 in
theorem heldIntS_any (a : Option Addr) (cap : Nat) (k0 : Int) (n : Nat) (w : World) (hr : ReadsI w a (marksI k0 n)) (h0 : 0 ≤ k0) (hl : k0 + n ≤ 4611686018427387904) :
    Calls Tryd.prog 121 #[.slice a n cap, .int .i64 k0] w fun e w' => e = .returned (.int .i64 (k0 + n)) ∧ w' = w := by
  rcases hr.cases with h | ⟨b, off, rfl, hpos, hcell⟩
  · have h' := congrArg List.length h
    rw [marksI_len] at h'
    simp at h'
    subst h'
    go_enter Tryd.func121, Tryd.ntmps121
    go_wp2
    refine wp_loop_rounds 1 ?_
    rw [rounds_succ]
    go_wp2
    go_ret
    exact ⟨by simp, rfl⟩
  · rw [marksI_len] at hpos hcell
    go_enter Tryd.func121, Tryd.ntmps121
    go_wp2
    go_loop [1, 5] (fun kk i => ∃ k : Nat, k ≤ n ∧ i = .int .i64 k ∧ kk = .int .i64 (k0 + k)) (fun _ i => n - (intOf i).toNat)
    case atStart => exact ⟨0, Nat.zero_le _, rfl, by simp⟩
    case round =>
      obtain ⟨k, hk, rfl, rfl⟩ := hrel
      by_cases hlt : k < n
      · have hc := hcell k hlt
        rw [marksI_at k0 n k hlt] at hc
        clear hcell
        go_wp2
        go_round
        case rel => exact ⟨k + 1, by omega, by go_num, by go_num⟩
        case measure => simp [intOf]; omega
      · have HE : Hid (k = n) := by show k = n; omega
        go_wp2
        go_ret
        exact ⟨ret_int (by have := HE.out; omega), rfl⟩

theorem markIntS_own (lo hi : Nat) (a : Option Addr) (cap : Nat) (k0 : Int) (xs : List Int) (w : World) (ho : OwnI w lo hi a cap xs) (h0 : 0 ≤ k0) (hl : k0 + xs.length ≤ 4611686018427387904) :
    Calls Tryd.prog 101 #[.slice a xs.length cap, .int .i64 k0] w fun e w' => e = .returned (.int .i64 (k0 + xs.length)) ∧ OwnI w' lo hi a cap (marksI k0 xs.length) ∧ Within lo hi w w' := by
  refine (markIntS_any lo a cap k0 xs w ho.1 h0 hl).mono ?_
  rintro e w' ⟨rfl, h1, h2⟩
  refine ⟨rfl, ⟨?_, Nat.le_trans ho.2.1 h2.size, ?_⟩, Within.of_grown h2 (fun k hk => ho.lt k hk)⟩
  · rw [marksI_len]; exact h1
  · rw [marksI_len]; exact ho.2.2

theorem heldIntS_own (lo hi : Nat) (a : Option Addr) (cap : Nat) (k0 : Int) (n : Nat) (w : World) (ho : OwnI w lo hi a cap (marksI k0 n)) (h0 : 0 ≤ k0) (hl : k0 + n ≤ 4611686018427387904) :
    Calls Tryd.prog 121 #[.slice a n cap, .int .i64 k0] w fun e w' => e = .returned (.int .i64 (k0 + n)) ∧ w' = w :=
  heldIntS_any a cap k0 n w ho.reads h0 hl
end Go.Proofs.YtbaocehcnjdkkaaDoor
