/- Several texts in one, in their order. -/
import Derived.Test.YtbaocehcnjdkkaaDoorPart7
import Derived.Test.YtbaocehcnjdkkaaDoorPart3
import Derived.Test.YtbaocehcnjdkkaaDoorPart5
import Derived.Test.YtbaocehcnjdkkaaDoorPart4
import Derived.Deep.QuietTactic
import Derived.BigQuiet
import Derived.WalkSmall
import Derived.Test.YtbaocehcnjdkkaaDoorPart1
import Derived.Test.YtbaocehcnjdkkaaDoorPart2
import Derived.Laws.CopyOwn
import Derived.Deep.RegionHeld3
import Derived.Test.YtbaocehcnjdkkaaDoorProg
/- The walks of spec.l3PutSlot and spec.PutPage. -/
namespace Go.Proofs.YtbaocehcnjdkkaaDoor
open Go.RowKit

theorem flatS_step (ss : List SlotA) (k : Nat) (h : k < ss.length) : ((ss.take (k + 1)).map (·.v)).flatMap putSlotOf = ((ss.take k).map (·.v)).flatMap putSlotOf ++ putSlotOf (ss.getD k zeroS).v := by
  rw [List.take_add_one, List.map_append, List.flatMap_append]
  simp [List.getD, h]

set_option maxHeartbeats 400000 in
set_option maxRecDepth 100000 in
theorem l3PutSlot_any (a : Option Addr) (c : Nat) (xs : List Int) (s : SlotA) (w : World) (hx : Reads w a xs) (hc : a = none → c = 0) (hr : s.reads w) (hl : Fit [s]) (hxl : xs.length ≤ 1000000) :
    Calls Tryd.prog 59 #[.slice a xs.length c, .agg s.cells.toArray] w fun e w' => ∃ a' c' ys, e = .returned (.slice a' ys.length c') ∧ Hid (ys = xs ++ putSlotOf s.v) ∧ OwnB w' w.heap.size a' c' ys ∧ Below w.heap.size w w' := by
  obtain ⟨h1, h2⟩ := hl s (List.mem_singleton.2 rfl)
  obtain ⟨W, hW, b0, hbW, hsW⟩ := boxes1 w s.cells 28
  have C1 := specPutObj_any s.v.o s.aI s.cI s.aR s.cR W (ReadsO.below hr hbW) (by omega) (by omega)
  have HT : Hid (s.v.has = true → putSlotOf s.v = putOf (putObjOf s.v.o).length ++ putObjOf s.v.o) := fun h => by unfold putSlotOf; rw [if_pos h]
  have HF : Hid (s.v.has = false → putSlotOf s.v = putOf 0) := fun h => by unfold putSlotOf; rw [if_neg (by rw [h]; decide)]
  have hpl := putObj_len s.v.o
  have HC : Hid (a = none → c = 0) := hc
  generalize putSlotOf s.v = R at *
  simp only [SlotA.cells] at *
  clear hc
  cases hh : s.v.has with
  | false =>
    have HR : Hid (_ = _) := HF.out hh
    rw [hh] at hW
    clear hh HT HF C1
    go_enter Tryd.func59, Tryd.ntmps59
    go_wp2_with fail
    rw [hW.out]
    refine (specPutInt_any a c xs 0 W (hx.below hbW) HC.out (by omega)).mono ?_
    rintro e w1 ⟨a1, c1, y1, rfl, hy1, ho1, hb1⟩
    have HY : Hid (y1 = xs ++ R) := by rw [Hid, hy1, HR.out]
    clear hy1
    go_wp2
    go_ret
    exact ⟨a1, c1, y1, rfl, HY, ho1.base hbW.size, hbW.trans (hb1.mono hbW.size)⟩
  | true =>
    have HR : Hid (_ = _) := HT.out hh
    rw [hh] at hW
    clear hh HT HF
    go_enter Tryd.func59, Tryd.ntmps59
    go_wp2_with fail
    rw [hW.out]
    refine C1.mono ?_
    clear C1
    rintro e w1 ⟨a1, c1, y1, rfl, HY1, ho1, hb1⟩
    have B1 : Below w.heap.size w w1 := hbW.trans (hb1.mono hbW.size)
    have hyl : y1.length ≤ 1000 := by rw [HY1.out]; exact hpl
    go_wp2_with fail
    refine (specPutInt_any a c xs y1.length w1 (hx.below B1) HC.out (by omega)).mono ?_
    rintro e w2 ⟨a2, c2, y2, rfl, hy2, ho2, hb2⟩
    have HY2 : Hid (y2 = xs ++ putOf y1.length) := hy2
    have hyl2 : y2.length ≤ 1000100 := by have := (putOf_len (y1.length : Int)).2; rw [HY2.out, List.length_append]; omega
    have B2 : Below w.heap.size w w2 := B1.trans (hb2.mono B1.size)
    have ho2' := ho2.base B1.size
    have hr12 := ho1.reads.below hb2
    have hnc := ho1.nocap
    have HNC : Hid (_) := hnc
    have hs2 := B2.size
    clear hy2 hnc
    go_wp2_with (at_builtin; refine append_bytes rfl _ _ rfl w.heap.size a2 c2 y2 rfl ho2' a1 c1 y1 rfl hr12 HNC.out (by omega) hs2 ?_; intro a3 c3 y3 w3 hy3 ho3 hg3)
    have HY : Hid (y3 = xs ++ R) := by rw [Hid, hy3.out, HY2.out, HR.out, HY1.out]; simp only [List.append_assoc]
    go_ret
    exact ⟨a3, c3, y3, rfl, HY, ho3, B2.grown hg3 hs2 (fun k hk => (ho2'.2.lt k hk).1)⟩

set_option maxHeartbeats 1000000 in
set_option maxRecDepth 100000 in
theorem specPutPage_any (p : PageA) (h4 : p.ss.length = 4) (w : World) (hr : ReadsS w p.ss) (hl : Fit p.ss) :
    Calls Tryd.prog 22 #[.agg p.cells.toArray] w fun e w' => ∃ a' c' ys, e = .returned (.slice a' ys.length c') ∧ Hid (ys = putPageOf p.lsn (p.ss.map (·.v))) ∧ OwnB w' w.heap.size a' c' ys ∧ Below w.heap.size w w' := by
  obtain ⟨W, hW, b0, hbW, hsW⟩ := boxes1 w p.cells 31
  have hrg : W.rangeAt w.heap.size 0 p.cells := Box.range [] p.cells [] (by simpa using b0)
  have hi : (Tryd.prog.info? 31).map (·.size) = some p.cells.length := by rw [page_len p h4]; kernel_rfl
  have C1 := specPageOk_any p h4 W (hr.below hbW) hl
  have HPT : Hid (okP p.lsn (p.ss.map (·.v)) = true → putPageOf p.lsn (p.ss.map (·.v)) = frameOf (bodyOf p.lsn (p.ss.map (·.v)))) := fun h => putP_ok h
  have HPF : Hid (okP p.lsn (p.ss.map (·.v)) = false → putPageOf p.lsn (p.ss.map (·.v)) = []) := fun h => by unfold putPageOf; rw [if_neg (by rw [h]; decide)]
  generalize putPageOf p.lsn (p.ss.map (·.v)) = R at *
  go_enter Tryd.func22, Tryd.ntmps22
  go_wp2_with (first | (guard_target = wpList _ _ _ (Oper.mk (some 5) _ _ _ _ _ :: _) _ _; refine wpList_load_mid rfl 31 (.tmp 1) rfl w.heap.size 0 rfl p.cells _ (by rw [hW.out]; exact hrg) Tryd.underlying31 rfl hi ?_) | fail)
  rw [hW.out]
  clear hW hrg hi hsW
  refine C1.mono ?_
  clear C1
  rintro e w1 ⟨rfl, hb1⟩
  have B1 : Below w.heap.size w w1 := hbW.trans (hb1.mono hbW.size)
  have b1 := b0.below hb1 b0.lt
  cases hok : okP p.lsn (p.ss.map (·.v)) with
  | false =>
    have HR : Hid (R = []) := HPF.out hok
    clear hok HPT
    go_wp2
    go_ret
    exact ⟨_, 0, [], rfl, HR.out.symm, (own_lit0 w1).base B1.size, B1.alloc B1.size _⟩
  | true =>
    have HR : Hid (_ = _) := HPT.out hok
    clear hok HPF HPT
    obtain ⟨n, ss⟩ := p
    simp only [PageA.cells] at *
    have H4 : Hid (ss.length = 4) := h4
    have x0 := (b1.alloc (.cells #[] 5)).cell 0 _ rfl
    clear h4
    go_wp2_with fail
    refine (specPutInt_any _ 0 [] n _ ⟨by simp, by simp⟩ (fun h => by cases h) (by simp)).mono ?_
    rintro e w2 ⟨a2, c2, y2, rfl, hy2, ho2, hb2⟩
    have hbA : Below w1.heap.size w1 (w1.alloc (.cells #[] 5)) := (Below.refl _ _).alloc (Nat.le_refl _) _
    have N2 : Below w1.heap.size w1 w2 := hbA.trans (hb2.mono hbA.size)
    have B2 : Below w.heap.size w w2 := B1.trans (N2.mono B1.size)
    have HY2 : Hid (y2 = putOf n ++ ((ss.take 0).map (·.v)).flatMap putSlotOf) := by rw [Hid, hy2]; simp
    have ho2' : OwnB w2 w.heap.size a2 c2 y2 := ho2.base (Nat.le_trans B1.size hbA.size)
    have b2 := b1.below N2 b1.lt
    have hlt2 := b2.lt
    clear hy2 hbA hb2 ho2 x0
    go_wp2_with fail
    go_loopw [3, 4] (fun b i wr => ∃ (a' : Option Addr) (c' : Nat) (ys : List Int) (k : Nat), b = .slice a' ys.length c' ∧ i = .int .i64 k ∧ k ≤ 4 ∧ Hid (ys = putOf n ++ ((ss.take k).map (·.v)).flatMap putSlotOf) ∧ OwnB wr w.heap.size a' c' ys ∧ Below w2.heap.size w2 wr)
      (fun _ i _ => 4 - (intOf i).toNat)
    case atStart => exact ⟨a2, c2, y2, 0, rfl, rfl, by omega, HY2, ho2', Below.refl _ _⟩
    case round =>
      obtain ⟨a', c', ys, k, rfl, rfl, hk, hy, ho, hbx⟩ := hrel
      have hbl : Below w.heap.size w wr := B2.trans (hbx.mono B2.size)
      have hyl : ys.length ≤ 100000 := by
        have h1 := flatS_len ((ss.take k).map (·.v))
        have h2 := (putOf_len n).2
        rw [hy.out, List.length_append]
        rw [List.length_map, List.length_take] at h1
        omega
      by_cases hlt : k < 4
      · have hkl : k < ss.length := by rw [H4.out]; exact hlt
        have br := b2.below hbx hlt2
        obtain ⟨c0, c1, c2, c3, _⟩ := br.pslot k hkl
        have hi0 : (0 : Int) ≤ (k : Int) := by omega
        have hi4 : (k : Int) < 4 := by omega
        have hrk := (hr _ (getD_mem hkl)).below hbl
        have hlk : Fit [ss.getD k zeroS] := fun s hs => by obtain rfl := List.mem_singleton.1 hs; exact hl _ (getD_mem hkl)
        have HF : Hid (_ = _) := flatS_step ss k hkl
        generalize ss.getD k zeroS = s at *
        have C := l3PutSlot_any a' c' ys s wr ho.reads ho.nocap hrk hlk (by omega)
        simp only [SlotA.cells] at C
        go_wp2_with fail
        refine C.mono ?_
        clear C
        rintro e w4 ⟨a4, c4, y4, rfl, HY4, ho4, hb4⟩
        have HY : Hid (y4 = putOf n ++ ((ss.take (k + 1)).map (·.v)).flatMap putSlotOf) := by rw [Hid, HY4.out, hy.out, HF.out]; simp only [List.append_assoc]
        go_wp2_with fail
        go_roundw
        case rel => exact ⟨a4, c4, y4, k + 1, rfl, by go_num, by omega, HY, ho4.base hbl.size, hbx.trans (hb4.mono hbx.size)⟩
        case measure => simp [intOf]; omega
      · obtain rfl : k = 4 := by omega
        have hkk : ¬ ((4 : Nat) : Int) < 4 := by omega
        have HYB : Hid (ys = bodyOf n (ss.map (·.v))) := by rw [Hid, hy.out, List.take_of_length_le (by rw [H4.out]; omega)]; rfl
        go_wp2_with fail
        refine (specFrame_any a' c' ys wr ho.reads ho.nocap (by omega)).mono ?_
        rintro e w5 ⟨a5, c5, y5, rfl, hy5, ho5, hb5⟩
        have HY5 : Hid (y5 = R) := by rw [Hid, hy5, HYB.out, HR.out]
        clear hy5
        go_wp2
        go_ret
        exact ⟨a5, c5, y5, rfl, HY5, ho5.base hbl.size, hbl.trans (hb5.mono hbl.size)⟩
end Go.Proofs.YtbaocehcnjdkkaaDoor

/- The walks of spec.l1Ends and spec.Unframe. -/
namespace Go.Proofs.YtbaocehcnjdkkaaDoor
open Go.RowKit

/-- Does what begins at q end ahead of a number's last group? -/
def endsB (zs : List Int) (q : Nat) : Bool := decide (lead (zs.drop q) = zs.length - q ∧ zs.length - q < 6)

theorem endsB_no (zs : List Int) (q j : Nat) (hj : q + j < zs.length) (h : zs.getD (q + j) 0 < 128) : endsB zs q = false := by
  unfold endsB
  rw [decide_eq_false_iff_not]
  rintro ⟨h1, _⟩
  have := lead_stop j (zs.drop q) (by simp; omega) (by rw [drop_getD]; exact h)
  omega
theorem endsB_all (zs : List Int) (q : Nat) (h : ∀ i, i < zs.length - q → 128 ≤ zs.getD (q + i) 0) : endsB zs q = decide ((zs.length - q) < 6) := by
  have h1 := lead_ge (zs.length - q) (zs.drop q) (by simp) (fun i hi => by rw [drop_getD]; exact h i hi)
  have h2 := lead_le (zs.drop q)
  have h3 : (zs.drop q).length = zs.length - q := List.length_drop
  unfold endsB
  exact decide_eq_decide.2 ⟨fun h => h.2, fun h => ⟨by omega, h⟩⟩

theorem why_ends (zs : List Int) (q : Nat) (hq : q ≤ zs.length) (b : Bool) (h : endsB zs q = b) : scanWhy zs q = if b then 1 else 3 := by
  subst h
  unfold scanWhy endsB
  rw [Int.toNat_natCast]
  by_cases h : lead (zs.drop q) = zs.length - q ∧ zs.length - q < 6
  · rw [if_pos ⟨by omega, by omega, h.1, by omega⟩, decide_eq_true h]; rfl
  · rw [if_neg (fun h' => h ⟨h'.2.2.1, by omega⟩), decide_eq_false h]; rfl

set_option maxHeartbeats 400000 in
set_option maxRecDepth 100000 in
theorem l1Ends_any (a : Option Addr) (c : Nat) (zs : List Int) (q : Nat) (w : World) (hr : Reads w a zs) (hl : zs.length ≤ 70368744177664) (hq : q ≤ zs.length) :
    Calls Tryd.prog 95 #[.slice a zs.length c, .int .i64 q] w fun e w' => e = .returned (.bool (endsB zs q)) ∧ w' = w := by
  have hby := hr.byte
  rcases hr.cases with rfl | ⟨b, off, rfl, hpos, hcell⟩
  · have hq' : q < 1 := by simp at hq; omega
    have HE : Hid (endsB [] q = true) := by rw [Hid]; unfold endsB; simp [lead]
    have hz : ((0 : Int) - (q : Int) < 6) := by omega
    go_enter Tryd.func95, Tryd.ntmps95
    go_wp2
    refine wp_loop_rounds 1 ?_
    rw [rounds_succ]
    go_wp2
    go_ret
    exact ⟨ret_bool (by rw [HE.out]; simp; omega), rfl⟩
  go_enter Tryd.func95, Tryd.ntmps95
  go_wp2
  go_loop [5] (fun i => ∃ j : Nat, q + j ≤ zs.length ∧ i = .int .i64 ((q + j : Nat) : Int) ∧ Hid (∀ i, i < j → 128 ≤ zs.getD (q + i) 0)) (fun i => zs.length - (intOf i).toNat)
  case atStart => exact ⟨0, by omega, by simp, fun i hi => by omega⟩
  case round =>
    obtain ⟨j, hjl, rfl, hall⟩ := hrel
    by_cases hlt : q + j < zs.length
    · have hc := hcell (q + j) hlt
      obtain ⟨hn, hn2⟩ := bytes_nat hby (q + j)
      have HCC : Hid (zs.getD (q + j) 0 = ((zs.getD (q + j) 0).toNat : Int)) := hn
      rw [hn] at hc
      clear hn
      generalize (zs.getD (q + j) 0).toNat = cc at *
      by_cases hcc : cc < 128
      · have HE : Hid (endsB zs q = false) := endsB_no zs q j hlt (by rw [HCC.out]; omega)
        clear hcell hby
        go_wp2
        go_ret
        exact ⟨ret_bool HE.out.symm, rfl⟩
      · have HN : Hid (∀ i, i < j + 1 → 128 ≤ zs.getD (q + i) 0) := by
          intro i hi
          by_cases e : i = j
          · rw [e, HCC.out]; omega
          · exact hall.out i (by omega)
        clear hcell hby
        go_wp2
        go_round
        case rel => exact ⟨j + 1, by omega, by go_num, HN⟩
        case measure => simp [intOf]; omega
    · have HE : Hid (endsB zs q = decide (zs.length - q < 6)) := endsB_all zs q (fun i hi => hall.out i (by omega))
      clear hcell hby
      go_wp2
      go_ret
      exact ⟨ret_bool (by rw [HE.out]; exact decide_eq_decide.2 (by omega)), rfl⟩

theorem own_empty (w : World) : OwnB (w.alloc (.cells #[] 5)) w.heap.size (some ⟨w.heap.size, 0, none⟩) 0 [] := own_lit0 w

theorem take4_of (S F : List Int) (hs : 4 ≤ S.length) (hf : F.length = 4) (h : ∀ t, t < 4 → S.getD t 0 = F.getD t 0) : S.take 4 = F := by
  apply List.ext_getElem
  · simp; omega
  · intro i h1 h2
    have := h i (by omega)
    simp [List.getD, h2] at this
    rw [List.getElem?_eq_getElem (by omega)] at this
    simpa using this
theorem take4_not (S F : List Int) (t : Nat) (ht : t < 4) (h : S.getD t 0 ≠ F.getD t 0) : ¬ S.take 4 = F := by
  intro e
  apply h
  rw [← e]
  simp [List.getD, ht]

set_option maxHeartbeats 2000000 in
set_option maxRecDepth 100000 in
theorem specUnframe_any (a : Option Addr) (c : Nat) (zs : List Int) (p : Int) (w : World) (hr : Reads w a zs) (hl : zs.length ≤ 70368744100000) (hcap : zs.length ≤ c) :
    Calls Tryd.prog 62 #[.slice a zs.length c, .int .i64 p] w fun e w' => ∃ a' c' ys q code, e = .returned (.tuple #[.slice a' ys.length c', .int .i64 q, .int .i64 code]) ∧ Hid (unfOf zs p = (ys, q, code)) ∧ OwnB w' w.heap.size a' c' ys ∧ Below w.heap.size w w' := by
  by_cases hin : 0 ≤ p ∧ p ≤ zs.length
  case neg =>
    have HB : Hid (inB p 0 zs.length = false) := by unfold inB; exact decide_eq_false hin
    have hg : getAt zs p = none := by
      by_cases h0 : p < 0
      · exact getAt_neg zs p h0
      · exact getAt_past zs p (by omega)
    have HU : Hid (unfOf zs p = ([], p, 3)) := by rw [Hid, unf_none zs p hg]; unfold scanWhy; rw [if_neg (fun h => hin ⟨h.1, h.2.1⟩)]
    clear hg hin
    go_enter Tryd.func62, Tryd.ntmps62
    go_wp2_with fail
    refine (l1In_any _ _ _ _).mono ?_
    rintro e w' ⟨rfl, rfl⟩
    rw [HB.out]
    go_wp2
    go_ret3
    exact ⟨_, 0, [], p, 3, rfl, HU, own_lit0 w', (Below.refl _ _).alloc (Nat.le_refl _) _⟩
  case pos =>
  obtain ⟨q, rfl⟩ := Int.eq_ofNat_of_zero_le hin.1
  have hq : q ≤ zs.length := by omega
  have HB : Hid (inB q 0 zs.length = true) := by unfold inB; exact decide_eq_true hin
  clear hin
  cases hg : getAt zs q with
  | none =>
    have HG : Hid (_ = _) := hg
    have HU : Hid (_ = _) := unf_none zs q hg
    have HW : Hid (∀ b, endsB zs q = b → scanWhy zs q = if b then 1 else 3) := fun b h => why_ends zs q hq b h
    clear hg
    cases he : endsB zs q with
    | true =>
      have HE : Hid (_ = _) := he
      have HU1 : Hid (unfOf zs q = ([], (q : Int), 1)) := by rw [Hid, HU.out, HW.out _ he]; rfl
      clear he HW
      go_enter Tryd.func62, Tryd.ntmps62
      go_wp2_with fail
      refine (l1In_any _ _ _ _).mono ?_
      rintro e w' ⟨rfl, rfl⟩
      rw [HB.out]
      go_wp2_with fail
      refine (specGetInt_any a c zs q w' hr (by omega)).mono ?_
      rintro e w'' ⟨rfl, rfl⟩
      rw [HG.out]
      simp only [triple]
      go_wp2_with fail
      refine (l1Ends_any a c zs q w'' hr (by omega) hq).mono ?_
      rintro e w3 ⟨rfl, rfl⟩
      rw [HE.out]
      go_wp2
      go_ret3
      exact ⟨_, 0, [], q, 1, rfl, HU1, own_lit0 _, (Below.refl _ _).alloc (Nat.le_refl _) _⟩
    | false =>
      have HE : Hid (_ = _) := he
      have HU1 : Hid (unfOf zs q = ([], (q : Int), 3)) := by rw [Hid, HU.out, HW.out _ he]; rfl
      clear he HW
      go_enter Tryd.func62, Tryd.ntmps62
      go_wp2_with fail
      refine (l1In_any _ _ _ _).mono ?_
      rintro e w' ⟨rfl, rfl⟩
      rw [HB.out]
      go_wp2_with fail
      refine (specGetInt_any a c zs q w' hr (by omega)).mono ?_
      rintro e w'' ⟨rfl, rfl⟩
      rw [HG.out]
      simp only [triple]
      go_wp2_with fail
      refine (l1Ends_any a c zs q w'' hr (by omega) hq).mono ?_
      rintro e w3 ⟨rfl, rfl⟩
      rw [HE.out]
      go_wp2
      go_ret3
      exact ⟨_, 0, [], q, 3, rfl, HU1, own_lit0 _, (Below.refl _ _).alloc (Nat.le_refl _) _⟩
  | some r =>
    obtain ⟨n, k⟩ := r
    obtain ⟨hk, hn1, hn2⟩ := getAt_bd zs q n k hg
    have HG : Hid (_ = _) := hg
    by_cases h0 : n < 0
    · have HU : Hid (_ = _) := unf_neg zs q n k hg h0
      clear hg
      go_enter Tryd.func62, Tryd.ntmps62
      go_wp2_with fail
      refine (l1In_any _ _ _ _).mono ?_
      rintro e w' ⟨rfl, rfl⟩
      rw [HB.out]
      go_wp2_with fail
      refine (specGetInt_any a c zs q w' hr (by omega)).mono ?_
      rintro e w'' ⟨rfl, rfl⟩
      rw [HG.out]
      simp only [triple]
      go_wp2
      go_ret3
      exact ⟨_, 0, [], q, 3, rfl, HU, own_lit0 _, (Below.refl _ _).alloc (Nat.le_refl _) _⟩
    obtain ⟨m, rfl⟩ := Int.eq_ofNat_of_zero_le (show 0 ≤ n from by omega)
    by_cases h1 : (zs.length : Int) - (k : Int) < (m : Int) + 4
    · have HU : Hid (_ = _) := unf_end zs q m k hg h1
      have h1' : (zs.length : Int) - (k : Int) - 4 < (m : Int) := by omega
      clear hg h1
      go_enter Tryd.func62, Tryd.ntmps62
      go_wp2_with fail
      refine (l1In_any _ _ _ _).mono ?_
      rintro e w' ⟨rfl, rfl⟩
      rw [HB.out]
      go_wp2_with fail
      refine (specGetInt_any a c zs q w' hr (by omega)).mono ?_
      rintro e w'' ⟨rfl, rfl⟩
      rw [HG.out]
      simp only [triple]
      go_wp2
      go_ret3
      exact ⟨_, 0, [], q, 1, rfl, HU, own_lit0 _, (Below.refl _ _).alloc (Nat.le_refl _) _⟩
    have hlen : k + m + 4 ≤ zs.length := by omega
    have hrB := reads_slice hr k m (by omega)
    have hlB : ((zs.drop k).take m).length = m := by simp; omega
    have hcl := crcOf_lt _ hrB.byte
    have HUS : Hid (_ → _) := unf_sum zs q m k hg h1
    have HUG : Hid (_ → _) := unf_good zs q m k hg h1
    have h1' : ¬ (zs.length : Int) - (k : Int) - 4 < (m : Int) := by omega
    have HLB : Hid (m = ((zs.drop k).take m).length) := hlB.symm
    have hby := hr.byte
    rcases hr.cases with rfl | ⟨b, off, rfl, hpos, hcell⟩
    · simp at hlen
    clear hg h1 hlB
    have hrP := reads_part hby hcell k m (by omega)
    have HSL : Hid (4 ≤ (zs.drop (k + m)).length) := by rw [Hid]; simp; omega
    have HSD : Hid (∀ t, (zs.drop (k + m)).getD t 0 = zs.getD (k + m + t) 0) := drop_getD zs (k + m)
    generalize hG : (zs.drop k).take m = G at *
    clear hG
    go_enter Tryd.func62, Tryd.ntmps62
    go_wp2_with fail
    refine (l1In_any _ _ _ _).mono ?_
    rintro e w' ⟨rfl, rfl⟩
    rw [HB.out]
    go_wp2_with fail
    refine (specGetInt_any _ c zs q w' hr (by omega)).mono ?_
    rintro e w'' ⟨rfl, rfl⟩
    rw [HG.out]
    simp only [triple]
    have hck : ¬ c = k := by omega
    have hrG := hrP.alloc (.cells #[] 5)
    go_wp2_with (at_builtin; refine append_bytes rfl _ _ rfl w''.heap.size (some ⟨w''.heap.size, 0, none⟩) 0 [] rfl (own_lit0 _) (some ⟨b, off + k, none⟩) (c - k) G (by show Value.slice _ _ _ = Value.slice _ _ _; congr 1; have := HLB.out; omega) hrG (fun h => by cases h) (by have := HLB.out; simp; omega) (by simp) ?_; intro a2 c2 y2 w2 hy2 ho2 hg2)
    have B2 : Below w''.heap.size w'' w2 := ((Below.refl _ _).alloc (Nat.le_refl _) _).grown hg2 (by simp) (fun j hj => (own_lit0 w'').2.lt j hj |>.1)
    obtain rfl : y2 = G := by rw [hy2.out]; rfl
    clear hy2
    have hyl : y2.length ≤ 1000000000000 := by have := HLB.out; omega
    refine (specCrc_any a2 c2 y2 w2 ho2.reads (by omega)).mono ?_
    rintro e w3 ⟨rfl, rfl⟩
    go_wp2_with fail
    refine (l1Four_any (crcOf y2) w3 hcl).mono ?_
    rintro e w4 ⟨a4, c4, y4, rfl, hy4, ho4, hb4⟩
    have B4 : Below w''.heap.size w'' w4 := B2.trans (hb4.mono B2.size)
    have ho24 := ho2.below hb4
    have hr4 := hr.below B4
    have HY4 : Hid (y4 = four (crcOf y2)) := hy4
    have h4l : y4.length = 4 := by rw [hy4]; simp [four, fourTo]
    have H4L : Hid (y4.length = 4) := h4l
    have h4p : 4 ≤ y4.length := by omega
    rcases ho4.reads.cases with h | ⟨b4, o4, rfl, _, hc4⟩
    · rw [h] at h4l; simp at h4l
    have hc0 : ∀ i, i < zs.length → w4.cell? ⟨b, off + i, none⟩ = some (.int .u8 (zs.getD i 0)) := by
      rcases hr4.cases with h | ⟨b', o', h', _, hh⟩
      · rw [h] at hpos; simp at hpos
      · cases h'; exact hh
    clear hy4 h4l hcell hrB hrP hrG hg2
    go_wp2
    go_loopw [12] (fun i wr => ∃ j : Nat, j ≤ 4 ∧ i = .int .i64 j ∧ Hid (∀ t, t < j → (zs.drop (k + m)).getD t 0 = y4.getD t 0) ∧ ∃ n, wr = w4.drewN n) (fun i _ => 4 - (intOf i).toNat)
    case atStart => exact ⟨0, by omega, rfl, fun t ht => by omega, 0, rfl⟩
    case round =>
      obtain ⟨j, hj, rfl, hall, n, rfl⟩ := hrel
      by_cases hlt : j < 4
      · have h1 := hc0 (k + m + j) (by omega)
        have h2 := hc4 j (by omega)
        obtain ⟨hn, hn2⟩ := bytes_nat hby (k + m + j)
        obtain ⟨hn', hn2'⟩ := bytes_nat ho4.1 j
        have HZ : Hid ((zs.drop (k + m)).getD j 0 = ((zs.getD (k + m + j) 0).toNat : Int)) := by rw [Hid, HSD.out]; exact hn
        have HY : Hid (y4.getD j 0 = ((y4.getD j 0).toNat : Int)) := hn'
        rw [hn] at h1
        rw [hn'] at h2
        clear hn hn' hc0 hc4
        generalize (zs.getD (k + m + j) 0).toNat = zz at *
        generalize (y4.getD j 0).toNat = yy at *
        have hx1 : (k : Int) + (m : Int) + (j : Int) < (zs.length : Int) := by omega
        have hx2 : (j : Int) < (y4.length : Int) := by omega
        have hw1 : IntKind.i64.wrap ((k : Int) + (m : Int)) = (k : Int) + (m : Int) := by rw [IntKind.wrap_i64]; omega
        have hw2 : IntKind.i64.wrap ((k : Int) + (m : Int) + (j : Int)) = (k : Int) + (m : Int) + (j : Int) := by rw [IntKind.wrap_i64]; omega
        by_cases hzy : zz = yy
        · have HN : Hid (∀ t, t < j + 1 → (zs.drop (k + m)).getD t 0 = y4.getD t 0) := by
            intro t ht
            by_cases e : t = j
            · rw [e, HZ.out, HY.out, hzy]
            · exact hall.out t (by omega)
          subst hzy
          go_wp2
          go_region
          go_wp2
          go_roundw
          case rel => exact ⟨j + 1, by omega, by go_num, HN, _, rfl⟩
          case measure => simp [intOf]; omega
        · have hzb : (((zz : Nat) : Int) == (yy : Int)) = false := by simp; omega
          have HU : Hid (_ = _) := HUS.out (by rw [← HY4.out]; exact take4_not _ _ j hlt (by rw [HZ.out, HY.out]; omega))
          go_wp2
          go_region
          go_wp2
          go_ret3
          exact ⟨_, 0, [], q, 2, rfl, HU, (own_lit0 _).base (by have := B4.size; simpa using this), (below_drewN B4 _).alloc (by have := B4.size; simpa using this) _⟩
      · have HU : Hid (_ = _) := HUG.out (by rw [← HY4.out]; exact take4_of _ _ HSL.out H4L.out (fun t ht => hall.out t (by omega)))
        go_wp2
        go_ret3
        exact ⟨a2, c2, y2, (k : Int) + (m : Int) + 4, 0, rfl, HU, ho24.below (below_drewN (Below.refl _ _) n), below_drewN B4 n⟩
end Go.Proofs.YtbaocehcnjdkkaaDoor

/- No longer than its capacity; a beginning of what is owned. -/
namespace Go.Proofs.YtbaocehcnjdkkaaDoor
open Go.RowKit

theorem OwnB.len_cap {w : World} {base : Nat} {a : Option Addr} {c : Nat} {ys : List Int} (h : OwnB w base a c ys) : ys.length ≤ c := by
  rcases h.2.2 with ⟨hv, h0⟩ | ⟨g, cap, cur, hv, _, _, hn, _⟩
  · omega
  · simp only [Value.slice.injEq] at hv
    omega

theorem own_prefix {w : World} {base : Nat} {a : Option Addr} {c : Nat} {ys : List Int} (h : OwnB w base a c ys) (k : Nat) : Reads w a (ys.take k) := by
  refine ⟨fun z hz => h.1 z (List.mem_of_mem_take hz), fun hne => ?_⟩
  have hy : ys ≠ [] := by intro e; simp [e] at hne
  obtain ⟨b, off, ha, hc⟩ := h.reads.2 hy
  refine ⟨b, off, ha, fun i hi => ?_⟩
  have hi2 : i < k ∧ i < ys.length := by simp at hi; omega
  rw [hc i hi2.2]
  have : (ys.take k).getD i 0 = ys.getD i 0 := by simp [List.getD, hi2.1]
  rw [this]

end Go.Proofs.YtbaocehcnjdkkaaDoor

/- The walk of spec.GetPage. -/
namespace Go.Proofs.YtbaocehcnjdkkaaDoor
open Go.RowKit

theorem nextSlots_snoc (zs : List Int) (k : Nat) : ∀ s, nextSlots zs (k + 1) s = ((nextSlots zs k s).1 ++ [(nextSlotOf zs (nextSlots zs k s).2).1], (nextSlotOf zs (nextSlots zs k s).2).2) := by
  induction k with
  | zero => intro s; rfl
  | succ k ih =>
    intro s
    rw [nextSlots, ih (nextSlotOf zs s).2]
    rfl
theorem own_zero4 (w : World) (lo hi : Nat) (h : hi ≤ w.heap.size) : OwnS w lo hi zero4 := by
  refine ⟨fun s hs => ?_, by decide⟩
  simp only [zero4, List.mem_cons, List.not_mem_nil, or_false] at hs
  rcases hs with rfl | rfl | rfl | rfl <;> exact own_zero w lo hi h
theorem pairP_no {zs : List Int} (h : getP zs = none) : pairP zs = (noP, false) := by unfold pairP; rw [h]
theorem pairP_is {zs : List Int} {x : Int × List SlotV} (h : getP zs = some x) : pairP zs = (x, true) := by unfold pairP; rw [h]
theorem getP_read (zs : List Int) : getP zs = if (unfOf zs 0).2.2 = 0 ∧ (unfOf zs 0).2.1 = (zs.length : Int) ∧ (readerP (unfOf zs 0).1).2 = false ∧ okP (readerP (unfOf zs 0).1).1.1 (readerP (unfOf zs 0).1).1.2 = true ∧ putPageOf (readerP (unfOf zs 0).1).1.1 (readerP (unfOf zs 0).1).1.2 = zs
  then some (readerP (unfOf zs 0).1).1 else none := rfl

theorem getPair_small (zs : List Int) : (getPair zs).1.ints.length ≤ 5 ∧ (getPair zs).1.refs.length ≤ 5 := by
  cases h : (getPair zs).2 with
  | true => have := okB_bd (getPair_true h).1; exact ⟨this.2.1, this.2.2.1⟩
  | false => rw [getPair_false h]; simp [noO]
theorem nextSlot_small (zs : List Int) (s : Int × Bool) : (nextSlotOf zs s).1.o.ints.length ≤ 5 ∧ (nextSlotOf zs s).1.o.refs.length ≤ 5 := by
  unfold nextSlotOf
  split
  · simp [noS, noO]
  · split
    · simp [noS, noO]
    · exact getPair_small _
theorem nextSlots_small (zs : List Int) (k : Nat) : ∀ s, ∀ v ∈ (nextSlots zs k s).1, v.o.ints.length ≤ 5 ∧ v.o.refs.length ≤ 5 := by
  induction k with
  | zero => intro s v hv; simp [nextSlots] at hv
  | succ k ih =>
    intro s v hv
    simp only [nextSlots, List.mem_cons] at hv
    rcases hv with rfl | h
    · exact nextSlot_small zs s
    · exact ih _ v h
theorem unf_len (zs : List Int) (p : Int) : (unfOf zs p).1.length ≤ zs.length := by
  unfold unfOf
  split
  · simp
  · split
    · simp
    · split
      · simp
      · split
        · simp only [List.length_take, List.length_drop]; omega
        · simp

set_option maxHeartbeats 4000000 in
set_option maxRecDepth 100000 in
theorem specGetPage_any (a : Option Addr) (c : Nat) (zs : List Int) (w : World) (hr : Reads w a zs) (hl : zs.length ≤ 1099511627776) (hcap : zs.length ≤ c) :
    Calls Tryd.prog 27 #[.slice a zs.length c] w fun e w' => ∃ ts : List SlotA, e = .returned (.tuple #[.agg (PageA.cells ⟨(pairP zs).1.1, ts⟩).toArray, .bool (pairP zs).2]) ∧ Hid (ts.map (·.v) = (pairP zs).1.2) ∧ OwnS w' w.heap.size w'.heap.size ts ∧ Below w.heap.size w w' := by
  have HGR : Hid (_ = _) := getP_read zs
  have HUL : Hid (_ ≤ _) := unf_len zs 0
  have HNO : Hid (getP zs = none → pairP zs = (noP, false)) := fun h => pairP_no h
  have HYE : Hid (∀ x, getP zs = some x → pairP zs = (x, true)) := fun x h => pairP_is h
  generalize getP zs = G at *
  generalize pairP zs = PP at *
  obtain ⟨W, hW, b0, hbW, hsW⟩ := boxes1 w [.int .i64 0, .bool false, .int .i64 0, .slice none 0 0, .slice none 0 0, .bool false, .int .i64 0, .slice none 0 0, .slice none 0 0, .bool false, .int .i64 0, .slice none 0 0, .slice none 0 0, .bool false, .int .i64 0, .slice none 0 0, .slice none 0 0] 31
  have HI0 : Hid ((Tryd.prog.info? 31).map (·.size) = some (PageA.cells ⟨0, zero4⟩).length) := by rw [Hid]; kernel_rfl
  have HO0 : Hid (_) := all_oneCell_toArray (oneP ⟨0, zero4⟩)
  have hsW' := hsW
  clear hsW
  go_enter Tryd.func27, Tryd.ntmps27
  go_wp2_with fail
  rw [hW.out]
  clear hW
  refine (specUnframe_any a c zs 0 W (hr.below hbW) (by omega) hcap).mono ?_
  rintro e w1 ⟨a1, c1, body, q, code, rfl, HU, ho1, hb1⟩
  have hs1 := hb1.size
  have B1 : Below w.heap.size w w1 := hbW.trans (hb1.mono (by omega))
  have b01 := b0.below hb1 b0.lt
  rw [HU.out] at HGR HUL
  simp only at HGR HUL
  by_cases hgood : code = 0 ∧ q = (zs.length : Int)
  case neg =>
    have HPP : Hid (PP = (noP, false)) := HNO.out (by rw [HGR.out, if_neg (fun h => hgood ⟨h.1, h.2.1⟩)])
    obtain ⟨WF, hWF, hwF, hsF, HTF, HLF, _⟩ := page_out (C := w.heap.size) (T := 31) ⟨0, zero4⟩ rfl _ rfl b01 Tryd.underlying31 rfl (by kernel_rfl)
    have HEND : Hid (∃ ts : List SlotA, Ending.returned (.tuple #[.agg (PageA.cells ⟨0, zero4⟩).toArray, .bool false]) = .returned (.tuple #[.agg (PageA.cells ⟨PP.1.1, ts⟩).toArray, .bool PP.2]) ∧ Hid (ts.map (·.v) = PP.1.2) ∧ OwnS WF w.heap.size WF.heap.size ts ∧ Below w.heap.size w WF) :=
      ⟨zero4, by rw [HPP.out]; rfl, by rw [HPP.out]; rfl, own_zero4 _ _ _ (Nat.le_refl _), B1.trans (hwF.below (Nat.le_refl _) (by omega))⟩
    clear hwF hsF HGR HNO HYE
    by_cases hc0 : code = 0
    · have hq0 : (q == (zs.length : Int)) = false := by simp; exact fun e => hgood ⟨hc0, e⟩
      subst hc0
      clear hgood
      go_wp2_with (first | (guard_target = wpList _ _ _ (Oper.mk none (Op.store _ (Operand.tmp 2) _) _ _ _ _ :: _) _ _; refine wpList_store_mid rfl 31 (.tmp 2) (.tmp 24) rfl w.heap.size 0 (PageA.cells ⟨0, zero4⟩).toArray rfl rfl HTF.out (by rw [List.size_toArray]; exact HI0.out) HO0.out ?_) | fail)
      rw [hWF.out]
      exact bodyPost_ret (v := .tuple #[.agg (PageA.cells ⟨0, zero4⟩).toArray, .bool false]) (results_cell_flag Tryd.results27 rfl HLF.out rfl) rfl HEND.out
    · have hcb : (code == 0) = false := by simpa using hc0
      clear hgood hc0
      go_wp2_with (first | (guard_target = wpList _ _ _ (Oper.mk none (Op.store _ (Operand.tmp 2) _) _ _ _ _ :: _) _ _; refine wpList_store_mid rfl 31 (.tmp 2) (.tmp 24) rfl w.heap.size 0 (PageA.cells ⟨0, zero4⟩).toArray rfl rfl HTF.out (by rw [List.size_toArray]; exact HI0.out) HO0.out ?_) | fail)
      rw [hWF.out]
      exact bodyPost_ret (v := .tuple #[.agg (PageA.cells ⟨0, zero4⟩).toArray, .bool false]) (results_cell_flag Tryd.results27 rfl HLF.out rfl) rfl HEND.out
  case pos =>
  obtain ⟨rfl, rfl⟩ := hgood
  have hbl := HUL.out
  have hbcap := ho1.len_cap
  have HRP : Hid (readerP body = (((nextOf body (0, false)).1, (nextSlots body 4 (nextOf body (0, false)).2).1), (nextSlots body 4 (nextOf body (0, false)).2).2.2)) := rfl
  have HBR : Hid (body ≠ [] → ∀ b off, a1 = some ⟨b, off, none⟩ → b ≠ w1.heap.size) := by
    intro hne b off ha
    obtain ⟨b', off', ha', hc⟩ := ho1.reads.2 hne
    rw [ha] at ha'
    cases ha'
    have := block_lt (hc 0 (List.length_pos_iff.2 hne))
    omega
  obtain ⟨W2, hW2, bR2, hb2, hs2⟩ := boxes1 w1 [.slice a1 body.length c1, .int .i64 0, .bool false] 86
  have rd2 : RdAt W2 w1.heap.size a1 c1 body (0, false) := bR2
  have b0W := b01
  have hw1lt : w.heap.size < w1.heap.size := b01.lt
  clear b01 b0
  go_wp2_with fail
  rw [hW2.out]
  clear hW2
  refine (l2Next_any w1.heap.size a1 c1 body (0, false) W2 rd2 (ho1.reads.below hb2) (by omega)).mono ?_
  rintro e w3 ⟨⟨rfl, rd3⟩, hw3⟩
  generalize nextOf body (0, false) = Y at *
  obtain ⟨n, st0⟩ := Y
  simp only at rd3 HRP
  simp only
  have hs3 := hw3.size
  have N3 : Below w1.heap.size w1 w3 := hb2.trans (hw3.below (Nat.le_refl _) (by omega))
  obtain ⟨W4, hW4, bP4, hb4, hs4⟩ := boxes1 w3 [.int .i64 n, .bool false, .int .i64 0, .slice none 0 0, .slice none 0 0, .bool false, .int .i64 0, .slice none 0 0, .slice none 0 0, .bool false, .int .i64 0, .slice none 0 0, .slice none 0 0, .bool false, .int .i64 0, .slice none 0 0, .slice none 0 0] 31
  have bP4' : Box W4 w3.heap.size (.int .i64 n :: cellsS ([] ++ List.replicate (4 - 0) zeroS)) 31 := bP4
  have rd4 : RdAt W4 w1.heap.size a1 c1 body st0 := Box.below rd3 hb4 (Box.lt rd3)
  have N4 : Below w1.heap.size w1 W4 := N3.trans (hb4.mono (by omega))
  have hR3 := Box.lt rd3
  clear bP4 rd2 rd3 bR2 hw3 N3 hb2
  go_wp2_with fail
  rw [hW4.out]
  clear hW4
  go_loopw [9] (fun i wr => ∃ (k : Nat) (ts : List SlotA) (st : Int × Bool), i = .int .i64 k ∧ k ≤ 4 ∧ Hid (ts.length = k ∧ nextSlots body k st0 = (ts.map (·.v), st)) ∧ OwnS wr W4.heap.size wr.heap.size ts ∧ Box wr w3.heap.size (.int .i64 n :: cellsS (ts ++ List.replicate (4 - k) zeroS)) 31 ∧ RdAt wr w1.heap.size a1 c1 body st ∧ W4.heap.size ≤ wr.heap.size ∧ Below w1.heap.size w1 wr)
    (fun i _ => 4 - (intOf i).toNat)
  case atStart => exact ⟨0, [], st0, rfl, by omega, ⟨rfl, rfl⟩, OwnS.nil _ _ _, bP4', rd4, Nat.le_refl _, N4⟩
  case round =>
    obtain ⟨k, ts, st, rfl, hk, hts, hown, hbox, hrd, hsr, Nr⟩ := hrel
    clear bP4' rd4
    by_cases hlt : k < 4
    · have hrb := ho1.reads.below Nr
      have HSN : Hid (nextSlots body (k + 1) st0 = (ts.map (·.v) ++ [(nextSlotOf body st).1], (nextSlotOf body st).2)) := by rw [Hid, nextSlots_snoc, hts.out.2]
      go_wp2_with fail
      refine (l3NextSlot_any w1.heap.size a1 c1 body st wr hrd hrb (by omega) hbcap HBR.out).mono ?_
      rintro e w5 ⟨t, rfl, hv, ho, hrd5, hw5⟩
      have hs5 := hw5.size
      have hbx := hbox.within hw5 (by omega)
      have hkt : k < (ts ++ List.replicate (4 - k) zeroS).length := by have := hts.out.1; simp; omega
      obtain ⟨W6, hW6, b6, hw6, hs6⟩ := pslot_fill hbx k hkt t
      obtain ⟨x0, x1, x2, x3, hfz⟩ := hbx.pslot k hkt
      have f0 := hfz (1 + k * 4)
      have f1 := hfz (1 + k * 4 + 1)
      have f2 := hfz (1 + k * 4 + 2)
      have f3 := hfz (1 + k * 4 + 3)
      generalize (ts ++ List.replicate (4 - k) zeroS).getD k zeroS = old at *
      have b6' : Box W6 w3.heap.size (.int .i64 n :: cellsS ((ts ++ [t]) ++ List.replicate (4 - (k + 1)) zeroS)) 31 := by
        rw [show 4 - k = (4 - (k + 1)) + 1 by omega] at b6
        have e := set_snoc ts (4 - (k + 1)) t
        rw [hts.out.1] at e
        rw [e] at b6
        exact b6
      have hrd6 : RdAt W6 w1.heap.size a1 c1 body (nextSlotOf body st).2 := Box.within hrd5 hw6 (by omega)
      have hown5 : OwnS w5 W4.heap.size wr.heap.size ts := hown.within hw5 (.inr (by omega))
      have hO5 : OwnS w5 W4.heap.size w5.heap.size (ts ++ [t]) := hown5.snoc ho hsr hs5 (Nat.le_refl _)
      have hO6 : OwnS W6 W4.heap.size W6.heap.size (ts ++ [t]) := (hO5.within hw6 (.inr (by omega))).widen (Nat.le_refl _) (by omega) (Nat.le_refl _)
      have N6 : Below w1.heap.size w1 W6 := (Nr.trans (hw5.below (Nat.le_refl _) (by omega))).trans (hw6.below (by omega) (by omega))
      have HT : Hid ((ts ++ [t]).length = k + 1 ∧ nextSlots body (k + 1) st0 = ((ts ++ [t]).map (·.v), (nextSlotOf body st).2)) := by
        refine ⟨by have := hts.out.1; simp; omega, ?_⟩
        rw [HSN.out, List.map_append, ← hv.out]
        rfl
      have hi0 : (0 : Int) ≤ (k : Int) := by omega
      have hi4 : (k : Int) < 4 := by omega
      have hs6' : W4.heap.size ≤ W6.heap.size := by omega
      clear hfz hs6 hw6 hw5 b6 hO5 hown hown5 hbox hbx hts HSN hkt ho hrd hrd5 hrb
      generalize nextSlotOf body st = Z at *
      simp only [SlotA.cells]
      go_wp2_with fail
      rw [hW6.out]
      go_roundw
      case rel => exact ⟨k + 1, ts ++ [t], Z.2, by go_num, by omega, HT, hO6, b6', hrd6, hs6', N6⟩
      case measure => simp [intOf]; omega
    · obtain rfl : k = 4 := by omega
      have hkk : ¬ ((4 : Nat) : Int) < 4 := by omega
      have hrp : ts ++ List.replicate (4 - 4) zeroS = ts := by simp
      rw [hrp] at hbox
      have htl : ts.length = 4 := hts.out.1
      obtain ⟨pos, bad⟩ := st
      have HRR : Hid (readerP body = ((n, ts.map (·.v)), bad)) := by rw [Hid, HRP.out, hts.out.2]
      have hfT : ∀ s ∈ ts, s.v.o.ints.length ≤ 5 ∧ s.v.o.refs.length ≤ 5 := fun s hs => nextSlots_small body 4 st0 s.v (by rw [hts.out.2]; exact List.mem_map.2 ⟨s, hs, rfl⟩)
      rw [HRR.out] at HGR
      simp only at HGR
      clear hrp hts HRP HRR
      unfold RdAt at hrd
      simp only at hrd
      have y2 := hrd.cell 2 _ rfl
      generalize hq : (⟨n, ts⟩ : PageA) = P at *
      have hP4 : P.ss.length = 4 := by rw [← hq]; exact htl
      have HPe : Hid (P.lsn = n ∧ P.ss = ts) := by rw [← hq]; exact ⟨rfl, rfl⟩
      have hbox' : Box wr w3.heap.size P.cells 31 := by rw [← hq]; exact hbox
      have oP : OwnS wr W4.heap.size wr.heap.size P.ss := by rw [← hq]; exact hown
      have HGP : Hid (G = if bad = false ∧ okP P.lsn (P.ss.map (·.v)) = true ∧ putPageOf P.lsn (P.ss.map (·.v)) = zs then some (P.lsn, P.ss.map (·.v)) else none) := by rw [Hid, HGR.out, ← hq]; simp
      clear hq hbox hown HGR htl
      have HGR : Hid (_) := HGP.out
      have HIP : Hid ((Tryd.prog.info? 31).map (·.size) = some P.cells.length) := by rw [Hid, page_len P hP4]; kernel_rfl
      cases bad with
      | true =>
        have HPP : Hid (PP = (noP, false)) := HNO.out (by rw [HGR.out]; simp)
        clear HGP
        obtain ⟨WF, hWF, hwF, hsF, HTF, HLF, _⟩ := page_out (C := w.heap.size) (T := 31) ⟨0, zero4⟩ rfl _ rfl (b0W.below Nr b0W.lt) Tryd.underlying31 rfl (by kernel_rfl)
        have HEND : Hid (∃ ts : List SlotA, Ending.returned (.tuple #[.agg (PageA.cells ⟨0, zero4⟩).toArray, .bool false]) = .returned (.tuple #[.agg (PageA.cells ⟨PP.1.1, ts⟩).toArray, .bool PP.2]) ∧ Hid (ts.map (·.v) = PP.1.2) ∧ OwnS WF w.heap.size WF.heap.size ts ∧ Below w.heap.size w WF) :=
          ⟨zero4, by rw [HPP.out]; rfl, by rw [HPP.out]; rfl, own_zero4 _ _ _ (Nat.le_refl _), (B1.trans (Nr.mono B1.size)).trans (hwF.below (Nat.le_refl _) (by have := Nr.size; omega))⟩
        clear hwF hsF HGR HNO HYE
        go_wp2_with (first | (guard_target = wpList _ _ _ (Oper.mk none (Op.store _ (Operand.tmp 2) _) _ _ _ _ :: _) _ _; refine wpList_store_mid rfl 31 (.tmp 2) (.tmp 56) rfl w.heap.size 0 (PageA.cells ⟨0, zero4⟩).toArray rfl rfl HTF.out (by rw [List.size_toArray]; exact HI0.out) HO0.out ?_) | fail)
        rw [hWF.out]
        exact bodyPost_ret (v := .tuple #[.agg (PageA.cells ⟨0, zero4⟩).toArray, .bool false]) (results_cell_flag Tryd.results27 rfl HLF.out rfl) rfl HEND.out
      | false =>
      have hfP : Fit P.ss := fun s hs => by have := hfT s (by rw [← HPe.out.2]; exact hs); omega
      have HRGP : Hid (∀ w', Below wr.heap.size wr w' → w'.rangeAt w3.heap.size 0 P.cells) := fun w' hh => Box.range [] P.cells [] (by simpa using hbox'.below hh hbox'.lt)
      have rP := HRGP.out _ (Below.refl _ _)
      have C1 := specPageOk_any P hP4 wr oP.reads hfP
      have hsrr := Nr.size
      go_wp2_with (first | (guard_target = wpList _ _ _ (Oper.mk (some 45) _ _ _ _ _ :: _) _ _; refine wpList_load_mid_if (by rfl) 31 (.tmp 8) rfl w3.heap.size 0 rfl P.cells _ rP Tryd.underlying31 rfl HIP.out ?_) | fail)
      refine C1.mono ?_
      clear C1 rP
      rintro e w6 ⟨rfl, hb6⟩
      have N6 : Below w1.heap.size w1 w6 := Nr.trans (hb6.mono hsrr)
      cases hok : okP P.lsn (P.ss.map (·.v)) with
      | false =>
        have HPP : Hid (PP = (noP, false)) := HNO.out (by rw [HGR.out, hok]; simp)
        clear HGP hok
        obtain ⟨WF, hWF, hwF, hsF, HTF, HLF, _⟩ := page_out (C := w.heap.size) (T := 31) ⟨0, zero4⟩ rfl _ rfl (b0W.below N6 b0W.lt) Tryd.underlying31 rfl (by kernel_rfl)
        have HEND : Hid (∃ ts : List SlotA, Ending.returned (.tuple #[.agg (PageA.cells ⟨0, zero4⟩).toArray, .bool false]) = .returned (.tuple #[.agg (PageA.cells ⟨PP.1.1, ts⟩).toArray, .bool PP.2]) ∧ Hid (ts.map (·.v) = PP.1.2) ∧ OwnS WF w.heap.size WF.heap.size ts ∧ Below w.heap.size w WF) :=
          ⟨zero4, by rw [HPP.out]; rfl, by rw [HPP.out]; rfl, own_zero4 _ _ _ (Nat.le_refl _), (B1.trans (N6.mono B1.size)).trans (hwF.below (Nat.le_refl _) (by have := N6.size; omega))⟩
        clear hwF hsF HGR HNO HYE
        go_wp2_with (first | (guard_target = wpList _ _ _ (Oper.mk none (Op.store _ (Operand.tmp 2) _) _ _ _ _ :: _) _ _; refine wpList_store_mid rfl 31 (.tmp 2) (.tmp 56) rfl w.heap.size 0 (PageA.cells ⟨0, zero4⟩).toArray rfl rfl HTF.out (by rw [List.size_toArray]; exact HI0.out) HO0.out ?_) | fail)
        rw [hWF.out]
        exact bodyPost_ret (v := .tuple #[.agg (PageA.cells ⟨0, zero4⟩).toArray, .bool false]) (results_cell_flag Tryd.results27 rfl HLF.out rfl) rfl HEND.out
      | true =>
      have HOK : Hid (_ = _) := hok
      clear hok
      have oP6 := oP.below hb6
      have C2 := specPutPage_any P hP4 w6 oP6.reads hfP
      have rP6 := HRGP.out _ hb6
      have HYL : Hid ((putPageOf P.lsn (P.ss.map (·.v))).length ≤ 1000000) := by
        rw [Hid, putP_ok HOK.out]
        have h1 := frameOf_len (bodyOf P.lsn (P.ss.map (·.v)))
        have h2 := body_len P.lsn (P.ss.map (·.v))
        rw [List.length_map, hP4] at h2
        omega
      go_wp2_with (first | (guard_target = wpList _ _ _ (Oper.mk (some 50) _ _ _ _ _ :: _) _ _; refine wpList_load_mid_if (by rfl) 31 (.tmp 8) rfl w3.heap.size 0 rfl P.cells _ rP6 Tryd.underlying31 rfl HIP.out ?_) | fail)
      refine C2.mono ?_
      clear C2 rP6
      rintro e w7 ⟨a7, c7, y7, rfl, HY7, ho7, hb7⟩
      have hb67 : Below wr.heap.size wr w7 := hb6.trans (hb7.mono hb6.size)
      have N7 : Below w1.heap.size w1 w7 := Nr.trans (hb67.mono hsrr)
      have hyl : y7.length ≤ 1000000 := by rw [HY7.out]; exact HYL.out
      have hsm := l2Same_any a7 a c7 c y7 zs w7 ho7.reads (hr.below (B1.trans (N7.mono B1.size))) (by omega) hl
      go_wp2_with fail
      refine hsm.mono ?_
      clear hsm
      rintro e w8 ⟨rfl, n8, rfl⟩
      have hb8 : Below wr.heap.size wr (w7.drewN n8) := below_drewN hb67 n8
      have N8 : Below w1.heap.size w1 (w7.drewN n8) := below_drewN N7 n8
      have hs8 : wr.heap.size ≤ (w7.drewN n8).heap.size := hb8.size
      have HD1 : Hid (decide (y7 = zs) = false → PP = (noP, false)) := by
        intro h
        apply HNO.out
        rw [HGR.out, if_neg]
        rintro ⟨_, _, h3⟩
        rw [decide_eq_false_iff_not] at h
        exact h (HY7.out.trans h3)
      have HD2 : Hid (decide (y7 = zs) = true → PP = ((P.lsn, P.ss.map (·.v)), true)) := by
        intro h
        rw [decide_eq_true_eq] at h
        apply HYE.out
        rw [HGR.out, if_pos ⟨by first | rfl | trivial, HOK.out, by rw [← HY7.out]; exact h⟩]
      generalize w7.drewN n8 = w8 at *
      generalize decide (y7 = zs) = D at *
      cases D with
      | false =>
        have HPP : Hid (PP = (noP, false)) := HD1.out rfl
        clear HGP HD1 HD2
        obtain ⟨WF, hWF, hwF, hsF, HTF, HLF, _⟩ := page_out (C := w.heap.size) (T := 31) ⟨0, zero4⟩ rfl _ rfl (b0W.below N8 b0W.lt) Tryd.underlying31 rfl (by kernel_rfl)
        have HEND : Hid (∃ ts : List SlotA, Ending.returned (.tuple #[.agg (PageA.cells ⟨0, zero4⟩).toArray, .bool false]) = .returned (.tuple #[.agg (PageA.cells ⟨PP.1.1, ts⟩).toArray, .bool PP.2]) ∧ Hid (ts.map (·.v) = PP.1.2) ∧ OwnS WF w.heap.size WF.heap.size ts ∧ Below w.heap.size w WF) :=
          ⟨zero4, by rw [HPP.out]; rfl, by rw [HPP.out]; rfl, own_zero4 _ _ _ (Nat.le_refl _), (B1.trans (N8.mono B1.size)).trans (hwF.below (Nat.le_refl _) (by have := N8.size; omega))⟩
        clear hwF hsF HGR HNO HYE
        go_wp2_with (first | (guard_target = wpList _ _ _ (Oper.mk none (Op.store _ (Operand.tmp 2) _) _ _ _ _ :: _) _ _; refine wpList_store_mid rfl 31 (.tmp 2) (.tmp 56) rfl w.heap.size 0 (PageA.cells ⟨0, zero4⟩).toArray rfl rfl HTF.out (by rw [List.size_toArray]; exact HI0.out) HO0.out ?_) | fail)
        rw [hWF.out]
        exact bodyPost_ret (v := .tuple #[.agg (PageA.cells ⟨0, zero4⟩).toArray, .bool false]) (results_cell_flag Tryd.results27 rfl HLF.out rfl) rfl HEND.out
      | true =>
        have HPP : Hid (PP = ((P.lsn, P.ss.map (·.v)), true)) := HD2.out rfl
        have rP8 := HRGP.out _ hb8
        have HOP : Hid (_) := all_oneCell_toArray (oneP P)
        obtain ⟨WF, hWF, hwF, hsF, HTF, HLF, _⟩ := page_out (C := w.heap.size) (T := 31) P hP4 _ rfl (b0W.below N8 b0W.lt) Tryd.underlying31 rfl (by kernel_rfl)
        have HOF : Hid (OwnS WF w.heap.size WF.heap.size P.ss) := ((oP.below hb8).within hwF (.inr (by omega))).widen (by omega) (by omega) (Nat.le_refl _)
        have HEND : Hid (∃ ts : List SlotA, Ending.returned (.tuple #[.agg P.cells.toArray, .bool true]) = .returned (.tuple #[.agg (PageA.cells ⟨PP.1.1, ts⟩).toArray, .bool PP.2]) ∧ Hid (ts.map (·.v) = PP.1.2) ∧ OwnS WF w.heap.size WF.heap.size ts ∧ Below w.heap.size w WF) :=
          ⟨P.ss, by rw [HPP.out], by rw [HPP.out, Hid], HOF.out, (B1.trans (N8.mono B1.size)).trans (hwF.below (Nat.le_refl _) (by have := N8.size; omega))⟩
        clear hwF hsF HGR HNO HYE HGP HD1 HD2 HOF
        go_wp2_with (first | (guard_target = wpList _ _ _ (Oper.mk (some 57) _ _ _ _ _ :: _) _ _; refine wpList_load_mid rfl 31 (.tmp 8) rfl w3.heap.size 0 rfl P.cells _ rP8 Tryd.underlying31 rfl HIP.out ?_) | (guard_target = wpList _ _ _ (Oper.mk none (Op.store _ (Operand.tmp 2) _) _ _ _ _ :: _) _ _; refine wpList_store_mid rfl 31 (.tmp 2) (.tmp 57) rfl w.heap.size 0 P.cells.toArray rfl rfl HTF.out (by rw [List.size_toArray]; exact HIP.out) HOP.out ?_) | fail)
        rw [hWF.out]
        exact bodyPost_ret (v := .tuple #[.agg P.cells.toArray, .bool true]) (results_cell_flag Tryd.results27 rfl HLF.out rfl) rfl HEND.out
end Go.Proofs.YtbaocehcnjdkkaaDoor

/- The walk of impl.readSum. -/
namespace Go.Proofs.YtbaocehcnjdkkaaDoor
open Go.RowKit

theorem shl8_go (c j : Nat) (hc : c < 256) (hj : j < 4) : wrap64 ((c : Int) * 2 ^ (8 * j)) = ((c * 256 ^ j : Nat) : Int) ∧ c * 256 ^ j ≤ 4294967296 := by
  have e7 : (256 : Nat) ^ j = 2 ^ (8 * j) := by rw [Nat.pow_mul]
  have hp : (256 : Nat) ^ j ≤ 256 ^ 3 := Nat.pow_le_pow_right (by omega) (by omega)
  have h5 : (256 : Nat) ^ 3 = 16777216 := by decide
  have hb : c * 256 ^ j ≤ 255 * 16777216 := Nat.mul_le_mul (by omega) (by omega)
  have e : ((c : Int) * 2 ^ (8 * j)) = ((c * 256 ^ j : Nat) : Int) := by
    rw [e7]; simp
  rw [e]
  constructor
  · unfold wrap64; omega
  · omega

theorem sumTo_le (zs : List Int) (hb : ∀ z ∈ zs, 0 ≤ z ∧ z < 256) (k : Nat) (hk : k ≤ 4) : sumTo zs k < 4294967296 := by
  have h1 := sumTo_lt zs hb k
  have h2 : (256 : Nat) ^ k ≤ 256 ^ 4 := Nat.pow_le_pow_right (by omega) hk
  have h3 : (256 : Nat) ^ 4 = 4294967296 := by decide
  omega

set_option maxHeartbeats 400000 in
theorem readSum_any (a : Option Addr) (c : Nat) (zs : List Int) (w : World) (hr : Reads w a zs) (hl : 4 ≤ zs.length) (hl2 : zs.length ≤ 70368744177664) :
    Calls Tryd.prog 86 #[.slice a zs.length c] w fun e w' => e = .returned (.int .i64 (sumTo zs 4 : Nat)) ∧ w' = w := by
  have hby := hr.byte
  rcases hr.cases with rfl | ⟨b, off, rfl, hpos, hcell⟩
  · simp at hl
  go_enter Tryd.func86, Tryd.ntmps86
  go_wp2
  go_loop [3, 5] (fun m i => ∃ k : Nat, k ≤ 4 ∧ i = .int .i64 k ∧ m = .int .i64 (sumTo zs k : Nat)) (fun _ i => 4 - (intOf i).toNat)
  case atStart => exact ⟨0, by omega, rfl, rfl⟩
  case round =>
    obtain ⟨k, hk, rfl, rfl⟩ := hrel
    have hm := sumTo_le zs hby k hk
    by_cases hlt : k < 4
    · have hck := hcell k (by omega)
      obtain ⟨hkn, hkn2⟩ := bytes_nat hby k
      have HV : Hid (sumTo zs (k + 1) = sumTo zs k + (zs.getD k 0).toNat * 256 ^ k) := rfl
      rw [hkn] at hck
      clear hkn hcell hby
      generalize (zs.getD k 0).toNat = cc at *
      obtain ⟨hsh, hshl⟩ := shl8_go cc k hkn2 hlt
      generalize cc * 256 ^ k = t at *
      generalize sumTo zs k = m at *
      go_wp2
      go_round
      case rel => exact ⟨k + 1, by omega, by go_num, by rw [HV.out]; go_num⟩
      case measure => simp [intOf]; omega
    · have HE : Hid (sumTo zs k = sumTo zs 4) := by rw [Hid, show k = 4 from by omega]
      generalize sumTo zs k = m at *
      go_wp2
      go_ret
      exact ⟨ret_int (by rw [HE.out]), rfl⟩
end Go.Proofs.YtbaocehcnjdkkaaDoor

/- The walk of impl.Unframe. -/
namespace Go.Proofs.YtbaocehcnjdkkaaDoor
open Go.RowKit

theorem unf_ret {a' : Option Addr} {c' : Nat} {ys : List Int} {q code : Int} {r : List Int × Int × Int} (h : (ys, q, code) = r) :
    Ending.returned (.tuple #[.slice a' ys.length c', .int .i64 q, .int .i64 code]) = .returned (unfVal a' c' r) := by subst h; rfl

theorem Option_map_none {α β : Type} {f : α → β} {a : Option α} (h : a.map f = none) : a = none := by cases a <;> simp_all

set_option maxHeartbeats 1000000 in
set_option maxRecDepth 100000 in
theorem implUnframe_any (a : Option Addr) (c : Nat) (zs : List Int) (p : Int) (w : World) (hr : Reads w a zs) (hl : zs.length ≤ 70368744100000) (hcap : zs.length ≤ c) :
    Calls Tryd.prog 48 #[.slice a zs.length c, .int .i64 p] w fun e w' => ∃ a' c' ys q code, e = .returned (.tuple #[.slice a' ys.length c', .int .i64 q, .int .i64 code]) ∧ Hid (unfOf zs p = (ys, q, code)) ∧ OwnB w' w.heap.size a' c' ys ∧ Below w.heap.size w w' := by
  cases hg : getAt zs p with
  | none =>
    have HS : Hid (scanOf zs p = _) := scan_none zs p hg _ rfl
    have hw : (scanWhy zs p == 0) = false := by unfold scanWhy; split <;> rfl
    have HU : Hid (_ = _) := unf_none zs p hg
    clear hg
    generalize scanWhy zs p = y at *
    go_enter Tryd.func48, Tryd.ntmps48
    go_wp2_with fail
    refine (scanInt_any a c zs p w hr (by omega) hcap).mono ?_
    rintro e w' ⟨rfl, rfl⟩
    rw [HS.out]
    go_wp2
    go_ret3
    exact ⟨none, 0, [], p, y, rfl, HU, own_none _ _, Below.refl _ _⟩
  | some r =>
    obtain ⟨n, k⟩ := r
    obtain ⟨hk, hn1, hn2⟩ := getAt_bd zs p n k hg
    have HS : Hid (scanOf zs p = _) := (show scanOf zs p = scanOk (n, k) from by unfold scanOf; rw [hg])
    simp only [scanOk] at HS
    by_cases h0 : n < 0
    · have HU : Hid (_ = _) := unf_neg zs p n k hg h0
      clear hg
      go_enter Tryd.func48, Tryd.ntmps48
      go_wp2_with fail
      refine (scanInt_any a c zs p w hr (by omega) hcap).mono ?_
      rintro e w' ⟨rfl, rfl⟩
      rw [HS.out]
      go_wp2
      go_ret3
      exact ⟨none, 0, [], p, 3, rfl, HU, own_none _ _, Below.refl _ _⟩
    obtain ⟨m, rfl⟩ := Int.eq_ofNat_of_zero_le (show 0 ≤ n from by omega)
    by_cases h1 : (zs.length : Int) - (k : Int) < (m : Int) + 4
    · have HU : Hid (_ = _) := unf_end zs p m k hg h1
      clear hg
      go_enter Tryd.func48, Tryd.ntmps48
      go_wp2_with fail
      refine (scanInt_any a c zs p w hr (by omega) hcap).mono ?_
      rintro e w' ⟨rfl, rfl⟩
      rw [HS.out]
      go_wp2
      go_ret3
      exact ⟨none, 0, [], p, 1, rfl, HU, own_none _ _, Below.refl _ _⟩
    have hlen : k + m + 4 ≤ zs.length := by omega
    have hrB := reads_slice hr k m (by omega)
    have hrS : Reads w (a.map fun x => x.add (k + m)) (zs.drop (k + m)) := by
      have := reads_slice hr (k + m) (zs.length - (k + m)) (by omega)
      rwa [List.take_of_length_le (by simp)] at this
    have hlS : (zs.drop (k + m)).length = zs.length - (k + m) := List.length_drop
    have hlB : ((zs.drop k).take m).length = m := by simp; omega
    have hcS := fun c' w' (hh : Reads w' (a.map fun x => x.add (k + m)) (zs.drop (k + m))) => readSum_any (a.map fun x => x.add (k + m)) c' (zs.drop (k + m)) w' hh (by omega) (by omega)
    rw [hlS] at hcS
    have hcB := fun c' w' (hh : Reads w' (a.map fun x => x.add k) ((zs.drop k).take m)) => implCrc_any (a.map fun x => x.add k) c' ((zs.drop k).take m) w' hh (by omega)
    rw [hlB] at hcB
    have hcl := crcOf_lt _ hrB.byte
    have hsl := sumTo_le _ hrS.byte 4 (by omega)
    have HIF : Hid (_ ↔ _) := sum_iff (zs.drop (k + m)) hrS.byte (by omega) _ hcl
    have HUS : Hid (_ → _) := unf_sum zs p m k hg h1
    have HUG : Hid (_ → _) := unf_good zs p m k hg h1
    have hne : a = none → False := by
      intro e
      subst e
      rcases hr.cases with h | ⟨b, off, h, _⟩
      · rw [h] at hlen; simp at hlen
      · cases h
    have HNE : Hid (a = none → False) := hne
    clear hg hne
    by_cases hs : sumTo (zs.drop (k + m)) 4 = crcOf ((zs.drop k).take m)
    · have HU : Hid (_ = _) := HUG.out (HIF.out.1 hs)
      rw [hs] at hcS
      generalize crcOf ((zs.drop k).take m) = x at *
      have HLB : Hid (m = ((zs.drop k).take m).length) := hlB.symm
      clear hs HUS HUG HIF hlS hlB
      generalize (zs.drop k).take m = G at *
      generalize zs.drop (k + m) = S at *
      go_enter Tryd.func48, Tryd.ntmps48
      go_wp2_with fail
      refine (scanInt_any a c zs p w hr (by omega) hcap).mono ?_
      rintro e w' ⟨rfl, rfl⟩
      rw [HS.out]
      go_wp2_with fail
      have hck : (k : Int) < (c : Int) := by omega
      have hck2 : (k : Int) + (m : Int) < (c : Int) := by omega
      have hrSd : ∀ n, Reads (w'.drewN n) (a.map fun x => x.add (k + m)) S := fun n => hrS.below (below_drewN (Below.refl _ _) n)
      have hrBd : ∀ n, Reads (w'.drewN n) (a.map fun x => x.add k) G := fun n => hrB.below (below_drewN (Below.refl _ _) n)
      go_quiet (first | (go_at_call 86; refine Calls.quiet_of_same (hcS _ _ (hrSd _))) | (go_at_call 80; refine Calls.quiet_of_same (hcB _ _ (hrBd _))))
      have hrG := (hrBd nq).alloc (.cells #[] 5)
      have HNC : Hid ((a.map fun x => x.add k) = none → c - k = 0) := fun h => (HNE.out (Option_map_none h)).elim
      have HSZ : Hid ((w'.drewN nq).heap.size = w'.heap.size) := rfl
      clear hrSd hrBd hrS hrB hcS hcB
      go_wp2_with (at_builtin; refine append_bytes rfl _ _ rfl (w'.drewN nq).heap.size (some ⟨(w'.drewN nq).heap.size, 0, none⟩) 0 [] rfl (own_lit0 _) (a.map fun x => x.add k) (c - k) G (by show Value.slice _ _ _ = Value.slice _ _ _; congr 1; have := HLB.out; omega) hrG HNC.out (by have := HLB.out; simp; omega) (by simp) ?_; intro a2 c2 y2 w2 hy2 ho2 hg2)
      go_wp2
      go_ret3
      exact ⟨a2, c2, y2, (k : Int) + (m : Int) + 4, 0, rfl, by rw [Hid, HU.out, hy2.out]; simp, ho2, ((below_drewN (Below.refl _ _) nq).alloc (Nat.le_refl _) _).grown hg2 (by simp) (fun j hj => (own_lit0 (w'.drewN nq)).2.lt j hj |>.1)⟩
    · have HU : Hid (_ = _) := HUS.out (fun h => hs (HIF.out.2 h))
      have hs' : ((sumTo (zs.drop (k + m)) 4 : Nat) : Int) ≠ (crcOf ((zs.drop k).take m) : Nat) := by omega
      have hsd : (((sumTo (zs.drop (k + m)) 4 : Nat) : Int) == (crcOf ((zs.drop k).take m) : Nat)) = false := by simpa using hs'
      clear hs hs'
      generalize crcOf ((zs.drop k).take m) = x at *
      generalize sumTo (zs.drop (k + m)) 4 = y at *
      clear HUS HUG HIF hlS hlB
      generalize (zs.drop k).take m = G at *
      generalize zs.drop (k + m) = S at *
      go_enter Tryd.func48, Tryd.ntmps48
      go_wp2_with fail
      refine (scanInt_any a c zs p w hr (by omega) hcap).mono ?_
      rintro e w' ⟨rfl, rfl⟩
      rw [HS.out]
      go_wp2_with fail
      have hck : (k : Int) < (c : Int) := by omega
      have hck2 : (k : Int) + (m : Int) < (c : Int) := by omega
      have hrSd : ∀ n, Reads (w'.drewN n) (a.map fun x => x.add (k + m)) S := fun n => hrS.below (below_drewN (Below.refl _ _) n)
      have hrBd : ∀ n, Reads (w'.drewN n) (a.map fun x => x.add k) G := fun n => hrB.below (below_drewN (Below.refl _ _) n)
      go_quiet (first | (go_at_call 86; refine Calls.quiet_of_same (hcS _ _ (hrSd _))) | (go_at_call 80; refine Calls.quiet_of_same (hcB _ _ (hrBd _))))
      go_wp2
      go_ret3
      exact ⟨none, 0, [], p, 2, rfl, HU, own_none _ _, below_drewN (Below.refl _ _) nq⟩
end Go.Proofs.YtbaocehcnjdkkaaDoor

/- The walk of impl.copyInts. -/
namespace Go.Proofs.YtbaocehcnjdkkaaDoor
open Go.RowKit

set_option maxHeartbeats 400000 in
set_option maxRecDepth 100000 in
theorem copyInts_any (a : Option Addr) (cap : Nat) (zs : List Int) (w : World) (hr : ReadsI w a zs) (hl : zs.length ≤ 1099511627776) :
    Calls Tryd.prog 84 #[.slice a zs.length cap] w fun e w' => ∃ a' c', e = .returned (.slice a' zs.length c') ∧ OwnI w' w.heap.size w'.heap.size a' c' zs ∧ Below w.heap.size w w' := by
  obtain ⟨i0, hi, hz0, hz1, hz2⟩ := info_parts Tryd.infoInt
  rcases hr.cases with rfl | ⟨b, off, rfl, hpos, hcell⟩
  · go_enter Tryd.func84, Tryd.ntmps84
    go_wp2
    go_ret
    exact ⟨none, 0, rfl, ownI_nil _ _ _ (Nat.le_refl _), Below.refl _ _⟩
  · have hnz : ((zs.length : Int) == 0) = false := by simp; intro e; simp [e] at hpos
    have hsz : (Tryd.prog.info? 3).map (·.size) = some 1 := by kernel_rfl
    go_enter Tryd.func84, Tryd.ntmps84
    go_wp2_with (at_make; refine wpList_make_full _ rfl _ _ 24 rfl w.heap.size 3 i0 (.int .i64 0) 1 Tryd.underlying24 hi hz0 hz1 _ _ _ _ zs.length rfl rfl rfl rfl (by rw [hz2]; omega) (by simp [maxLen]; omega) (Nat.le_refl _) ?_)
    intro w0 hown0 hgrow0
    have hb0 : Below w.heap.size w w0 := (Below.refl _ _).grown hgrow0 (Nat.le_refl _) (fun k h => by cases h)
    obtain ⟨hlen, hcase⟩ := hown0
    rcases hcase with ⟨hv, _⟩ | ⟨g, cap', cur, hv, hg, hgg, hn, hm, hcs, htk⟩
    · cases hv
    simp only [Value.slice.injEq, Option.some.injEq, Addr.mk.injEq, and_true, true_and] at hv
    obtain ⟨rfl, rfl⟩ := hv
    have hcl : cur.toList.length = zs.length := by rw [Array.length_toList, hcs]; omega
    have HC : Hid (0 < (zs.map (Value.int .i64)).length → some (⟨w.heap.size, 0, none⟩ : Addr) = some ⟨w.heap.size, 0, none⟩ ∧ ∃ ad : Addr, some (⟨b, off, none⟩ : Addr) = some ad ∧ ∀ j v, (zs.map (Value.int .i64))[j]? = some v → w0.cell? (ad.add j) = some v) := by
      intro _
      refine ⟨rfl, _, rfl, fun j v hv => ?_⟩
      rw [List.getElem?_map] at hv
      cases hzj : zs[j]? with
      | none => rw [hzj] at hv; cases hv
      | some z =>
        rw [hzj] at hv
        simp only [Option.map_some, Option.some.injEq] at hv
        have hj : j < zs.length := (List.getElem?_eq_some_iff.1 hzj).1
        have hc := hcell j hj
        have hadd : (⟨b, off, none⟩ : Addr).add j = ⟨b, off + j, none⟩ := by unfold Addr.add; split <;> simp_all
        rw [hadd, hb0.cell (block_lt hc), hc, ← hv]
        simp [List.getD, hzj]
    have HG : Hid (w0.heap[w.heap.size]? = some (.cells cur.toList.toArray 3 (0, 0))) := by rw [Hid, hgg]
    have HN : Hid ((zs.map (Value.int .i64)).length = Nat.min zs.length zs.length) := by rw [Hid, List.length_map]; exact (Nat.min_self _).symm
    have HFt : Hid (0 + (zs.map (Value.int .i64)).length ≤ cur.toList.length) := by rw [Hid, List.length_map, hcl]; omega
    have H1 : Hid (∀ v ∈ zs.map (Value.int .i64), v.oneCell' = true) := fun v hv => by obtain ⟨z, _, rfl⟩ := List.mem_map.1 hv; rfl
    have HSP : Hid (splice cur.toList 0 (zs.map (Value.int .i64)) = zs.map (Value.int .i64)) := by
      unfold Hid splice
      rw [List.take_zero, List.nil_append, Nat.zero_add, List.drop_eq_nil_of_le (by rw [hcl, List.length_map]; exact Nat.le_refl _), List.append_nil]
    clear hlen htk hcs hgg hgrow0 hcell hn hm
    have key : ∀ {ops : Array Oper} {rest : List Oper} {o : Oper} {act : Act} {Q : Exit → Act → World → Prop}, o.guard = none → o.op = .call { callee := .builtin .copy, args := #[.tmp 10, .tmp 11], argTypes := #[24, 24] } → act.eval (.tmp 10) = .slice (some ⟨w.heap.size, 0, none⟩) zs.length zs.length → act.eval (.tmp 11) = .slice (some ⟨b, off, none⟩) zs.length cap → (∀ w1, OwnI w1 w.heap.size w1.heap.size (some ⟨w.heap.size, 0, none⟩) zs.length zs → Below w.heap.size w w1 → wpList Tryd.prog ops Q rest (act.put o.dst (goInt (zs.map (Value.int .i64)).length)) w1) → wpList Tryd.prog ops Q (o :: rest) act w0 := by
      intro ops rest o act Q h1 h2 h3 h4 h5
      refine wpList_copy_splice h1 (.tmp 10) (.tmp 11) 24 24 h2 3 Tryd.underlying24 hsz _ _ zs.length zs.length zs.length cap h3 h4 w.heap.size 0 cur.toList 3 HG.out (zs.map (Value.int .i64)) HN.out HC.out HFt.out H1.out w.heap.size w hb0 (Nat.le_refl _) ?_
      intro w1 hrow hb1
      refine h5 w1 ?_ hb1
      have h := hrow.out
      rw [HSP.out] at h
      refine ⟨⟨by simp, .inr ⟨w.heap.size, zs.length, _, rfl, Nat.le_refl _, h, Nat.le_refl _, by simp [maxLen]; omega, by simp, by simp; exact List.take_of_length_le (by simp)⟩⟩, Nat.le_refl _, fun k hk => ?_⟩
      cases hk
      exact (Array.getElem?_eq_some_iff.1 h).1
    have KEY : Hid _ := @key
    clear key HG HN HFt H1 HSP HC hcl
    go_wp2_with (guard_target = wpList _ _ _ (Oper.mk (some 12) _ _ _ _ _ :: _) _ _; refine KEY.out rfl rfl rfl rfl ?_; intro w1 HO hb1)
    go_ret
    exact ⟨_, _, rfl, HO, hb1⟩
end Go.Proofs.YtbaocehcnjdkkaaDoor

/- The walk of impl.copySlot. -/
namespace Go.Proofs.YtbaocehcnjdkkaaDoor
open Go.RowKit

set_option maxHeartbeats 4000000 in
set_option maxRecDepth 100000 in
theorem copySlot_own (s : SlotA) (w : World) (hr : s.reads w) (hlI : s.v.o.ints.length ≤ 1099511627776) (hlR : s.v.o.refs.length ≤ 1099511627776) :
    Calls Tryd.prog 46 #[.agg s.cells.toArray] w fun e w' => ∃ t : SlotA, e = .returned (.agg t.cells.toArray) ∧ Hid (t.v = s.v) ∧ t.own w' w.heap.size w'.heap.size ∧ Below w.heap.size w w' := by
  obtain ⟨⟨h, ⟨k, ints, refs⟩⟩, aI, cI, aR, cR⟩ := s
  simp only [SlotA.cells, SlotA.reads, SlotA.own] at *
  obtain ⟨hI, hR, _, _⟩ := hr
  simp only at hI hR
  obtain ⟨W, hW, b0, b1, hbW, hsW⟩ := boxes2 w [.bool h, .int .i64 k, .slice aI ints.length cI, .slice aR refs.length cR] [.bool false, .int .i64 0, .slice none 0 0, .slice none 0 0] 28 28
  have hI' := hI.below hbW
  have hR' := hR.below hbW
  have hwW : w.heap.size + 1 < W.heap.size := by omega
  clear hsW hI hR
  have HC : Hid (∀ w'', Below W.heap.size W w'' → w''.cell? ⟨w.heap.size, 0, none⟩ = some (.bool h) ∧ w''.cell? ⟨w.heap.size, 1, none⟩ = some (.int .i64 k) ∧ w''.cell? ⟨w.heap.size, 2, none⟩ = some (.slice aI ints.length cI) ∧ w''.cell? ⟨w.heap.size, 3, none⟩ = some (.slice aR refs.length cR)) := by
    intro w'' hh
    have ba := b0.below hh b0.lt
    exact ⟨ba.cell 0 _ rfl, ba.cell 1 _ rfl, ba.cell 2 _ rfl, ba.cell 3 _ rfl⟩
  have HB : Hid (∀ w'', Below W.heap.size W w'' → Box w'' w.heap.size [.bool h, .int .i64 k, .slice aI ints.length cI, .slice aR refs.length cR] 28 ∧ Box w'' (w.heap.size + 1) [.bool false, .int .i64 0, .slice none 0 0, .slice none 0 0] 28) := fun w'' hh => ⟨b0.below hh b0.lt, b1.below hh b1.lt⟩
  have hh := HC.out W (Below.refl _ _)
  have hne : ¬ (w.heap.size = w.heap.size + 1) := by omega
  clear b0 b1
  go_enter Tryd.func46, Tryd.ntmps46
  go_wp2_with fail
  rw [hW.out]
  clear hW
  go_region_held3 (fun w'' => w''.cell? ⟨w.heap.size, 0, none⟩ = some (.bool h) ∧ w''.cell? ⟨w.heap.size, 1, none⟩ = some (.int .i64 k) ∧ w''.cell? ⟨w.heap.size, 2, none⟩ = some (.slice aI ints.length cI) ∧ w''.cell? ⟨w.heap.size, 3, none⟩ = some (.slice aR refs.length cR))
    (first | exact HC.out _ hB2 | exact HC.out _ hB1 | exact HC.out _ (Below.refl _ _).drew | exact ⟨(((((HB.out _ (by first | exact hBL | fail)).1.other hne).other hne).other hne).other hne).cell 0 _ rfl, (((((HB.out _ (by first | exact hBL | fail)).1.other hne).other hne).other hne).other hne).cell 1 _ rfl, (((((HB.out _ (by first | exact hBL | fail)).1.other hne).other hne).other hne).other hne).cell 2 _ rfl, (((((HB.out _ (by first | exact hBL | fail)).1.other hne).other hne).other hne).other hne).cell 3 _ rfl⟩ | go_keep | fail)
    (first
    | (go_at_call_of 84 (Value.slice aI ints.length cI); refine (copyInts_any aI cI ints _ (hI'.below (by first | exact hB2 | exact (Below.refl _ _).drew | fail)) hlI).mono ?_; rintro e u1 ⟨a1, c1, rfl, ho1, hb1⟩; have hB1 : Below W.heap.size W u1 := (by first | exact hB2.trans (hb1.mono hB2.size) | exact ((Below.refl _ _).drew).trans hb1 | fail); have hBL := hB1; obtain ⟨m0, m1, m2, m3, e0, e1, e2, e3⟩ := (HB.out _ hB1).2.four)
    | (go_at_call_of 84 (Value.slice aR refs.length cR); refine (copyInts_any aR cR refs _ (hR'.below (by first | exact hB1 | exact (Below.refl _ _).drew | fail)) hlR).mono ?_; rintro e u2 ⟨a2, c2, rfl, ho2, hb2⟩; have hB2 : Below W.heap.size W u2 := (by first | exact hB1.trans (hb2.mono hB1.size) | exact ((Below.refl _ _).drew).trans hb2 | fail); have hBL := hB2; obtain ⟨n0, n1, n2, n3, f0, f1, f2, f3⟩ := (HB.out _ hB2).2.four)
    | fail)
  obtain ⟨WF, hWF, bF, hwF, hsF⟩ := box4_fill (HB.out _ hB2).2 (.bool h) (.int .i64 k) (.slice a1 ints.length c1) (.slice a2 refs.length c2)
  have ho1' : OwnI u1 W.heap.size u1.heap.size a1 c1 ints := ho1
  have hsu1 : W.heap.size ≤ u1.heap.size := hB1.size
  have hsu2 := hb2.size
  have hO : OwnO u2 W.heap.size u2.heap.size a1 c1 a2 c2 ⟨k, ints, refs⟩ := ⟨(ho1'.below hb2).widen (Nat.le_refl _) hsu2 (Nat.le_refl _), ho2.widen hsu1 (Nat.le_refl _) (Nat.le_refl _), fun j hj hj' => by have h1 := (ho1'.lt j hj).2; have h2 := (ho2.lt j hj').1; omega⟩
  have hOF : OwnO WF W.heap.size u2.heap.size a1 c1 a2 c2 ⟨k, ints, refs⟩ := hO.within hwF (.inr (by omega))
  have HBF : Hid (Below w.heap.size w WF) := (hbW.trans (hB2.mono (by omega))).trans (hwF.below (by omega) (by omega))
  rw [hWF.out]
  clear hwF ho1 ho2 ho1' hO
  go_wp2
  obtain ⟨q0, q1, q2, q3, _⟩ := bF.four
  exact bodyPost_ret (v := .agg #[.bool h, .int .i64 k, .slice a1 ints.length c1, .slice a2 refs.length c2]) (by simp [results, Tryd.results46, go_sem, q0, q1, q2, q3]) rfl ⟨⟨⟨h, ⟨k, ints, refs⟩⟩, a1, c1, a2, c2⟩, rfl, rfl, hOF.widen (by omega) (by omega) (Nat.le_refl _), HBF.out⟩
end Go.Proofs.YtbaocehcnjdkkaaDoor

/- The walks of spec.l3CopySlot and spec.l3Copy. -/
namespace Go.Proofs.YtbaocehcnjdkkaaDoor
open Go.RowKit

set_option maxHeartbeats 4000000 in
set_option maxRecDepth 100000 in
theorem l3CopySlot_own (s : SlotA) (w : World) (hr : s.reads w) (hlI : s.v.o.ints.length ≤ 1099511627776) (hlR : s.v.o.refs.length ≤ 1099511627776) :
    Calls Tryd.prog 51 #[.agg s.cells.toArray] w fun e w' => ∃ t : SlotA, e = .returned (.agg t.cells.toArray) ∧ Hid (t.v = s.v) ∧ t.own w' w.heap.size w'.heap.size ∧ Below w.heap.size w w' := by
  obtain ⟨⟨h, ⟨k, ints, refs⟩⟩, aI, cI, aR, cR⟩ := s
  simp only [SlotA.cells, SlotA.reads, SlotA.own] at *
  obtain ⟨W, hW, b0, b1, hbW, hsW⟩ := boxes2 w [.bool h, .int .i64 k, .slice aI ints.length cI, .slice aR refs.length cR] [.bool false, .int .i64 0, .slice none 0 0, .slice none 0 0] 28 28
  have hr' := hr.below hbW
  have hwW : w.heap.size + 1 < W.heap.size := by omega
  clear hsW
  have HC : Hid (∀ w'', Below W.heap.size W w'' → w''.cell? ⟨w.heap.size, 0, none⟩ = some (.bool h) ∧ w''.cell? ⟨w.heap.size, 1, none⟩ = some (.int .i64 k) ∧ w''.cell? ⟨w.heap.size, 2, none⟩ = some (.slice aI ints.length cI) ∧ w''.cell? ⟨w.heap.size, 3, none⟩ = some (.slice aR refs.length cR)) := by
    intro w'' hh
    have ba := b0.below hh b0.lt
    exact ⟨ba.cell 0 _ rfl, ba.cell 1 _ rfl, ba.cell 2 _ rfl, ba.cell 3 _ rfl⟩
  have HB : Hid (∀ w'', Below W.heap.size W w'' → Box w'' w.heap.size [.bool h, .int .i64 k, .slice aI ints.length cI, .slice aR refs.length cR] 28 ∧ Box w'' (w.heap.size + 1) [.bool false, .int .i64 0, .slice none 0 0, .slice none 0 0] 28) := fun w'' hh => ⟨b0.below hh b0.lt, b1.below hh b1.lt⟩
  have hh := HC.out W (Below.refl _ _)
  have hne : ¬ (w.heap.size = w.heap.size + 1) := by omega
  clear b0 b1
  go_enter Tryd.func51, Tryd.ntmps51
  go_wp2_with fail
  rw [hW.out]
  clear hW
  go_region_held3 (fun w'' => w''.cell? ⟨w.heap.size, 0, none⟩ = some (.bool h) ∧ w''.cell? ⟨w.heap.size, 1, none⟩ = some (.int .i64 k) ∧ w''.cell? ⟨w.heap.size, 2, none⟩ = some (.slice aI ints.length cI) ∧ w''.cell? ⟨w.heap.size, 3, none⟩ = some (.slice aR refs.length cR))
    (first | exact HC.out _ hB1 | exact HC.out _ (Below.refl _ _).drew | exact ⟨(((((HB.out _ (by first | exact hB1 | fail)).1.other hne).other hne).other hne).other hne).cell 0 _ rfl, (((((HB.out _ (by first | exact hB1 | fail)).1.other hne).other hne).other hne).other hne).cell 1 _ rfl, (((((HB.out _ (by first | exact hB1 | fail)).1.other hne).other hne).other hne).other hne).cell 2 _ rfl, (((((HB.out _ (by first | exact hB1 | fail)).1.other hne).other hne).other hne).other hne).cell 3 _ rfl⟩ | go_keep | fail)
    (first
    | (go_at_call 89; refine (l2Copy_any ⟨k, ints, refs⟩ aI cI aR cR _ hr'.drew hlI hlR).mono ?_; rintro e u1 ⟨a1, c1, a2, c2, rfl, ho1, hb1⟩; have hB1 : Below W.heap.size W u1 := ((Below.refl _ _).drew).trans hb1; obtain ⟨m0, m1, m2, m3, e0, e1, e2, e3⟩ := (HB.out _ hB1).2.four)
    | fail)
  obtain ⟨WF, hWF, bF, hwF, hsF⟩ := box4_fill (HB.out _ hB1).2 (.bool h) (.int .i64 k) (.slice a1 ints.length c1) (.slice a2 refs.length c2)
  have hsu1 : W.heap.size ≤ u1.heap.size := hB1.size
  have hO : OwnO u1 W.heap.size u1.heap.size a1 c1 a2 c2 ⟨k, ints, refs⟩ := ho1
  have hOF : OwnO WF W.heap.size u1.heap.size a1 c1 a2 c2 ⟨k, ints, refs⟩ := hO.within hwF (.inr (by omega))
  have HBF : Hid (Below w.heap.size w WF) := (hbW.trans (hB1.mono (by omega))).trans (hwF.below (by omega) (by omega))
  rw [hWF.out]
  clear hwF ho1 hO
  go_wp2
  obtain ⟨q0, q1, q2, q3, _⟩ := bF.four
  exact bodyPost_ret (v := .agg #[.bool h, .int .i64 k, .slice a1 ints.length c1, .slice a2 refs.length c2]) (by simp [results, Tryd.results51, go_sem, q0, q1, q2, q3]) rfl ⟨⟨⟨h, ⟨k, ints, refs⟩⟩, a1, c1, a2, c2⟩, rfl, rfl, hOF.widen (by omega) (by omega) (Nat.le_refl _), HBF.out⟩

set_option maxHeartbeats 2000000 in
set_option maxRecDepth 100000 in
theorem l3Copy_own (p : PageA) (h4 : p.ss.length = 4) (w : World) (hr : ReadsS w p.ss) (hl : Fit p.ss) :
    Calls Tryd.prog 50 #[.agg p.cells.toArray] w fun e w' => ∃ ts : List SlotA, e = .returned (.agg (PageA.cells ⟨p.lsn, ts⟩).toArray) ∧ Hid (ts.map (·.v) = p.ss.map (·.v)) ∧ OwnS w' w.heap.size w'.heap.size ts ∧ Below w.heap.size w w' := by
  obtain ⟨n, ss⟩ := p
  simp only [PageA.cells] at *
  obtain ⟨W, hW, b0, b1, b2, hbW, hsW⟩ := boxes3 w (.int .i64 n :: cellsS ss) [.int .i64 0, .bool false, .int .i64 0, .slice none 0 0, .slice none 0 0, .bool false, .int .i64 0, .slice none 0 0, .slice none 0 0, .bool false, .int .i64 0, .slice none 0 0, .slice none 0 0, .bool false, .int .i64 0, .slice none 0 0, .slice none 0 0] [.int .i64 n, .bool false, .int .i64 0, .slice none 0 0, .slice none 0 0, .bool false, .int .i64 0, .slice none 0 0, .slice none 0 0, .bool false, .int .i64 0, .slice none 0 0, .slice none 0 0, .bool false, .int .i64 0, .slice none 0 0, .slice none 0 0] 31 31 31
  have b1' : Box W (w.heap.size + 1) ([] ++ ((.int .i64 0 :: cellsS zero4) ++ [])) 31 := b1
  have b2' : Box W (w.heap.size + 1 + 1) (.int .i64 n :: cellsS ([] ++ List.replicate (4 - 0) zeroS)) 31 := b2
  have hsW' : w.heap.size + 1 + 1 < W.heap.size := by omega
  have hc0 : (((w.alloc (.cells (.int .i64 n :: cellsS ss).toArray 31)).alloc (.cells #[.int .i64 0, .bool false, .int .i64 0, .slice none 0 0, .slice none 0 0, .bool false, .int .i64 0, .slice none 0 0, .slice none 0 0, .bool false, .int .i64 0, .slice none 0 0, .slice none 0 0, .bool false, .int .i64 0, .slice none 0 0, .slice none 0 0] 31))).cell? ⟨w.heap.size, 0, none⟩ = some (.int .i64 n) := ((box_new w (.int .i64 n :: cellsS ss) 31).alloc _).cell 0 _ rfl
  have H4 : Hid (ss.length = 4) := h4
  clear b1 b2 hsW h4
  go_enter Tryd.func50, Tryd.ntmps50
  go_wp2_with fail
  rw [hW.out]
  clear hW hc0
  go_loopw [4] (fun i wr => ∃ (k : Nat) (ts : List SlotA), i = .int .i64 k ∧ k ≤ 4 ∧ Hid (ts.length = k ∧ ts.map (·.v) = (ss.take k).map (·.v)) ∧ OwnS wr W.heap.size wr.heap.size ts ∧ Box wr (w.heap.size + 1 + 1) (.int .i64 n :: cellsS (ts ++ List.replicate (4 - k) zeroS)) 31 ∧ Below (w.heap.size + 1 + 1) W wr)
    (fun i _ => 4 - (intOf i).toNat)
  case atStart => exact ⟨0, [], rfl, by omega, ⟨rfl, rfl⟩, OwnS.nil _ _ _, b2', Below.refl _ _⟩
  case round =>
    obtain ⟨k, ts, rfl, hk, hts, hown, hbox, hbl⟩ := hrel
    clear b2'
    have b0r := b0.below hbl (by omega)
    have b1r := b1'.below hbl (by omega)
    have hsr := hbl.size
    have hsz := hbox.lt
    by_cases hlt : k < 4
    · have hkl : k < ss.length := by rw [H4.out]; exact hlt
      obtain ⟨c0, c1, c2, c3, _⟩ := b0r.pslot k hkl
      have hi0 : (0 : Int) ≤ (k : Int) := by omega
      have hi4 : (k : Int) < 4 := by omega
      have hrk := (hr _ (getD_mem hkl)).below (hbW.trans (hbl.mono (by omega)))
      have hlk := hl _ (getD_mem hkl)
      have HV : Hid ((ss.take (k + 1)).map (·.v) = (ss.take k).map (·.v) ++ [(ss.getD k zeroS).v]) := by
        rw [Hid, List.take_add_one, List.map_append]
        simp [List.getD, hkl]
      generalize ss.getD k zeroS = s at *
      have C := l3CopySlot_own s wr hrk hlk.1 hlk.2
      simp only [SlotA.cells] at C
      go_wp2_with fail
      refine C.mono ?_
      clear C hrk hlk c0 c1 c2 c3
      rintro e w1 ⟨t, rfl, hv, ho, hb1⟩
      have hs1 := hb1.size
      have hbx := hbox.below hb1 hsz
      have hkt : k < (ts ++ List.replicate (4 - k) zeroS).length := by have := hts.out.1; simp; omega
      obtain ⟨W2, hW2, b2, hw2, hs2⟩ := pslot_fill hbx k hkt t
      obtain ⟨x0, x1, x2, x3, hfz⟩ := hbx.pslot k hkt
      have f0 := hfz (1 + k * 4)
      have f1 := hfz (1 + k * 4 + 1)
      have f2 := hfz (1 + k * 4 + 2)
      have f3 := hfz (1 + k * 4 + 3)
      generalize (ts ++ List.replicate (4 - k) zeroS).getD k zeroS = old at *
      have b2' : Box W2 (w.heap.size + 1 + 1) (.int .i64 n :: cellsS ((ts ++ [t]) ++ List.replicate (4 - (k + 1)) zeroS)) 31 := by
        rw [show 4 - k = (4 - (k + 1)) + 1 by omega] at b2
        have e := set_snoc ts (4 - (k + 1)) t
        rw [hts.out.1] at e
        rw [e] at b2
        exact b2
      have hO1 : OwnS w1 W.heap.size w1.heap.size (ts ++ [t]) := (hown.below hb1).snoc ho hsr hs1 (Nat.le_refl _)
      have hO2 : OwnS W2 W.heap.size W2.heap.size (ts ++ [t]) := (hO1.within hw2 (.inr (by omega))).widen (Nat.le_refl _) (by omega) (Nat.le_refl _)
      have hB2 : Below (w.heap.size + 1 + 1) W W2 := (hbl.trans (hb1.mono (by omega))).trans (hw2.below (Nat.le_refl _) (by omega))
      have HT : Hid ((ts ++ [t]).length = k + 1 ∧ (ts ++ [t]).map (·.v) = (ss.take (k + 1)).map (·.v)) := by
        refine ⟨by have := hts.out.1; simp; omega, ?_⟩
        rw [HV.out, List.map_append, hts.out.2, ← hv.out]
        rfl
      clear hfz hs2 hw2 b2 hO1 hown hbox hbx hts HV hkt hb1 ho
      go_wp2_with fail
      rw [hW2.out]
      go_roundw
      case rel => exact ⟨k + 1, ts ++ [t], by go_num, by omega, HT, hO2, b2', hB2⟩
      case measure => simp [intOf]; omega
    · obtain rfl : k = 4 := by omega
      have hkk : ¬ ((4 : Nat) : Int) < 4 := by omega
      have hrp : ts ++ List.replicate (4 - 4) zeroS = ts := by simp
      rw [hrp] at hbox
      have htl : ts.length = 4 := hts.out.1
      have HMV : Hid (ts.map (·.v) = ss.map (·.v)) := by rw [Hid, hts.out.2, List.take_of_length_le (by rw [H4.out]; omega)]
      obtain ⟨WF, hWF, bF, hwF, hsF⟩ := range_fill [] (.int .i64 0 :: cellsS zero4) (.int .i64 n :: cellsS ts) [] b1r (by simp only [List.length_cons, cellsS_len, htl]; rfl)
      have HWF : Hid (wr.setCells (w.heap.size + 1) 0 (.int .i64 n :: cellsS ts) = WF) := hWF.out
      have HR2 : Hid (wr.rangeAt (w.heap.size + 1 + 1) 0 (.int .i64 n :: cellsS ts)) := Box.range [] (.int .i64 n :: cellsS ts) [] (by simpa using hbox)
      have HTF : Hid (wr.there (w.heap.size + 1) 0 (.int .i64 n :: cellsS ts).toArray.size) := b1r.there 0 _ (by simp only [List.size_toArray, cellsS_len, htl, List.length_append, List.length_cons, List.length_nil]; decide)
      have hrF : WF.rangeAt (w.heap.size + 1) 0 (.int .i64 n :: cellsS ts) := Box.range [] (.int .i64 n :: cellsS ts) [] (by simpa using bF)
      have HI : Hid ((Tryd.prog.info? 31).map (·.size) = some (.int .i64 n :: cellsS ts).length) := by rw [Hid, List.length_cons, cellsS_len, htl]; kernel_rfl
      have HO : Hid (_) := all_oneCell_toArray (oneP ⟨n, ts⟩)
      have HLF : Hid (_) := run_loadVar_mid (P := Tryd.prog) _ (w.heap.size + 1) 0 31 (.int .i64 n :: cellsS ts) _ hrF Tryd.underlying31 rfl HI.out
      have HOF : Hid (OwnS WF w.heap.size WF.heap.size ts) := (hown.within hwF (.inr (by omega))).widen (by omega) (by omega) (Nat.le_refl _)
      have HBF : Hid (Below w.heap.size w WF) := (hbW.trans (hbl.mono (by omega))).trans (hwF.below (by omega) (by omega))
      simp only [PageA.cells] at HO
      clear hWF bF hwF hsF hrF hrp htl hbox hown hts
      go_wp2_with (first | (guard_target = wpList _ _ _ (Oper.mk (some 20) _ _ _ _ _ :: _) _ _; refine wpList_load_mid rfl 31 (.tmp 3) rfl (w.heap.size + 1 + 1) 0 rfl (.int .i64 n :: cellsS ts) _ HR2.out Tryd.underlying31 rfl HI.out ?_) | (guard_target = wpList _ _ _ (Oper.mk none (Op.store _ (Operand.tmp 2) _) _ _ _ _ :: _) _ _; refine wpList_store_mid rfl 31 (.tmp 2) (.tmp 20) rfl (w.heap.size + 1) 0 (.int .i64 n :: cellsS ts).toArray rfl rfl HTF.out (by rw [List.size_toArray]; exact HI.out) HO.out ?_) | fail)
      rw [HWF.out]
      exact bodyPost_ret (v := .agg (.int .i64 n :: cellsS ts).toArray) (results_one Tryd.results50 rfl HLF.out) rfl ⟨ts, rfl, HMV, HOF.out, HBF.out⟩
end Go.Proofs.YtbaocehcnjdkkaaDoor

/- The walk of laws.big. -/
namespace Go.Proofs.YtbaocehcnjdkkaaDoor
open Go.RowKit

set_option maxHeartbeats 400000 in
theorem big_any (a : Option Addr) (c n : Nat) (w : World) : Calls Tryd.prog 8 #[.slice a n c] w fun e w' => e = .returned (.bool (decide (1048576 < n))) ∧ w' = w := by
  by_cases h : 1048576 < n
  · have HB : Hid (decide (1048576 < n) = true) := decide_eq_true h
    go_enter Tryd.func8, Tryd.ntmps8
    go_wp2
    go_ret
    exact ⟨by rw [HB.out]; exact ret_bool (decide_eq_true (by omega)), rfl⟩
  · have HB : Hid (decide (1048576 < n) = false) := decide_eq_false h
    go_enter Tryd.func8, Tryd.ntmps8
    go_wp2
    go_ret
    exact ⟨by rw [HB.out]; exact ret_bool (decide_eq_false (by omega)), rfl⟩

end Go.Proofs.YtbaocehcnjdkkaaDoor
