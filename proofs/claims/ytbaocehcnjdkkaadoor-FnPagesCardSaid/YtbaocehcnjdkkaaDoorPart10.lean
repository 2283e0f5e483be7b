/- Several texts in one, in their order. -/
import Derived.Test.YtbaocehcnjdkkaaDoorPart9
import Derived.Test.YtbaocehcnjdkkaaDoorPart5
import Derived.Test.YtbaocehcnjdkkaaDoorPart4
import Derived.Test.YtbaocehcnjdkkaaDoorPart6
import Derived.Test.YtbaocehcnjdkkaaDoorPart1
import Derived.Test.YtbaocehcnjdkkaaDoorPart7
import Derived.Deep.RegionHeld3
import Derived.Lib.ConvBytes
import Derived.Test.YtbaocehcnjdkkaaDoorPart8
import Derived.Deep.CutRange
import Derived.Test.YtbaocehcnjdkkaaDoorPart3
/- The walks of impl.putSlot and impl.PutPage. -/
namespace Go.Proofs.YtbaocehcnjdkkaaDoor
open Go.RowKit

theorem strOf_size (y : List Int) : (strOf y).size = y.length := by simp [strOf, ByteArray.size]
theorem sBytes_strOf (y : List Int) (h : Bytes y) : sBytes (strOf y) = y := by
  unfold sBytes strOf
  simp only [List.map_map]
  conv => rhs; rw [← List.map_id y]
  apply List.map_congr_left
  intro z hz
  have := h z hz
  simp
  omega
theorem putText_put (o : ObjV) : putTextOf (strOf (putObjOf o)) = putOf (putObjOf o).length ++ putObjOf o := by
  unfold putTextOf
  rw [strOf_size, sBytes_strOf _ (putObj_byte o)]
theorem flatS_take (ss : List SlotA) (k : Nat) (h : k < ss.length) : ((ss.take (k + 1)).map (·.v)).flatMap putSlotOf = ((ss.take k).map (·.v)).flatMap putSlotOf ++ putSlotOf (ss.getD k zeroS).v := by
  rw [List.take_add_one, List.map_append, List.flatMap_append]
  simp [List.getD, h]

set_option maxHeartbeats 400000 in
set_option maxRecDepth 100000 in
theorem putSlot_any (a : Option Addr) (c : Nat) (xs : List Int) (s : SlotA) (w : World) (hg : ErrT w) (hx : Reads w a xs) (hc : a = none → c = 0) (hr : s.reads w) (hl : Fit [s]) (hxl : xs.length ≤ 1000000) :
    Calls Tryd.prog 40 #[.slice a xs.length c, .agg s.cells.toArray] w fun e w' => ∃ a' c' ys, e = .returned (.slice a' ys.length c') ∧ Hid (ys = xs ++ (putOf (putObjOf s.v.o).length ++ putObjOf s.v.o)) ∧ OwnB w' w.heap.size a' c' ys ∧ Below w.heap.size w w' := by
  obtain ⟨h1, h2⟩ := hl s (List.mem_singleton.2 rfl)
  obtain ⟨W, hW, b0, hbW, hsW⟩ := boxes1 w s.cells 28
  have C1 := implPutObj_any s.v.o s.aI s.cI s.aR s.cR W (hg.keep hbW) (ReadsO.below hr hbW) (by omega) (by omega)
  have HT : Hid (_ = _) := putText_put s.v.o
  have hpl := putObj_len s.v.o
  have HC : Hid (a = none → c = 0) := hc
  simp only [SlotA.cells] at *
  clear hc
  go_enter Tryd.func40, Tryd.ntmps40
  go_wp2_with fail
  rw [hW.out]
  refine C1.mono ?_
  rintro e w1 ⟨a1, c1, y1, rfl, HY1, ho1, hb1⟩
  have hcv := run_text_own ho1
  have B1 : Below w.heap.size w w1 := hbW.trans (hb1.mono hbW.size)
  have hyl : (strOf y1).size ≤ 1000 := by rw [strOf_size, HY1.out]; exact hpl
  have HS : Hid (putTextOf (strOf y1) = putOf (putObjOf s.v.o).length ++ putObjOf s.v.o) := by rw [Hid, HY1.out]; exact HT.out
  generalize strOf y1 = t1 at *
  clear C1 HT
  go_wp2_with fail
  refine (implPutText_any a c xs t1 w1 (hx.below B1) HC.out (by omega)).mono ?_
  rintro e w2 ⟨a2, c2, y2, rfl, hy2, ho2, hb2⟩
  have HY2 : Hid (y2 = xs ++ (putOf (putObjOf s.v.o).length ++ putObjOf s.v.o)) := by rw [Hid, hy2, HS.out]
  clear hy2
  go_wp2
  go_ret
  exact ⟨a2, c2, y2, rfl, HY2, ho2.base B1.size, B1.trans (hb2.mono B1.size)⟩

set_option maxHeartbeats 1000000 in
set_option maxRecDepth 100000 in
theorem implPutPage_any (p : PageA) (h4 : p.ss.length = 4) (w : World) (hg : ErrT w) (hr : ReadsS w p.ss) (hl : Fit p.ss) :
    Calls Tryd.prog 10 #[.agg p.cells.toArray] w fun e w' => ∃ a' c' ys, e = .returned (.slice a' ys.length c') ∧ Hid (ys = putPageOf p.lsn (p.ss.map (·.v))) ∧ OwnB w' w.heap.size a' c' ys ∧ Below w.heap.size w w' := by
  obtain ⟨W, hW, b0, hbW, hsW⟩ := boxes1 w p.cells 31
  have hrg : W.rangeAt w.heap.size 0 p.cells := Box.range [] p.cells [] (by simpa using b0)
  have hi : (Tryd.prog.info? 31).map (·.size) = some p.cells.length := by rw [page_len p h4]; kernel_rfl
  have C1 := implPageOk_any p h4 W (hg.keep hbW) (hr.below hbW) hl
  have HPT : Hid (okP p.lsn (p.ss.map (·.v)) = true → putPageOf p.lsn (p.ss.map (·.v)) = frameOf (bodyOf p.lsn (p.ss.map (·.v)))) := fun h => putP_ok h
  have HPF : Hid (okP p.lsn (p.ss.map (·.v)) = false → putPageOf p.lsn (p.ss.map (·.v)) = []) := fun h => by unfold putPageOf; rw [if_neg (by rw [h]; decide)]
  have HSB : Hid (okP p.lsn (p.ss.map (·.v)) = true → ∀ s ∈ p.ss, slotB s.v = true) := fun h s hs => (okP_bd h).1 s.v (List.mem_map.2 ⟨s, hs, rfl⟩)
  generalize putPageOf p.lsn (p.ss.map (·.v)) = R at *
  go_enter Tryd.func10, Tryd.ntmps10
  go_wp2_with (first | (guard_target = wpList _ _ _ (Oper.mk (some 6) _ _ _ _ _ :: _) _ _; refine wpList_load_mid rfl 31 (.tmp 1) rfl w.heap.size 0 rfl p.cells _ (by rw [hW.out]; exact hrg) Tryd.underlying31 rfl hi ?_) | fail)
  rw [hW.out]
  clear hW hrg hi hsW
  refine C1.mono ?_
  clear C1
  rintro e w1 ⟨rfl, hb1⟩
  have B1 : Below w.heap.size w w1 := hbW.trans (hb1.mono hbW.size)
  have b1 := b0.below hb1 b0.lt
  cases hok : okP p.lsn (p.ss.map (·.v)) with
  | false =>
    have HR : Hid (R = []) := HPF.out hok
    clear hok HPT HSB
    go_wp2
    go_ret
    exact ⟨_, 0, [], rfl, HR.out.symm, (own_lit0 w1).base B1.size, B1.alloc B1.size _⟩
  | true =>
    have HR : Hid (_ = _) := HPT.out hok
    have HSB' : Hid (_) := HSB.out hok
    clear hok HPF HPT HSB
    obtain ⟨n, ss⟩ := p
    simp only [PageA.cells] at *
    have H4 : Hid (ss.length = 4) := h4
    have HX := run_index_slot ss h4
    have hrg1 : ∀ w', Below w1.heap.size w1 w' → w'.rangeAt w.heap.size 1 (cellsS ss) := fun w' hh => Box.range [.int .i64 n] (cellsS ss) [] (by simpa using b1.below hh b1.lt)
    have hi4 : (Tryd.prog.info? 29).map (·.size) = some (cellsS ss).length := by rw [cellsS_len, h4]; kernel_rfl
    have x0 := b1.cell 0 _ rfl
    clear h4
    go_wp2_with fail
    refine (putInts_any none 0 [] _ _ [n] _ ⟨by simp, by simp⟩ (fun _ => rfl) (readsI_one w1 n _) (by simp)).mono ?_
    rintro e w2 ⟨a2, c2, y2, rfl, hy2, ho2, hb2⟩
    have hbA : Below w1.heap.size w1 (w1.alloc (.cells #[.int .i64 n] 3)) := (Below.refl _ _).alloc (Nat.le_refl _) _
    have N2 : Below w1.heap.size w1 w2 := hbA.trans (hb2.mono hbA.size)
    have B2 : Below w.heap.size w w2 := B1.trans (N2.mono B1.size)
    have HY2 : Hid (y2 = putOf n ++ ((ss.take 0).map (·.v)).flatMap putSlotOf) := by rw [Hid, hy2]; simp
    have ho2' : OwnB w2 w.heap.size a2 c2 y2 := ho2.base (Nat.le_trans B1.size hbA.size)
    have hrg2 := hrg1 w2 N2
    clear hy2 hbA hb2 ho2 x0 hrg1
    go_wp2_with (first | (guard_target = wpList _ _ _ (Oper.mk (some 15) _ _ _ _ _ :: _) _ _; refine wpList_load_mid rfl 29 (.tmp 14) rfl w.heap.size 1 rfl (cellsS ss) _ hrg2 Tryd.underlying29 rfl hi4 ?_) | fail)
    clear hrg2 hi4
    go_loopw [3, 16] (fun b i wr => ∃ (a' : Option Addr) (c' : Nat) (ys : List Int) (k : Nat), b = .slice a' ys.length c' ∧ i = .int .i64 k ∧ k ≤ 4 ∧ Hid (ys = putOf n ++ ((ss.take k).map (·.v)).flatMap putSlotOf) ∧ OwnB wr w.heap.size a' c' ys ∧ Below w.heap.size w wr)
      (fun _ i _ => 4 - (intOf i).toNat)
    case atStart => exact ⟨a2, c2, y2, 0, rfl, rfl, by omega, HY2, ho2', B2⟩
    case round =>
      obtain ⟨a', c', ys, k, rfl, rfl, hk, hy, ho, hbl⟩ := hrel
      have hyl : ys.length ≤ 100000 := by
        have h1 := flatS_len ((ss.take k).map (·.v))
        have h2 := (putOf_len n).2
        rw [hy.out, List.length_append]
        rw [List.length_map, List.length_take] at h1
        omega
      by_cases hlt : k < 4
      · have hkl : k < ss.length := by rw [H4.out]; exact hlt
        have hx := HX k hlt
        clear HX
        have hrk := (hr _ (getD_mem hkl)).below hbl
        have hlk : Fit [ss.getD k zeroS] := fun s hs => by obtain rfl := List.mem_singleton.1 hs; exact hl _ (getD_mem hkl)
        have HF : Hid (((ss.take (k + 1)).map (·.v)).flatMap putSlotOf = ((ss.take k).map (·.v)).flatMap putSlotOf ++ (putOf (putObjOf (ss.getD k zeroS).v.o).length ++ putObjOf (ss.getD k zeroS).v.o)) := by
          rw [Hid, flatS_take ss k hkl, putSlot_one (HSB'.out _ (getD_mem hkl))]
        generalize ss.getD k zeroS = s at *
        simp only [SlotA.cells] at hx
        obtain ⟨W3, hW3, b3, hb3, hs3⟩ := boxes1 wr [.bool s.v.has, .int .i64 s.v.o.kind, .slice s.aI s.v.o.ints.length s.cI, .slice s.aR s.v.o.refs.length s.cR] 28
        have B3 : Below w.heap.size w W3 := hbl.trans (hb3.mono hbl.size)
        have C := putSlot_any a' c' ys s W3 (hg.keep B3) (ho.reads.below hb3) ho.nocap (ReadsO.below hrk hb3) hlk (by omega)
        simp only [SlotA.cells] at C
        go_wp2_with fail
        rw [hW3.out]
        refine C.mono ?_
        clear C hx
        rintro e w4 ⟨a4, c4, y4, rfl, HY4, ho4, hb4⟩
        have HY : Hid (y4 = putOf n ++ ((ss.take (k + 1)).map (·.v)).flatMap putSlotOf) := by rw [Hid, HY4.out, hy.out, HF.out]; simp only [List.append_assoc]
        go_wp2_with fail
        go_roundw
        case rel => exact ⟨a4, c4, y4, k + 1, rfl, by go_num, by omega, HY, ho4.base B3.size, B3.trans (hb4.mono B3.size)⟩
        case measure => simp [intOf]; omega
      · obtain rfl : k = 4 := by omega
        have hkk : ¬ ((4 : Nat) : Int) < 4 := by omega
        have HYB : Hid (ys = bodyOf n (ss.map (·.v))) := by rw [Hid, hy.out, List.take_of_length_le (by rw [H4.out]; omega)]; rfl
        clear HX
        go_wp2_with fail
        refine (implFrame_any a' c' ys wr ho.reads ho.nocap (by omega)).mono ?_
        rintro e w5 ⟨a5, c5, y5, rfl, hy5, ho5, hb5⟩
        have HY5 : Hid (y5 = R) := by rw [Hid, hy5, HYB.out, HR.out]
        clear hy5
        go_wp2
        go_ret
        exact ⟨a5, c5, y5, rfl, HY5, ho5.base hbl.size, hbl.trans (hb5.mono hbl.size)⟩
end Go.Proofs.YtbaocehcnjdkkaaDoor

/- The walk of impl.readParts. -/
namespace Go.Proofs.YtbaocehcnjdkkaaDoor
open Go.RowKit

/-- What readParts answers. -/
def PartsAns (w' : World) (lo : Nat) (x : Option (List Int × Nat)) (e : Ending) : Prop := match x with
  | some (l, q) => ∃ a' c', e = .returned (.tuple #[.slice a' l.length c', .int .i64 (q : Nat), .nilIface]) ∧ OwnI w' lo w'.heap.size a' c' l
  | none => ∃ s, e = .returned (.tuple #[.slice none 0 0, .int .i64 0, .iface 131 (.agg #[.string s])])
theorem partsAns_none {w' : World} {lo : Nat} {x : Option (List Int × Nat)} (h : x = none) (s : ByteArray) : PartsAns w' lo x (.returned (.tuple #[.slice none 0 0, .int .i64 0, .iface 131 (.agg #[.string s])])) := by
  subst h; exact ⟨s, rfl⟩
theorem partsAns_some {w' : World} {lo : Nat} {x : Option (List Int × Nat)} {l : List Int} {q : Nat} (h : x = some (l, q)) (a' : Option Addr) (c' n : Nat) (hn : n = l.length) (ho : OwnI w' lo w'.heap.size a' c' l) : PartsAns w' lo x (.returned (.tuple #[.slice a' n c', .int .i64 (q : Nat), .nilIface])) := by
  subst h; subst hn; exact ⟨a', c', rfl, ho⟩

theorem partsAt_none {zs : List Int} {p : Nat} (h : getAt zs (p : Int) = none) : partsAt zs p = none := by unfold partsAt; rw [h]
theorem partsAt_bad {zs : List Int} {p q : Nat} {n : Int} (h : getAt zs (p : Int) = some (n, q)) (hn : n < 0 ∨ 5 < n) : partsAt zs p = none := by
  unfold partsAt; rw [h]; simp only; rw [if_neg (by omega)]
theorem partsAt_good {zs : List Int} {p q m : Nat} (h : getAt zs (p : Int) = some ((m : Int), q)) (hm : m ≤ 5) : partsAt zs p = numsAt zs m q := by
  unfold partsAt; rw [h]; simp only; rw [if_pos (by omega), Int.toNat_natCast]

set_option maxHeartbeats 2000000 in
set_option maxRecDepth 100000 in
theorem readParts_any (a : Option Addr) (c : Nat) (zs : List Int) (p : Nat) (w : World) (hr : Reads w a zs) (hl : zs.length ≤ 70368744177664) (hcap : zs.length ≤ c) :
    Calls Tryd.prog 126 #[.slice a zs.length c, .int .i64 p] w fun e w' => PartsAns w' w.heap.size (partsAt zs p) e ∧ Below w.heap.size w w' := by
  cases hg : getAt zs (p : Int) with
  | none =>
    have HX : Hid (_ = _) := partsAt_none hg
    have HG : Hid (_ = _) := hg
    clear hg
    generalize partsAt zs p = X at *
    go_enter Tryd.func126, Tryd.ntmps126
    go_wp2_with fail
    refine (implGetInt_any a c zs p w hr hl hcap).mono ?_
    rintro e w' ⟨rfl, rfl⟩
    rw [HG.out]
    simp only [triple]
    go_wp2
    go_ret3
    exact ⟨partsAns_none HX.out _, Below.refl _ _⟩
  | some t =>
    obtain ⟨n, q⟩ := t
    by_cases hn0 : n < 0
    · have HX : Hid (_ = _) := partsAt_bad hg (.inl hn0)
      have HG : Hid (_ = _) := hg
      clear hg
      generalize partsAt zs p = X at *
      go_enter Tryd.func126, Tryd.ntmps126
      go_wp2_with fail
      refine (implGetInt_any a c zs p w hr hl hcap).mono ?_
      rintro e w' ⟨rfl, rfl⟩
      rw [HG.out]
      simp only [triple]
      go_wp2
      go_ret3
      exact ⟨partsAns_none HX.out _, Below.refl _ _⟩
    by_cases hn5 : 5 < n
    · have HX : Hid (_ = _) := partsAt_bad hg (.inr hn5)
      have HG : Hid (_ = _) := hg
      clear hg
      generalize partsAt zs p = X at *
      go_enter Tryd.func126, Tryd.ntmps126
      go_wp2_with fail
      refine (implGetInt_any a c zs p w hr hl hcap).mono ?_
      rintro e w' ⟨rfl, rfl⟩
      rw [HG.out]
      simp only [triple]
      go_wp2
      go_ret3
      exact ⟨partsAns_none HX.out _, Below.refl _ _⟩
    obtain ⟨m, rfl⟩ : ∃ m : Nat, n = (m : Int) := ⟨n.toNat, by omega⟩
    have hm5 : m ≤ 5 := by omega
    have HX : Hid (onTo [] (numsAt zs (m - 0) q) = partsAt zs p) := by rw [Hid, partsAt_good hg hm5, onTo_nil]; rfl
    have HG : Hid (_ = _) := hg
    clear hg
    generalize partsAt zs p = X at *
    obtain ⟨i0, hi, hz0, hz1, hz2⟩ := info_parts Tryd.infoInt
    go_enter Tryd.func126, Tryd.ntmps126
    go_wp2_with fail
    refine (implGetInt_any a c zs p w hr hl hcap).mono ?_
    rintro e w' ⟨rfl, rfl⟩
    rw [HG.out]
    simp only [triple]
    go_wp2_with (at_make; refine wpList_make_full _ rfl _ _ 24 rfl w'.heap.size 3 i0 (.int .i64 0) 1 Tryd.underlying24 hi hz0 hz1 _ _ _ _ m rfl rfl rfl rfl (by rw [hz2]; omega) (by simp [maxLen]; omega) (Nat.le_refl _) ?_)
    intro w0 hown0 hgrow0
    have hown1 : w0.ownsRow w'.heap.size 3 1 (.slice (some ⟨w'.heap.size, 0, none⟩) m m) m ((rowI [] m).map (Value.int .i64)) := by
      rw [rowI_nil, List.map_replicate]
      simpa [Value.cells, toList_madeCells_one] using hown0
    have hb0 : Below w'.heap.size w' w0 := (Below.refl _ _).grown hgrow0 (Nat.le_refl _) (fun k h => by cases h)
    clear hown0 hgrow0
    go_wp2
    go_loopw [1, 34] (fun at_ i wr => ∃ (L : List Int) (k r : Nat), Hid (L.length = k) ∧ k ≤ m ∧ i = .int .i64 k ∧ at_ = .int .i64 r ∧ Hid (onTo L (numsAt zs (m - k) r) = X) ∧ Hid (wr.ownsRow w'.heap.size 3 1 (.slice (some ⟨w'.heap.size, 0, none⟩) m m) m ((rowI L m).map (Value.int .i64))) ∧ Below w'.heap.size w' wr)
      (fun _ i _ => m - (intOf i).toNat)
    case atStart => exact ⟨[], 0, q, rfl, Nat.zero_le _, rfl, rfl, HX, hown1, hb0⟩
    case round =>
      obtain ⟨L, k, r, hL, hk, rfl, rfl, hX, hownH, hnx⟩ := hrel
      clear hown1 hb0 HX
      by_cases hlt : k < m
      · have hown := hownH.out
        have hfz := hown.frozenAt k
        obtain ⟨u, hct⟩ := own_cell hown k hlt
        cases hg : getAt zs (r : Int) with
        | none =>
          have HG2 : Hid (_ = _) := hg
          have HXN : Hid (X = none) := by
            have e : m - k = (m - k - 1) + 1 := by omega
            rw [Hid, ← hX.out, e, onTo_stop zs L _ r hg]
          have hbS : Below w'.heap.size w' (wr.setCell ⟨w'.heap.size, k, none⟩ (.int .i64 0)) := hnx.setCell (Nat.le_refl _) _
          have HBS : Hid (_) := hbS
          clear hg hown hbS
          go_wp2_with fail
          refine (implGetInt_any a c zs r wr (hr.below hnx) hl hcap).mono ?_
          rintro e w2 ⟨rfl, rfl⟩
          rw [HG2.out]
          simp only [triple]
          go_wp2
          go_ret3
          exact ⟨partsAns_none HXN.out _, HBS.out⟩
        | some t =>
          obtain ⟨z, r2⟩ := t
          have HG2 : Hid (_ = _) := hg
          have HXS : Hid (onTo (L ++ [z]) (numsAt zs (m - (k + 1)) r2) = X) := by
            have e : m - k = (m - (k + 1)) + 1 := by omega
            rw [Hid, ← hX.out, e, onTo_step zs L _ r r2 z hg]
          have HLS : Hid ((L ++ [z]).length = k + 1) := by rw [Hid, List.length_append, hL.out]; rfl
          have HS : Hid ((wr.setCell ⟨w'.heap.size, k, none⟩ (.int .i64 z)).ownsRow w'.heap.size 3 1 (.slice (some ⟨w'.heap.size, 0, none⟩) m m) m ((rowI (L ++ [z]) m).map (Value.int .i64))) := by
            have h1 := (hown.stored k (.int .i64 z)).1
            have h2 := rowI_set_map L m z (by rw [hL.out]; exact hlt)
            rw [hL.out] at h2
            rw [h2] at h1
            exact h1
          have HN : Hid (Below w'.heap.size w' (wr.setCell ⟨w'.heap.size, k, none⟩ (.int .i64 z))) := hnx.setCell (Nat.le_refl _) _
          clear hg hown
          go_wp2_with fail
          refine (implGetInt_any a c zs r wr (hr.below hnx) hl hcap).mono ?_
          rintro e w2 ⟨rfl, rfl⟩
          rw [HG2.out]
          simp only [triple]
          go_wp2
          go_roundw
          case rel => exact ⟨L ++ [z], k + 1, r2, HLS, by omega, by go_num, rfl, HXS, HS, HN.out⟩
          case measure => simp [intOf]; omega
      · obtain rfl : k = m := by omega
        have HXS : Hid (X = some (L, r)) := by rw [Hid, ← hX.out, Nat.sub_self, numsAt]; simp [onTo]
        have HO : Hid (OwnI wr w'.heap.size wr.heap.size (some ⟨w'.heap.size, 0, none⟩) k L) := by
          have h1 := hownH.out
          have e : rowI L k = L := by rw [← hL.out]; exact rowI_all L
          rw [e] at h1
          refine ⟨?_, Nat.le_refl _, ?_⟩
          · rw [hL.out]; exact h1
          · intro j hj; rw [hL.out] at hj; exact (h1.lt j hj).2
        go_wp2
        go_ret3
        exact ⟨partsAns_some HXS.out _ _ _ hL.out.symm HO.out, hnx⟩
end Go.Proofs.YtbaocehcnjdkkaaDoor

/- The walk of impl.foundObj. -/
namespace Go.Proofs.YtbaocehcnjdkkaaDoor
open Go.RowKit

set_option maxHeartbeats 1000000 in
set_option maxRecDepth 100000 in
theorem foundObj_ok (k : Int) (aI : Option Addr) (nI cI : Nat) (aR : Option Addr) (nR cR : Nat) (w : World) : Calls Tryd.prog 119 #[.agg #[.int .i64 k, .slice aI nI cI, .slice aR nR cR], .nilIface] w fun e w' => e = .returned (.tuple #[.agg #[.int .i64 k, .slice aI nI cI, .slice aR nR cR], .bool true]) ∧ Below w.heap.size w w' := by
  obtain ⟨W, hW, b0, b1, hbW, hsW⟩ := boxes2 w [.int .i64 k, .slice aI nI cI, .slice aR nR cR] [.int .i64 0, .slice none 0 0, .slice none 0 0] 26 26
  go_enter Tryd.func119, Tryd.ntmps119
  go_wp2_with fail
  rw [hW.out]
  refine (isNo_nil W).mono ?_
  rintro e w1 ⟨rfl, hb1⟩
  have B1 : Below w.heap.size w w1 := hbW.trans (hb1.mono hbW.size)
  obtain ⟨x0, x1, x2, _, _, _⟩ := (b0.below hb1 b0.lt).three
  have bR := b1.below hb1 b1.lt
  obtain ⟨y0, y1, y2, f0, f1, f2⟩ := bR.three
  obtain ⟨WF, hWF, bF, hwF, _⟩ := box3_fill bR (.int .i64 k) (.slice aI nI cI) (.slice aR nR cR)
  have HB : Hid (Below w.heap.size w WF) := B1.trans (hwF.below (by omega) (by have := hb1.size; omega))
  clear hwF hb1 B1
  go_wp2
  rw [hWF.out]
  obtain ⟨q0, q1, q2, _, _, _⟩ := bF.three
  exact bodyPost_ret (v := .tuple #[.agg #[.int .i64 k, .slice aI nI cI, .slice aR nR cR], .bool true]) (by simp [results, Tryd.results119, go_sem, q0, q1, q2]) rfl ⟨rfl, HB.out⟩

set_option maxHeartbeats 1000000 in
set_option maxRecDepth 100000 in
theorem foundObj_no (k : Int) (aI : Option Addr) (nI cI : Nat) (aR : Option Addr) (nR cR : Nat) (s : ByteArray) (w : World) (hg : ErrT w) : Calls Tryd.prog 119 #[.agg #[.int .i64 k, .slice aI nI cI, .slice aR nR cR], .iface 131 (.agg #[.string s])] w fun e w' => e = .returned (.tuple #[.agg #[.int .i64 0, .slice none 0 0, .slice none 0 0], .bool false]) ∧ Below w.heap.size w w' := by
  obtain ⟨W, hW, b0, b1, hbW, hsW⟩ := boxes2 w [.int .i64 k, .slice aI nI cI, .slice aR nR cR] [.int .i64 0, .slice none 0 0, .slice none 0 0] 26 26
  go_enter Tryd.func119, Tryd.ntmps119
  go_wp2_with fail
  rw [hW.out]
  refine (isNo_hit s W (hg.keep hbW)).mono ?_
  rintro e w1 ⟨rfl, hb1⟩
  have B1 : Below w.heap.size w w1 := hbW.trans (hb1.mono hbW.size)
  have bR := b1.below hb1 b1.lt
  obtain ⟨y0, y1, y2, f0, f1, f2⟩ := bR.three
  obtain ⟨WF, hWF, bF, hwF, _⟩ := box3_fill bR (.int .i64 0) (.slice none 0 0) (.slice none 0 0)
  have HB : Hid (Below w.heap.size w WF) := B1.trans (hwF.below (by omega) (by have := hb1.size; omega))
  clear hwF hb1 B1
  go_wp2
  rw [hWF.out]
  obtain ⟨q0, q1, q2, _, _, _⟩ := bF.three
  exact bodyPost_ret (v := .tuple #[.agg #[.int .i64 0, .slice none 0 0, .slice none 0 0], .bool false]) (by simp [results, Tryd.results119, go_sem, q0, q1, q2]) rfl ⟨rfl, HB.out⟩
end Go.Proofs.YtbaocehcnjdkkaaDoor

/- The walks of impl.readObj and impl.GetObj. -/
namespace Go.Proofs.YtbaocehcnjdkkaaDoor
open Go.RowKit

/-- What readObj answers. -/
def ReadAns (w' : World) (lo : Nat) (x : Option ObjV) (e : Ending) : Prop := match x with
  | some o => ∃ aI cI aR cR ev, e = .returned (.tuple #[.agg #[.int .i64 o.kind, .slice aI o.ints.length cI, .slice aR o.refs.length cR], ev]) ∧ IsErr (okB o) (.returned ev) ∧ OwnO w' lo w'.heap.size aI cI aR cR o
  | none => ∃ s, e = .returned (.tuple #[.agg #[.int .i64 0, .slice none 0 0, .slice none 0 0], .iface 131 (.agg #[.string s])])
theorem readAns_none {w' : World} {lo : Nat} {x : Option ObjV} (h : x = none) (s : ByteArray) : ReadAns w' lo x (.returned (.tuple #[.agg #[.int .i64 0, .slice none 0 0, .slice none 0 0], .iface 131 (.agg #[.string s])])) := by
  subst h; exact ⟨s, rfl⟩
theorem readAns_some {w' : World} {lo : Nat} {x : Option ObjV} {o : ObjV} (h : x = some o) {aI : Option Addr} {cI : Nat} {aR : Option Addr} {cR : Nat} {ev : Value} (he : IsErr (okB o) (.returned ev)) (ho : OwnO w' lo w'.heap.size aI cI aR cR o) : ReadAns w' lo x (.returned (.tuple #[.agg #[.int .i64 o.kind, .slice aI o.ints.length cI, .slice aR o.refs.length cR], ev])) := by
  subst h; exact ⟨aI, cI, aR, cR, ev, rfl, he, ho⟩
theorem isErr_ret {ok : Bool} {e : Ending} (h : IsErr ok e) : ∃ ev, e = .returned ev := by
  rcases h with ⟨_, rfl⟩ | ⟨_, s, rfl⟩
  · exact ⟨_, rfl⟩
  · exact ⟨_, rfl⟩

theorem readAll_none0 {zs : List Int} (h : getAt zs 0 = none) : readAll zs = none := by unfold readAll; rw [h]
theorem readAll_none1 {zs : List Int} {k : Int} {p : Nat} (h : getAt zs 0 = some (k, p)) (h1 : partsAt zs p = none) : readAll zs = none := by unfold readAll; rw [h]; simp only; rw [h1]
theorem readAll_none2 {zs : List Int} {k : Int} {p q : Nat} {is : List Int} (h : getAt zs 0 = some (k, p)) (h1 : partsAt zs p = some (is, q)) (h2 : partsAt zs q = none) : readAll zs = none := by
  unfold readAll; rw [h]; simp only; rw [h1]; simp only; rw [h2]
theorem readAll_at {zs : List Int} {k : Int} {p q r : Nat} {is rs : List Int} (h : getAt zs 0 = some (k, p)) (h1 : partsAt zs p = some (is, q)) (h2 : partsAt zs q = some (rs, r)) : readAll zs = if r = zs.length then some ⟨k, is, rs⟩ else none := by
  unfold readAll; rw [h]; simp only; rw [h1]; simp only; rw [h2]

set_option maxHeartbeats 4000000 in
set_option maxRecDepth 100000 in
theorem readObj_any (a : Option Addr) (c : Nat) (zs : List Int) (w : World) (hr : Reads w a zs) (hl : zs.length ≤ 70368744177664) (hcap : zs.length ≤ c) :
    Calls Tryd.prog 120 #[.slice a zs.length c] w fun e w' => ReadAns w' w.heap.size (readAll zs) e ∧ Below w.heap.size w w' := by
  generalize hXX : readAll zs = X
  have HXX : Hid (readAll zs = X) := hXX
  clear hXX
  obtain ⟨W, hW, b0, hbW, hsW⟩ := boxes1 w [.int .i64 0, .slice none 0 0, .slice none 0 0] 26
  obtain ⟨x0, x1, x2, f0, f1, f2⟩ := b0.three
  have hrW := hr.below hbW
  have hblt := b0.lt
  cases hg : getAt zs 0 with
  | none =>
    have HX : Hid (X = none) := HXX.out ▸ readAll_none0 hg
    have HG : Hid (_ = _) := hg
    clear hg
    obtain ⟨WF, hWF, bF, hwF, _⟩ := box3_fill b0 (.int .i64 0) (.slice none 0 0) (.slice none 0 0)
    have HB : Hid (Below w.heap.size w WF) := hbW.trans (hwF.below (by omega) (by omega))
    clear hwF
    go_enter Tryd.func120, Tryd.ntmps120
    go_wp2_with fail
    rw [hW.out]
    refine (implGetInt_any a c zs 0 W hrW hl hcap).mono ?_
    rintro e w' ⟨rfl, rfl⟩
    rw [HG.out]
    simp only [triple]
    go_wp2
    rw [hWF.out]
    obtain ⟨q0, q1, q2, _, _, _⟩ := bF.three
    exact bodyPost_ret (v := .tuple #[.agg #[.int .i64 0, .slice none 0 0, .slice none 0 0], .iface 131 (.agg #[.string _])]) (by simp [results, Tryd.results120, go_sem, q0, q1, q2]; rfl) rfl ⟨readAns_none HX.out _, HB.out⟩
  | some t =>
  obtain ⟨k, p⟩ := t
  have HG : Hid (_ = _) := hg
  go_enter Tryd.func120, Tryd.ntmps120
  go_wp2_with fail
  rw [hW.out]
  refine (implGetInt_any a c zs 0 W hrW hl hcap).mono ?_
  rintro e w' ⟨rfl, rfl⟩
  rw [HG.out]
  simp only [triple]
  go_wp2_with fail
  refine (readParts_any a c zs p w' hrW hl hcap).mono ?_
  rintro e w1 ⟨hans, hb1⟩
  have B1 : Below w.heap.size w w1 := hbW.trans (hb1.mono hbW.size)
  have b1 := b0.below hb1 b0.lt
  obtain ⟨y0, y1, y2, e0, e1, e2⟩ := b1.three
  have hs1 := hb1.size
  cases hp : partsAt zs p with
  | none =>
    rw [hp] at hans
    obtain ⟨s, rfl⟩ := hans
    have HX : Hid (X = none) := HXX.out ▸ readAll_none1 hg hp
    clear hg hp
    obtain ⟨WF, hWF, bF, hwF, _⟩ := box3_fill b1 (.int .i64 0) (.slice none 0 0) (.slice none 0 0)
    have HB : Hid (Below w.heap.size w WF) := B1.trans (hwF.below (by omega) (by omega))
    clear hwF
    go_wp2
    rw [hWF.out]
    obtain ⟨q0, q1, q2, _, _, _⟩ := bF.three
    exact bodyPost_ret (v := .tuple #[.agg #[.int .i64 0, .slice none 0 0, .slice none 0 0], .iface 131 (.agg #[.string s])]) (by simp [results, Tryd.results120, go_sem, q0, q1, q2]) rfl ⟨readAns_none HX.out _, HB.out⟩
  | some t =>
  obtain ⟨is, q⟩ := t
  rw [hp] at hans
  obtain ⟨aI, cI, rfl, hoI⟩ := hans
  have hq5 := (partsAt_canon zs hr.1 p is q hp).1
  go_wp2_with fail
  refine (readParts_any a c zs q w1 (hr.below B1) hl hcap).mono ?_
  rintro e w2 ⟨hans, hb2⟩
  have B2 : Below w.heap.size w w2 := B1.trans (hb2.mono B1.size)
  have b2 := b1.below hb2 b1.lt
  obtain ⟨z0, z1, z2, g0, g1, g2⟩ := b2.three
  have hs2 := hb2.size
  have hoI2 := hoI.below hb2
  clear y0 y1 y2 e0 e1 e2 x0 x1 x2 f0 f1 f2
  cases hp2 : partsAt zs q with
  | none =>
    rw [hp2] at hans
    obtain ⟨s, rfl⟩ := hans
    have HX : Hid (X = none) := HXX.out ▸ readAll_none2 hg hp hp2
    clear hg hp hp2
    obtain ⟨WF, hWF, bF, hwF, _⟩ := box3_fill b2 (.int .i64 0) (.slice none 0 0) (.slice none 0 0)
    have HB : Hid (Below w.heap.size w WF) := B2.trans (hwF.below (by omega) (by omega))
    clear hwF
    go_wp2
    rw [hWF.out]
    obtain ⟨q0, q1, q2, _, _, _⟩ := bF.three
    exact bodyPost_ret (v := .tuple #[.agg #[.int .i64 0, .slice none 0 0, .slice none 0 0], .iface 131 (.agg #[.string s])]) (by simp [results, Tryd.results120, go_sem, q0, q1, q2]) rfl ⟨readAns_none HX.out _, HB.out⟩
  | some t =>
  obtain ⟨rs, r⟩ := t
  rw [hp2] at hans
  obtain ⟨aR, cR, rfl, hoR⟩ := hans
  have hr5 := (partsAt_canon zs hr.1 q rs r hp2).1
  have hX := readAll_at hg hp hp2
  clear hg hp hp2
  by_cases hrl : r = zs.length
  case neg =>
    have HX : Hid (X = none) := by rw [Hid, ← HXX.out, hX, if_neg hrl]
    have hrb : ((r : Int) == (zs.length : Int)) = false := by simp; omega
    clear hX hrl
    obtain ⟨WF, hWF, bF, hwF, _⟩ := box3_fill b2 (.int .i64 0) (.slice none 0 0) (.slice none 0 0)
    have HB : Hid (Below w.heap.size w WF) := B2.trans (hwF.below (by omega) (by omega))
    clear hwF
    go_wp2
    rw [hWF.out]
    obtain ⟨q0, q1, q2, _, _, _⟩ := bF.three
    exact bodyPost_ret (v := .tuple #[.agg #[.int .i64 0, .slice none 0 0, .slice none 0 0], .iface 131 (.agg #[.string _])]) (by simp [results, Tryd.results120, go_sem, q0, q1, q2]; rfl) rfl ⟨readAns_none HX.out _, HB.out⟩
  case pos =>
  have HX : Hid (X = some ⟨k, is, rs⟩) := by rw [Hid, ← HXX.out, hX, if_pos hrl]
  have hrb : ((r : Int) == (zs.length : Int)) = true := by simp; omega
  clear hX hrl
  obtain ⟨W3, hW3, b3, hbW3, hsW3⟩ := boxes1 w2 [.int .i64 k, .slice aI is.length cI, .slice aR rs.length cR] 26
  have hO3 : OwnO W3 w'.heap.size w2.heap.size aI cI aR cR ⟨k, is, rs⟩ := ⟨(hoI2.below hbW3).widen (Nat.le_refl _) (by omega) (by omega), (hoR.below hbW3).widen (by omega) (by omega) (by omega), fun j hj hj' => by have := (hoI.lt j hj).2; have := (hoR.lt j hj').1; omega⟩
  have b2' := b2.below hbW3 b2.lt
  have hkeep : ∀ w'', Below W3.heap.size W3 w'' → Box w'' w2.heap.size [.int .i64 k, .slice aI is.length cI, .slice aR rs.length cR] 26 ∧ Box w'' w.heap.size [.int .i64 0, .slice none 0 0, .slice none 0 0] 26 :=
    fun w'' hh => ⟨b3.below hh b3.lt, b2'.below hh b2'.lt⟩
  have B3 : Below w.heap.size w W3 := B2.trans (hbW3.mono B2.size)
  go_wp2_with fail
  rw [hW3.out]
  have hk0 := hkeep W3 (Below.refl _ _)
  have hcells : ∀ w'', Below W3.heap.size W3 w'' → (w''.cell? ⟨w2.heap.size, 0, none⟩ = some (.int .i64 k) ∧ w''.cell? ⟨w2.heap.size, 1, none⟩ = some (.slice aI is.length cI) ∧ w''.cell? ⟨w2.heap.size, 2, none⟩ = some (.slice aR rs.length cR)) ∧ (w''.cell? ⟨w.heap.size, 0, none⟩ = some (.int .i64 0) ∧ w''.cell? ⟨w.heap.size, 1, none⟩ = some (.slice none 0 0) ∧ w''.cell? ⟨w.heap.size, 2, none⟩ = some (.slice none 0 0)) ∧ (w''.frozen? ⟨w.heap.size, 0, none⟩ = false ∧ w''.frozen? ⟨w.heap.size, 1, none⟩ = false ∧ w''.frozen? ⟨w.heap.size, 2, none⟩ = false) := by
    intro w'' hh
    obtain ⟨ba, bb⟩ := hkeep w'' hh
    exact ⟨⟨ba.cell 0 _ rfl, ba.cell 1 _ rfl, ba.cell 2 _ rfl⟩, ⟨bb.cell 0 _ rfl, bb.cell 1 _ rfl, bb.cell 2 _ rfl⟩, bb.frozen 0, bb.frozen 1, bb.frozen 2⟩
  have hh := hcells W3 (Below.refl _ _)
  clear hk0
  have hne : w.heap.size < w2.heap.size := by omega
  have hne' : ¬ (w2.heap.size = w.heap.size) := by omega
  go_region_held3 (fun w'' => w''.cell? ⟨w2.heap.size, 0, none⟩ = some (.int .i64 k) ∧ w''.cell? ⟨w2.heap.size, 1, none⟩ = some (.slice aI is.length cI) ∧ w''.cell? ⟨w2.heap.size, 2, none⟩ = some (.slice aR rs.length cR))
    (first | exact (hcells _ hw5).1 | exact ⟨((((hkeep _ hw5).1.other hne').other hne').other hne').cell 0 _ rfl, ((((hkeep _ hw5).1.other hne').other hne').other hne').cell 1 _ rfl, ((((hkeep _ hw5).1.other hne').other hne').other hne').cell 2 _ rfl⟩ | go_keep)
    (first | (go_at_call 107; refine (checkObj_any ⟨k, is, rs⟩ aI cI aR cR _ hO3.reads.drew (by simp only; omega) (by simp only; omega)).mono ?_; rintro e w5 ⟨hie, hb5⟩; obtain ⟨ev, rfl⟩ := isErr_ret hie; have hw5 : Below W3.heap.size W3 w5 := (Below.refl _ _).drew.trans hb5; obtain ⟨⟨m0, m1, m2⟩, ⟨y0, y1, y2⟩, e0, e1, e2⟩ := hcells _ hw5))
  obtain ⟨WF, hWF, bF, hwF, hsF⟩ := box3_fill (hkeep _ hw5).2 (.int .i64 k) (.slice aI is.length cI) (.slice aR rs.length cR)
  rw [hWF.out]
  go_wp2
  obtain ⟨q0, q1, q2, _, _, _⟩ := bF.three
  have hs5 := hw5.size
  have hOF : OwnO WF w'.heap.size w2.heap.size aI cI aR cR ⟨k, is, rs⟩ := (hO3.below hw5).within hwF (.inr (by omega))
  exact bodyPost_ret (v := .tuple #[.agg #[.int .i64 k, .slice aI is.length cI, .slice aR rs.length cR], ev]) (by simp [results, Tryd.results120, go_sem, q0, q1, q2]) rfl ⟨readAns_some HX.out hie (hOF.widen (by omega) (by omega) (Nat.le_refl _)), (B3.trans (hw5.mono B3.size)).trans (hwF.below (Nat.le_refl _) (by omega))⟩

set_option maxHeartbeats 4000000 in
set_option maxRecDepth 100000 in
theorem implGetObj_any (a : Option Addr) (c : Nat) (zs : List Int) (w : World) (hg : ErrT w) (hr : Reads w a zs) (hl : zs.length ≤ 70368744177664) (hcap : zs.length ≤ c) :
    Calls Tryd.prog 113 #[.slice a zs.length c] w fun e w' => ∃ aI cI aR cR o ok, e = .returned (.tuple #[.agg #[.int .i64 o.kind, .slice aI o.ints.length cI, .slice aR o.refs.length cR], .bool ok]) ∧ Hid (getPair zs = (o, ok)) ∧ OwnO w' w.heap.size w'.heap.size aI cI aR cR o ∧ Below w.heap.size w w' := by
  have HN : Hid (readAll zs = none → getPair zs = (noO, false)) := getPair_none zs
  have HBD : Hid (∀ o, readAll zs = some o → okB o = false → getPair zs = (noO, false)) := fun o => getPair_bad zs o
  have HGD : Hid (∀ o, readAll zs = some o → okB o = true → getPair zs = (o, true)) := fun o => getPair_some zs hr.1 o
  generalize getPair zs = PR at *
  obtain ⟨W, hW, b0, hbW, hsW⟩ := boxes1 w [.int .i64 0, .slice none 0 0, .slice none 0 0] 26
  go_enter Tryd.func113, Tryd.ntmps113
  go_wp2_with fail
  rw [hW.out]
  refine (readObj_any a c zs W (hr.below hbW) hl hcap).mono ?_
  rintro e w1 ⟨hans, hb1⟩
  have B1 : Below w.heap.size w w1 := hbW.trans (hb1.mono hbW.size)
  have b1 := b0.below hb1 b0.lt
  have hs1 := hb1.size
  cases hx : readAll zs with
  | none =>
    have HP : Hid (_ = _) := HN.out hx
    rw [hx] at hans
    obtain ⟨s, rfl⟩ := hans
    clear hx
    go_wp2_with fail
    refine (foundObj_no 0 none 0 0 none 0 0 s w1 (hg.keep B1)).mono ?_
    rintro e w2 ⟨rfl, hb2⟩
    have B2 : Below w.heap.size w w2 := B1.trans (hb2.mono B1.size)
    have b2 := b1.below hb2 b1.lt
    have hs2 := hb2.size
    obtain ⟨y0, y1, y2, f0, f1, f2⟩ := b2.three
    obtain ⟨WF, hWF, bF, hwF, _⟩ := box3_fill b2 (.int .i64 0) (.slice none 0 0) (.slice none 0 0)
    have HB : Hid (Below w.heap.size w WF) := B2.trans (hwF.below (by omega) (by omega))
    clear hwF
    go_wp2
    rw [hWF.out]
    obtain ⟨q0, q1, q2, _, _, _⟩ := bF.three
    exact bodyPost_ret (v := .tuple #[.agg #[.int .i64 0, .slice none 0 0, .slice none 0 0], .bool false]) (by simp [results, Tryd.results113, go_sem, q0, q1, q2]) rfl ⟨none, 0, none, 0, noO, false, rfl, HP.out, ⟨ownI_nil _ _ _ (Nat.le_refl _), ownI_nil _ _ _ (Nat.le_refl _), fun k hk => by cases hk⟩, HB.out⟩
  | some o =>
    rw [hx] at hans
    obtain ⟨aI, cI, aR, cR, ev, rfl, hie, ho⟩ := hans
    rcases hie with ⟨hok, hev⟩ | ⟨hok, s, hev⟩
    · obtain rfl : ev = .nilIface := by simpa using hev
      have HP : Hid (_ = _) := HGD.out o hx hok
      clear hx hok hev
      go_wp2_with fail
      refine (foundObj_ok o.kind aI o.ints.length cI aR o.refs.length cR w1).mono ?_
      rintro e w2 ⟨rfl, hb2⟩
      have B2 : Below w.heap.size w w2 := B1.trans (hb2.mono B1.size)
      have b2 := b1.below hb2 b1.lt
      have hs2 := hb2.size
      obtain ⟨y0, y1, y2, f0, f1, f2⟩ := b2.three
      obtain ⟨WF, hWF, bF, hwF, hsF⟩ := box3_fill b2 (.int .i64 o.kind) (.slice aI o.ints.length cI) (.slice aR o.refs.length cR)
      have HB : Hid (Below w.heap.size w WF) := B2.trans (hwF.below (by omega) (by omega))
      have HO : Hid (OwnO WF w.heap.size WF.heap.size aI cI aR cR o) := ((ho.below hb2).within hwF (.inr (by omega))).widen (by omega) (by omega) (Nat.le_refl _)
      clear hwF
      go_wp2
      rw [hWF.out]
      obtain ⟨q0, q1, q2, _, _, _⟩ := bF.three
      exact bodyPost_ret (v := .tuple #[.agg #[.int .i64 o.kind, .slice aI o.ints.length cI, .slice aR o.refs.length cR], .bool true]) (by simp [results, Tryd.results113, go_sem, q0, q1, q2]) rfl ⟨aI, cI, aR, cR, o, true, rfl, HP.out, HO.out, HB.out⟩
    · obtain rfl : ev = _ := by simpa using hev
      have HP : Hid (_ = _) := HBD.out o hx hok
      clear hx hok hev
      go_wp2_with fail
      refine (foundObj_no o.kind aI o.ints.length cI aR o.refs.length cR s w1 (hg.keep B1)).mono ?_
      rintro e w2 ⟨rfl, hb2⟩
      have B2 : Below w.heap.size w w2 := B1.trans (hb2.mono B1.size)
      have b2 := b1.below hb2 b1.lt
      have hs2 := hb2.size
      obtain ⟨y0, y1, y2, f0, f1, f2⟩ := b2.three
      obtain ⟨WF, hWF, bF, hwF, _⟩ := box3_fill b2 (.int .i64 0) (.slice none 0 0) (.slice none 0 0)
      have HB : Hid (Below w.heap.size w WF) := B2.trans (hwF.below (by omega) (by omega))
      clear hwF
      go_wp2
      rw [hWF.out]
      obtain ⟨q0, q1, q2, _, _, _⟩ := bF.three
      exact bodyPost_ret (v := .tuple #[.agg #[.int .i64 0, .slice none 0 0, .slice none 0 0], .bool false]) (by simp [results, Tryd.results113, go_sem, q0, q1, q2]) rfl ⟨none, 0, none, 0, noO, false, rfl, HP.out, ⟨ownI_nil _ _ _ (Nat.le_refl _), ownI_nil _ _ _ (Nat.le_refl _), fun k hk => by cases hk⟩, HB.out⟩
end Go.Proofs.YtbaocehcnjdkkaaDoor

/- The walk of impl.readSlot. -/
namespace Go.Proofs.YtbaocehcnjdkkaaDoor
open Go.RowKit

theorem strOf_data (sub : List Int) (j : Nat) (hb : Bytes sub) (h : j < sub.length) : (((strOf sub).data.toList.getD j 0).toNat : Int) = sub.getD j 0 := by
  have hz := hb (sub.getD j 0) (by simp [List.getD, h])
  have e : (strOf sub).data.toList.getD j 0 = UInt8.ofNat (sub.getD j 0).toNat := by
    unfold strOf
    simp [List.getD, h]
  rw [e]
  generalize sub.getD j 0 = z at *
  have : (UInt8.ofNat z.toNat).toNat = z.toNat := by simp; omega
  rw [this]
  omega
theorem strOf_len (sub : List Int) : (strOf sub).size = sub.length := by simp [strOf, ByteArray.size]

/-- The bytes of a text, in a row of their own. -/
theorem bytes_of_text (w : World) (sub : List Int) (hb : Bytes sub) :
    ∃ W c, (convert 9 22 (.string (strOf sub))).run Tryd.prog w = .ok (.slice (some ⟨w.heap.size, 0, none⟩) sub.length c) W ∧ Reads W (some ⟨w.heap.size, 0, none⟩) sub ∧ sub.length ≤ c ∧ Below w.heap.size w W := by
  have h := Lib.run_convert_string_bytes (P := Tryd.prog) w 9 22 5 (strOf sub) Tryd.underlying9 Tryd.underlying22 Tryd.underlying5
  rw [strOf_len] at h
  refine ⟨_, _, h, ⟨hb, fun hne => ⟨w.heap.size, 0, rfl, fun i hi => ?_⟩⟩, ?_, ?_⟩
  · rw [Nat.zero_add, Lib.bytesWorld_cell w 5 (strOf sub) i (by rw [strOf_len]; exact hi), strOf_data sub i hb hi]
  · exact grownCap_ge _ _ _ _
  · exact ⟨rfl, rfl, rfl, by rw [Lib.bytesWorld_size]; omega, fun k hk => Lib.bytesWorld_at_old w _ _ k hk⟩

/-- What readSlot answers. -/
def SlotAns (w' : World) (lo : Nat) (x : Option (SlotV × Nat)) (e : Ending) : Prop := match x with
  | some (s, q) => ∃ t : SlotA, e = .returned (.tuple #[.agg t.cells.toArray, .int .i64 (q : Nat), .bool true]) ∧ t.v = s ∧ t.own w' lo w'.heap.size
  | none => e = .returned (.tuple #[.agg zeroS.cells.toArray, .int .i64 0, .bool false])
theorem slotAns_none {w' : World} {lo : Nat} {x : Option (SlotV × Nat)} (h : x = none) : SlotAns w' lo x (.returned (.tuple #[.agg #[.bool false, .int .i64 0, .slice none 0 0, .slice none 0 0], .int .i64 0, .bool false])) := by subst h; rfl
theorem slotAns_some {w' : World} {lo : Nat} {x : Option (SlotV × Nat)} {s : SlotV} {q : Nat} (h : x = some (s, q)) (t : SlotA) (hv : t.v = s) (ho : t.own w' lo w'.heap.size) : SlotAns w' lo x (.returned (.tuple #[.agg t.cells.toArray, .int .i64 (q : Nat), .bool true])) := by subst h; exact ⟨t, rfl, hv, ho⟩

theorem slotAt_none {zs : List Int} {p : Nat} (h : getAt zs (p : Int) = none) : slotAt zs p = none := by unfold slotAt; rw [h]
theorem slotAt_out {zs : List Int} {p q : Nat} {n : Int} (h : getAt zs (p : Int) = some (n, q)) (hn : n < 0 ∨ (zs.length : Int) - (q : Int) < n) : slotAt zs p = none := by unfold slotAt; rw [h]; simp only; rw [if_pos hn]
theorem slotAt_zero {zs : List Int} {p q : Nat} (h : getAt zs (p : Int) = some (0, q)) (hq : q ≤ zs.length) : slotAt zs p = some (noS, q) := by unfold slotAt; rw [h]; simp only; rw [if_neg (by omega), if_pos trivial]
theorem slotAt_in {zs : List Int} {p q m : Nat} (h : getAt zs (p : Int) = some ((m : Int), q)) (hm : 0 < m) (hq : q + m ≤ zs.length) : slotAt zs p = if (getPair ((zs.drop q).take m)).2 then some (⟨true, (getPair ((zs.drop q).take m)).1⟩, q + m) else none := by
  unfold slotAt; rw [h]; simp only [Int.toNat_natCast]; rw [if_neg (by omega), if_neg (by omega)]
theorem text_bad {zs : List Int} {p : Nat} (h : getAt zs (p : Int) = none ∨ ∃ n q, getAt zs (p : Int) = some (n, q) ∧ (n < 0 ∨ (zs.length : Int) - (q : Int) < n)) : textOf zs (p : Int) = .tuple #[.string ⟨#[]⟩, .int .i64 0, .bool false] := by
  unfold textOf
  rcases h with h | ⟨n, q, h, hn⟩
  · rw [h]
  · rw [h]; simp only; rw [if_neg (by omega)]
theorem text_in {zs : List Int} {p q m : Nat} (h : getAt zs (p : Int) = some ((m : Int), q)) (hq : q + m ≤ zs.length) : textOf zs (p : Int) = .tuple #[.string (strOf ((zs.drop q).take m)), .int .i64 ((q + m : Nat) : Int), .bool true] := by
  unfold textOf; rw [h]; simp only [Int.toNat_natCast]; rw [if_pos (by omega)]
  rfl

set_option maxHeartbeats 4000000 in
set_option maxRecDepth 100000 in
theorem readSlot_any (a : Option Addr) (c : Nat) (zs : List Int) (p : Nat) (w : World) (hg : ErrT w) (hr : Reads w a zs) (hl : zs.length ≤ 1099511627776) (hcap : zs.length ≤ c) :
    Calls Tryd.prog 88 #[.slice a zs.length c, .int .i64 (p : Int)] w fun e w' => SlotAns w' w.heap.size (slotAt zs p) e ∧ Below w.heap.size w w' := by
  obtain ⟨W, hW, b0, hbW, hsW⟩ := boxes1 w [.bool false, .int .i64 0, .slice none 0 0, .slice none 0 0] 28
  have CT := implGetText_any a c zs (p : Int) W (hr.below hbW) (by omega) hcap
  obtain ⟨x0, x1, x2, x3, f0, f1, f2, f3⟩ := b0.four
  have hby : Bytes zs := hr.1
  by_cases hbad : getAt zs (p : Int) = none ∨ ∃ n q, getAt zs (p : Int) = some (n, q) ∧ (n < 0 ∨ (zs.length : Int) - (q : Int) < n)
  · have HX : Hid (slotAt zs p = none) := by rcases hbad with h | ⟨n, q, h, hn⟩; exact slotAt_none h; exact slotAt_out h hn
    rw [text_bad hbad] at CT
    generalize slotAt zs p = X at *
    obtain ⟨WF, hWF, bF, hwF, hsF⟩ := box4_fill b0 (.bool false) (.int .i64 0) (.slice none 0 0) (.slice none 0 0)
    have HB : Hid (Below w.heap.size w WF) := hbW.trans (hwF.below (Nat.le_refl _) (by omega))
    clear hwF hbad
    go_enter Tryd.func88, Tryd.ntmps88
    go_wp2_with fail
    rw [hW.out]
    refine CT.mono ?_
    clear CT
    rintro e w1 ⟨rfl, rfl⟩
    go_wp2
    rw [hWF.out]
    obtain ⟨q0, q1, q2, q3, _⟩ := bF.four
    exact bodyPost_ret (v := .tuple #[.agg #[.bool false, .int .i64 0, .slice none 0 0, .slice none 0 0], .int .i64 0, .bool false]) (by simp [results, Tryd.results88, go_sem, q0, q1, q2, q3]) rfl ⟨slotAns_none HX.out, HB.out⟩
  obtain ⟨n, q, hgt, hn⟩ : ∃ n q, getAt zs (p : Int) = some (n, q) ∧ ¬ (n < 0 ∨ (zs.length : Int) - (q : Int) < n) := by
    cases h : getAt zs (p : Int) with
    | none => exact absurd (.inl h) hbad
    | some r => exact ⟨r.1, r.2, rfl, fun hn => hbad (.inr ⟨r.1, r.2, h, hn⟩)⟩
  obtain ⟨m, rfl⟩ : ∃ m : Nat, n = (m : Int) := ⟨n.toNat, by omega⟩
  have hqm : q + m ≤ zs.length := by omega
  rw [text_in hgt hqm] at CT
  by_cases hm : m = 0
  · subst hm
    have HX : Hid (slotAt zs p = some (noS, q)) := slotAt_zero hgt (by omega)
    generalize slotAt zs p = X at *
    have hse : strOf ((zs.drop q).take 0) = ⟨#[]⟩ := by simp [strOf]
    rw [hse] at CT
    simp only [Nat.add_zero] at CT
    obtain ⟨WF, hWF, bF, hwF, hsF⟩ := box4_fill b0 (.bool false) (.int .i64 0) (.slice none 0 0) (.slice none 0 0)
    have HB : Hid (Below w.heap.size w WF) := hbW.trans (hwF.below (Nat.le_refl _) (by omega))
    clear hwF hbad hse hgt hn
    go_enter Tryd.func88, Tryd.ntmps88
    go_wp2_with fail
    rw [hW.out]
    refine CT.mono ?_
    clear CT
    rintro e w1 ⟨rfl, rfl⟩
    go_wp2
    rw [hWF.out]
    obtain ⟨q0, q1, q2, q3, _⟩ := bF.four
    exact bodyPost_ret (v := .tuple #[.agg #[.bool false, .int .i64 0, .slice none 0 0, .slice none 0 0], .int .i64 (q : Nat), .bool true]) (by simp [results, Tryd.results88, go_sem, q0, q1, q2, q3]) rfl ⟨slotAns_some HX.out zeroS rfl (own_zero _ _ _ (Nat.le_refl _)), HB.out⟩
  have HX : Hid (_ = _) := slotAt_in hgt (by omega) hqm
  have hsb : Bytes ((zs.drop q).take m) := fun z hz => hby z (List.mem_of_mem_drop (List.mem_of_mem_take hz))
  have hsl : ((zs.drop q).take m).length = m := by rw [List.length_take, List.length_drop]; omega
  generalize slotAt zs p = X at *
  generalize (zs.drop q).take m = sub at *
  have HSL : Hid (_ = _) := hsl
  have hsub1 : 1 ≤ sub.length := by omega
  have hsub2 : sub.length ≤ 1099511627776 := by omega
  obtain ⟨WC, cc, hcv, hrC, hcc, hbC⟩ := bytes_of_text W sub hsb
  have hne : (strOf sub).toList.isEmpty = false := by
    have h1 : (strOf sub).toList.length = sub.length := by rw [ByteArray.toList_eq]; simp [strOf]
    cases h2 : (strOf sub).toList with
    | nil => rw [h2] at h1; simp only [List.length_nil] at h1; omega
    | cons x r => rfl
  have hsC := hbC.size
  have CG := implGetObj_any (some ⟨W.heap.size, 0, none⟩) cc sub WC ((hg.keep hbW).keep hbC) hrC (by omega) hcc
  have b0C := b0.below hbC b0.lt
  clear hbad hgt hn hsl hby
  generalize strOf sub = str at *
  go_enter Tryd.func88, Tryd.ntmps88
  go_wp2_with fail
  rw [hW.out]
  refine CT.mono ?_
  clear CT
  rintro e w1 ⟨rfl, rfl⟩
  go_wp2_with fail
  have hWe : w1.heap.size = w.heap.size + 1 := hsW
  rw [hWe] at CG
  refine CG.mono ?_
  clear CG hcv
  rintro e w2 ⟨aI, cI, aR, cR, o, ok, rfl, HGP, ho2, hb2⟩
  rw [HGP.out] at HX
  simp only at HX
  have hs2 := hb2.size
  have B2 : Below w.heap.size w w2 := (hbW.trans (hbC.mono (by omega))).trans (hb2.mono (by omega))
  have b02 := b0C.below hb2 b0C.lt
  obtain ⟨W3, hW3, b3, hb3, hs3⟩ := boxes1 w2 [.int .i64 o.kind, .slice aI o.ints.length cI, .slice aR o.refs.length cR] 26
  have b03 := b02.below hb3 b02.lt
  have ho3 := ho2.below hb3
  have B3 : Below w.heap.size w W3 := B2.trans (hb3.mono (by omega))
  have hlt3 := b03.lt
  obtain ⟨x0, x1, x2, x3, f0, f1, f2, f3⟩ := b03.four
  clear b02 b0C ho2 hb2 hbC hb3
  cases ok with
  | false =>
    have HXN : Hid (X = none) := by rw [Hid, HX.out]; simp
    obtain ⟨WF, hWF, bF, hwF, hsF⟩ := box4_fill b03 (.bool false) (.int .i64 0) (.slice none 0 0) (.slice none 0 0)
    have HB : Hid (Below w.heap.size w WF) := B3.trans (hwF.below (Nat.le_refl _) (by omega))
    have W3e := hW3.out
    rw [← W3e] at x0 x1 x2 x3 f0 f1 f2 f3 hWF
    clear hwF hW3 b03 W3e b3
    go_wp2
    rw [hWF.out]
    obtain ⟨q0, q1, q2, q3, _⟩ := bF.four
    exact bodyPost_ret (v := .tuple #[.agg #[.bool false, .int .i64 0, .slice none 0 0, .slice none 0 0], .int .i64 0, .bool false]) (by simp [results, Tryd.results88, go_sem, q0, q1, q2, q3]) rfl ⟨slotAns_none HXN.out, HB.out⟩
  | true =>
    have HXS : Hid (X = some (⟨true, o⟩, q + m)) := by rw [Hid, HX.out]; simp
    obtain ⟨WF, hWF, bF, hwF, hsF⟩ := box4_fill b03 (.bool true) (.int .i64 o.kind) (.slice aI o.ints.length cI) (.slice aR o.refs.length cR)
    have HB : Hid (Below w.heap.size w WF) := B3.trans (hwF.below (Nat.le_refl _) (by omega))
    have HOF : Hid (OwnO WF w.heap.size WF.heap.size aI cI aR cR o) := (ho3.within hwF (.inr (by omega))).widen (by omega) (by omega) (Nat.le_refl _)
    obtain ⟨z0, z1, z2, _, _, _⟩ := b3.three
    have W3e := hW3.out
    rw [← W3e] at x0 x1 x2 x3 f0 f1 f2 f3 hWF z0 z1 z2
    clear hwF hW3 b03 W3e b3 ho3
    go_wp2
    rw [hWF.out]
    obtain ⟨q0, q1, q2, q3, _⟩ := bF.four
    exact bodyPost_ret (v := .tuple #[.agg #[.bool true, .int .i64 o.kind, .slice aI o.ints.length cI, .slice aR o.refs.length cR], .int .i64 ((q + m : Nat) : Int), .bool true]) (by simp [results, Tryd.results88, go_sem, q0, q1, q2, q3]) rfl ⟨slotAns_some HXS.out ⟨⟨true, o⟩, aI, cI, aR, cR⟩ rfl HOF.out, HB.out⟩
end Go.Proofs.YtbaocehcnjdkkaaDoor

/- The walk of impl.readPage. -/
namespace Go.Proofs.YtbaocehcnjdkkaaDoor
open Go.RowKit

/-- What is still to be read, behind what was. -/
def onToS (L : List SlotV) : Option (List SlotV × Nat) → Option (List SlotV × Nat)
  | none => none
  | some (l, r) => some (L ++ l, r)
theorem onToS_nil (x : Option (List SlotV × Nat)) : onToS [] x = x := by cases x <;> rfl
theorem onToS_step (zs : List Int) (L : List SlotV) (n p q : Nat) (z : SlotV) (h : slotAt zs p = some (z, q)) : onToS L (slotsAt zs (n + 1) p) = onToS (L ++ [z]) (slotsAt zs n q) := by
  rw [slotsAt, h]
  simp only
  cases slotsAt zs n q with
  | none => rfl
  | some t => simp [onToS]
theorem onToS_stop (zs : List Int) (L : List SlotV) (n p : Nat) (h : slotAt zs p = none) : onToS L (slotsAt zs (n + 1) p) = none := by rw [slotsAt, h]; rfl
theorem readP_no0 {zs : List Int} (h : getAt zs 0 = none) : readP zs = none := by unfold readP; rw [h]
theorem readP_no {zs : List Int} {n : Int} {p : Nat} (h : getAt zs 0 = some (n, p)) (hs : slotsAt zs 4 p = none) : readP zs = none := by unfold readP; rw [h]; simp only; rw [hs]
theorem readP_at {zs : List Int} {n : Int} {p q : Nat} {l : List SlotV} (h : getAt zs 0 = some (n, p)) (hs : slotsAt zs 4 p = some (l, q)) : readP zs = if q = zs.length then some (n, l) else none := by unfold readP; rw [h]; simp only; rw [hs]

/-- What readPage answers. -/
def PageAns (w' : World) (lo : Nat) (x : Option (Int × List SlotV)) (e : Ending) : Prop := match x with
  | some (n, l) => ∃ ts : List SlotA, e = .returned (.tuple #[.agg (PageA.cells ⟨n, ts⟩).toArray, .bool true]) ∧ ts.map (·.v) = l ∧ ts.length = 4 ∧ (∀ s ∈ ts, s.v.o.ints.length ≤ 5 ∧ s.v.o.refs.length ≤ 5) ∧ OwnS w' lo w'.heap.size ts
  | none => ∃ q : PageA, q.ss.length = 4 ∧ e = .returned (.tuple #[.agg q.cells.toArray, .bool false])
theorem pageAns_none {w' : World} {lo : Nat} {x : Option (Int × List SlotV)} (h : x = none) (q : PageA) (hq : q.ss.length = 4) : PageAns w' lo x (.returned (.tuple #[.agg q.cells.toArray, .bool false])) := by subst h; exact ⟨q, hq, rfl⟩
theorem pageAns_some {w' : World} {lo : Nat} {x : Option (Int × List SlotV)} {n : Int} {l : List SlotV} (h : x = some (n, l)) (ts : List SlotA) (hv : ts.map (·.v) = l) (h4 : ts.length = 4) (hf : ∀ s ∈ ts, s.v.o.ints.length ≤ 5 ∧ s.v.o.refs.length ≤ 5) (ho : OwnS w' lo w'.heap.size ts) : PageAns w' lo x (.returned (.tuple #[.agg (PageA.cells ⟨n, ts⟩).toArray, .bool true])) := by subst h; exact ⟨ts, rfl, hv, h4, hf, ho⟩
theorem slotAt_small (zs : List Int) (p : Nat) (s : SlotV) (q : Nat) (h : slotAt zs p = some (s, q)) : s.o.ints.length ≤ 5 ∧ s.o.refs.length ≤ 5 := by
  unfold slotAt at h
  split at h
  · cases h
  · split at h
    · cases h
    · split at h
      · simp only [Option.some.injEq, Prod.mk.injEq] at h
        rw [← h.1]; simp [noS, noO]
      · split at h
        · simp only [Option.some.injEq, Prod.mk.injEq] at h
          rw [← h.1]; exact getPair_small _
        · cases h

set_option maxHeartbeats 4000000 in
set_option maxRecDepth 100000 in
theorem readPage_any (a : Option Addr) (c : Nat) (zs : List Int) (w : World) (hg : ErrT w) (hr : Reads w a zs) (hl : zs.length ≤ 1099511627776) (hcap : zs.length ≤ c) :
    Calls Tryd.prog 49 #[.slice a zs.length c] w fun e w' => PageAns w' w.heap.size (readP zs) e ∧ Below w.heap.size w w' := by
  obtain ⟨W, hW, b0, hbW, hsW⟩ := boxes1 w [.int .i64 0, .bool false, .int .i64 0, .slice none 0 0, .slice none 0 0, .bool false, .int .i64 0, .slice none 0 0, .slice none 0 0, .bool false, .int .i64 0, .slice none 0 0, .slice none 0 0, .bool false, .int .i64 0, .slice none 0 0, .slice none 0 0] 31
  have HI0 : Hid ((Tryd.prog.info? 31).map (·.size) = some (PageA.cells ⟨0, zero4⟩).length) := by rw [Hid]; kernel_rfl
  have HO0 : Hid (_) := all_oneCell_toArray (oneP ⟨0, zero4⟩)
  have C0 := implGetInt_any a c zs 0 W (hr.below hbW) (by omega) hcap
  cases hg0 : getAt zs 0 with
  | none =>
    have HX : Hid (readP zs = none) := readP_no0 hg0
    have hg0' : getAt zs ((0 : Nat) : Int) = none := hg0
    rw [hg0] at C0
    simp only [triple] at C0
    generalize readP zs = X at *
    obtain ⟨WF, hWF, hwF, hsF, HTF, HLF, _⟩ := page_out (C := w.heap.size) (T := 31) ⟨0, zero4⟩ rfl _ rfl b0 Tryd.underlying31 rfl (by kernel_rfl)
    have HB : Hid (Below w.heap.size w WF) := hbW.trans (hwF.below (Nat.le_refl _) (by omega))
    clear hwF hg0 hg0'
    go_enter Tryd.func49, Tryd.ntmps49
    go_wp2_with fail
    rw [hW.out]
    refine C0.mono ?_
    clear C0
    rintro e w1 ⟨rfl, rfl⟩
    go_wp2_with (first | (guard_target = wpList _ _ _ (Oper.mk none (Op.store _ (Operand.tmp 2) _) _ _ _ _ :: _) _ _; refine wpList_store_mid rfl 31 (.tmp 2) (.tmp 17) rfl w.heap.size 0 (PageA.cells ⟨0, zero4⟩).toArray rfl rfl HTF.out (by rw [List.size_toArray]; exact HI0.out) HO0.out ?_) | fail)
    rw [hWF.out]
    exact bodyPost_ret (v := .tuple #[.agg (PageA.cells ⟨0, zero4⟩).toArray, .bool false]) (results_cell_flag Tryd.results49 rfl HLF.out rfl) rfl ⟨pageAns_none HX.out _ rfl, HB.out⟩
  | some r0 =>
    obtain ⟨n, p0⟩ := r0
    obtain ⟨XX, hXX⟩ : ∃ XX, slotsAt zs 4 p0 = XX := ⟨_, rfl⟩
    have HX0 : Hid (onToS [] (slotsAt zs (4 - 0) p0) = XX) := by rw [Hid, onToS_nil]; exact hXX
    have HXN : Hid (XX = none → readP zs = none) := fun h => readP_no hg0 (hXX.trans h)
    have HXS : Hid (∀ l q, XX = some (l, q) → readP zs = if q = zs.length then some (n, l) else none) := fun l q h => readP_at hg0 (hXX.trans h)
    rw [hg0] at C0
    simp only [triple] at C0
    generalize readP zs = X at *
    clear hg0 hXX
    obtain ⟨W2, hW2, b2, hb2, hs2⟩ := boxes1 W [.int .i64 n, .bool false, .int .i64 0, .slice none 0 0, .slice none 0 0, .bool false, .int .i64 0, .slice none 0 0, .slice none 0 0, .bool false, .int .i64 0, .slice none 0 0, .slice none 0 0, .bool false, .int .i64 0, .slice none 0 0, .slice none 0 0] 31
    have b2' : Box W2 W.heap.size (.int .i64 n :: cellsS ([] ++ List.replicate (4 - 0) zeroS)) 31 := b2
    have b02 := b0.below hb2 b0.lt
    have B2 : Below w.heap.size w W2 := hbW.trans (hb2.mono (by omega))
    have HWs : Hid (W.heap.size = w.heap.size + 1) := hsW
    clear b2 hsW b0 hs2
    go_enter Tryd.func49, Tryd.ntmps49
    go_wp2_with fail
    rw [hW.out]
    refine C0.mono ?_
    clear C0
    rintro e w1 ⟨rfl, rfl⟩
    go_wp2_with fail
    rw [hW2.out]
    have hWs : w.heap.size < w1.heap.size := by have := HWs.out; omega
    have hs2 := hb2.size
    have hW2s : w1.heap.size < W2.heap.size := b2'.lt
    clear hW hW2
    go_loopw [5, 6, 20] (fun at_ ok i wr => ∃ (k r : Nat) (ts : List SlotA), i = .int .i64 k ∧ at_ = .int .i64 r ∧ ok = .bool true ∧ k ≤ 4 ∧ Hid (ts.length = k ∧ onToS (ts.map (·.v)) (slotsAt zs (4 - k) r) = XX ∧ ∀ s ∈ ts, s.v.o.ints.length ≤ 5 ∧ s.v.o.refs.length ≤ 5) ∧ OwnS wr W2.heap.size wr.heap.size ts ∧ Box wr w1.heap.size (.int .i64 n :: cellsS (ts ++ List.replicate (4 - k) zeroS)) 31 ∧ Below w1.heap.size W2 wr)
      (fun _ _ i _ => 4 - (intOf i).toNat)
    case atStart => exact ⟨0, p0, [], rfl, rfl, rfl, by omega, ⟨rfl, HX0.out, fun s hs => by simp at hs⟩, OwnS.nil _ _ _, b2', Below.refl _ _⟩
    case round =>
      obtain ⟨k, r, ts, rfl, rfl, rfl, hk, hts, hown, hbox, hbl⟩ := hrel
      clear b2'
      have hsr := hbl.size
      have hsz := hbox.lt
      have Br : Below w.heap.size w wr := B2.trans (hbl.mono (by omega))
      have b0r := b02.below hbl (by omega)
      by_cases hlt : k < 4
      · have C := readSlot_any a c zs r wr (hg.keep Br) (hr.below Br) hl hcap
        cases hsa : slotAt zs r with
        | none =>
          have HXX : Hid (XX = none) := by
            rw [Hid, ← hts.out.2.1, show 4 - k = (4 - (k + 1)) + 1 by omega, onToS_stop _ _ _ _ hsa]
          have HXF : Hid (X = none) := HXN.out HXX.out
          rw [hsa] at C
          clear hsa
          simp only [SlotAns] at C
          have hkt : k < (ts ++ List.replicate (4 - k) zeroS).length := by have := hts.out.1; simp; omega
          have hi0 : (0 : Int) ≤ (k : Int) := by omega
          have hi4 : (k : Int) < 4 := by omega
          go_wp2_with fail
          refine C.mono ?_
          clear C
          rintro e w3 ⟨rfl, hb3⟩
          have hs3 := hb3.size
          have hbx := hbox.below hb3 hsz
          obtain ⟨W4, hW4, b4, hw4, hs4⟩ := pslot_fill hbx k hkt zeroS
          obtain ⟨x0, x1, x2, x3, hfz⟩ := hbx.pslot k hkt
          have f0 := hfz (1 + k * 4)
          have f1 := hfz (1 + k * 4 + 1)
          have f2 := hfz (1 + k * 4 + 2)
          have f3 := hfz (1 + k * 4 + 3)
          generalize (ts ++ List.replicate (4 - k) zeroS).getD k zeroS = old at *
          have b04 := (b0r.below hb3 b0r.lt).within hw4 (by omega)
          obtain ⟨WF, hWF, hwF, hsF, HTF, HLF, _⟩ := page_out (C := w.heap.size) (T := 31) ⟨0, zero4⟩ rfl _ rfl b04 Tryd.underlying31 rfl (by kernel_rfl)
          have HB : Hid (Below w.heap.size w WF) := ((Br.trans (hb3.mono Br.size)).trans (hw4.below (by omega) (by omega))).trans (hwF.below (Nat.le_refl _) (by omega))
          simp only [zeroS, List.length_nil] at hW4
          have W4e := hW4.out
          rw [← W4e] at HTF hWF
          clear hwF hw4 hfz hbx hbox hown hts b4 b04 b0r W4e hW4
          simp only [zeroS, SlotA.cells, List.length_nil]
          go_wp2_with (first | (guard_target = wpList _ _ _ (Oper.mk none (Op.store _ (Operand.tmp 2) _) _ _ _ _ :: _) _ _; refine wpList_store_mid rfl 31 (.tmp 2) (.tmp 35) rfl w.heap.size 0 (PageA.cells ⟨0, zero4⟩).toArray rfl rfl HTF.out (by rw [List.size_toArray]; exact HI0.out) HO0.out ?_) | fail)
          rw [hWF.out]
          exact bodyPost_ret (v := .tuple #[.agg (PageA.cells ⟨0, zero4⟩).toArray, .bool false]) (results_cell_flag Tryd.results49 rfl HLF.out rfl) rfl ⟨pageAns_none HXF.out _ rfl, HB.out⟩
        | some sr =>
          obtain ⟨sv, r2⟩ := sr
          have HST : Hid (onToS (ts.map (·.v) ++ [sv]) (slotsAt zs (4 - (k + 1)) r2) = XX) := by
            rw [Hid, ← hts.out.2.1, show 4 - k = (4 - (k + 1)) + 1 by omega, onToS_step _ _ _ _ _ _ hsa]
          have HSM : Hid (_) := slotAt_small zs r sv r2 hsa
          rw [hsa] at C
          clear hsa
          simp only [SlotAns] at C
          have hkt : k < (ts ++ List.replicate (4 - k) zeroS).length := by have := hts.out.1; simp; omega
          have hi0 : (0 : Int) ≤ (k : Int) := by omega
          have hi4 : (k : Int) < 4 := by omega
          go_wp2_with fail
          refine C.mono ?_
          clear C
          rintro e w3 ⟨⟨t, rfl, hv, ho⟩, hb3⟩
          have hs3 := hb3.size
          have hbx := hbox.below hb3 hsz
          obtain ⟨W4, hW4, b4, hw4, hs4⟩ := pslot_fill hbx k hkt t
          obtain ⟨x0, x1, x2, x3, hfz⟩ := hbx.pslot k hkt
          have f0 := hfz (1 + k * 4)
          have f1 := hfz (1 + k * 4 + 1)
          have f2 := hfz (1 + k * 4 + 2)
          have f3 := hfz (1 + k * 4 + 3)
          generalize (ts ++ List.replicate (4 - k) zeroS).getD k zeroS = old at *
          have b4' : Box W4 w1.heap.size (.int .i64 n :: cellsS ((ts ++ [t]) ++ List.replicate (4 - (k + 1)) zeroS)) 31 := by
            rw [show 4 - k = (4 - (k + 1)) + 1 by omega] at b4
            have e := set_snoc ts (4 - (k + 1)) t
            rw [hts.out.1] at e
            rw [e] at b4
            exact b4
          have hO3 : OwnS w3 W2.heap.size w3.heap.size (ts ++ [t]) := (hown.below hb3).snoc ho hsr hs3 (Nat.le_refl _)
          have hO4 : OwnS W4 W2.heap.size W4.heap.size (ts ++ [t]) := (hO3.within hw4 (.inr (by omega))).widen (Nat.le_refl _) (by omega) (Nat.le_refl _)
          have N4 : Below w1.heap.size W2 W4 := (hbl.trans (hb3.mono (by omega))).trans (hw4.below (Nat.le_refl _) (by omega))
          have HT : Hid ((ts ++ [t]).length = k + 1 ∧ onToS ((ts ++ [t]).map (·.v)) (slotsAt zs (4 - (k + 1)) r2) = XX ∧ ∀ s ∈ ts ++ [t], s.v.o.ints.length ≤ 5 ∧ s.v.o.refs.length ≤ 5) := by
            refine ⟨by have := hts.out.1; simp; omega, ?_, fun s hs => ?_⟩
            · rw [List.map_append, List.map_singleton, hv]; exact HST.out
            · rcases List.mem_append.1 hs with h | h
              · exact hts.out.2.2 s h
              · obtain rfl := List.mem_singleton.1 h
                rw [hv]; exact HSM.out
          clear hfz hs4 hw4 b4 hO3 hown hbox hbx hts HST hkt ho hv HSM
          simp only [SlotA.cells]
          go_wp2_with fail
          rw [hW4.out]
          go_roundw
          case rel => exact ⟨k + 1, r2, ts ++ [t], by go_num, rfl, rfl, by omega, HT, hO4, b4', N4⟩
          case measure => simp [intOf]; omega
      · obtain rfl : k = 4 := by omega
        have hkk : ¬ ((4 : Nat) : Int) < 4 := by omega
        have hrp : ts ++ List.replicate (4 - 4) zeroS = ts := by simp
        rw [hrp] at hbox
        have htl : ts.length = 4 := hts.out.1
        have HXX : Hid (XX = some (ts.map (·.v), r)) := by rw [Hid, ← hts.out.2.1]; simp [slotsAt, onToS]
        have HXF : Hid (X = if r = zs.length then some (n, ts.map (·.v)) else none) := HXS.out _ _ HXX.out
        have HFT : Hid (_) := hts.out.2.2
        generalize hq : (⟨n, ts⟩ : PageA) = P at *
        have hP4 : P.ss.length = 4 := by rw [← hq]; exact htl
        have HPe : Hid (P = ⟨n, ts⟩) := hq.symm
        have hbox' : Box wr w1.heap.size P.cells 31 := by rw [← hq]; exact hbox
        have rP := Box.range [] P.cells [] (by simpa using hbox' : Box wr w1.heap.size ([] ++ (P.cells ++ [])) 31)
        have HIP : Hid ((Tryd.prog.info? 31).map (·.size) = some P.cells.length) := by rw [Hid, page_len P hP4]; kernel_rfl
        have HOP : Hid (_) := all_oneCell_toArray (oneP P)
        obtain ⟨WF, hWF, hwF, hsF, HTF, HLF, _⟩ := page_out (C := w.heap.size) (T := 31) P hP4 _ rfl b0r Tryd.underlying31 rfl (by kernel_rfl)
        have HOF : Hid (OwnS WF w.heap.size WF.heap.size ts) := (hown.within hwF (.inr (by omega))).widen (by omega) (by omega) (Nat.le_refl _)
        have HB : Hid (Below w.heap.size w WF) := Br.trans (hwF.below (Nat.le_refl _) (by omega))
        have HEND : Hid (PageAns WF w.heap.size X (.returned (.tuple #[.agg P.cells.toArray, .bool ((r : Int) == (zs.length : Int))]))) := by
          by_cases hrz : r = zs.length
          · have e1 : ((r : Int) == (zs.length : Int)) = true := by simp [hrz]
            rw [e1, HPe.out]
            exact pageAns_some (by rw [HXF.out, if_pos hrz]) ts rfl htl HFT.out HOF.out
          · have e1 : ((r : Int) == (zs.length : Int)) = false := by simp; omega
            rw [e1]
            exact pageAns_none (by rw [HXF.out, if_neg hrz]) P hP4
        clear hwF hsF HOF hq hbox hown hbox' b0r HXX HXF hts hrp htl
        go_wp2_with (first | (guard_target = wpList _ _ _ (Oper.mk (some 37) _ _ _ _ _ :: _) _ _; refine wpList_load_mid rfl 31 (.tmp 7) rfl w1.heap.size 0 rfl P.cells _ rP Tryd.underlying31 rfl HIP.out ?_) | (guard_target = wpList _ _ _ (Oper.mk none (Op.store _ (Operand.tmp 2) _) _ _ _ _ :: _) _ _; refine wpList_store_mid rfl 31 (.tmp 2) (.tmp 37) rfl w.heap.size 0 P.cells.toArray rfl rfl HTF.out (by rw [List.size_toArray]; exact HIP.out) HOP.out ?_) | fail)
        rw [hWF.out]
        exact bodyPost_ret (v := .tuple #[.agg P.cells.toArray, .bool ((r : Int) == (zs.length : Int))]) (results_cell_flag Tryd.results49 rfl HLF.out rfl) rfl ⟨HEND.out, HB.out⟩
end Go.Proofs.YtbaocehcnjdkkaaDoor

/- The walk of impl.GetPage. -/
namespace Go.Proofs.YtbaocehcnjdkkaaDoor
open Go.RowKit

set_option maxHeartbeats 4000000 in
set_option maxRecDepth 100000 in
theorem implGetPage_any (a : Option Addr) (c : Nat) (zs : List Int) (w : World) (hg : ErrT w) (hr : Reads w a zs) (hl : zs.length ≤ 1099511627776) (hcap : zs.length ≤ c) :
    Calls Tryd.prog 14 #[.slice a zs.length c] w fun e w' => ∃ ts : List SlotA, e = .returned (.tuple #[.agg (PageA.cells ⟨(pairP zs).1.1, ts⟩).toArray, .bool (pairP zs).2]) ∧ Hid (ts.map (·.v) = (pairP zs).1.2) ∧ OwnS w' w.heap.size w'.heap.size ts ∧ Below w.heap.size w w' := by
  have HUL : Hid (_ ≤ _) := unf_len zs 0
  have H1 : Hid (¬ ((unfOf zs 0).2.2 = 0 ∧ (unfOf zs 0).2.1 = (zs.length : Int)) → pairP zs = (noP, false)) := pairP_unf zs
  have H2 : Hid (readP (unfOf zs 0).1 = none → pairP zs = (noP, false)) := pairP_none zs
  have H3 : Hid (∀ n l, readP (unfOf zs 0).1 = some (n, l) → okP n l = false → pairP zs = (noP, false)) := fun n l => pairP_bad zs n l
  have H4 : Hid (((unfOf zs 0).2.2 = 0 ∧ (unfOf zs 0).2.1 = (zs.length : Int)) → Bytes (unfOf zs 0).1 → ∀ n l, readP (unfOf zs 0).1 = some (n, l) → okP n l = true → pairP zs = ((n, l), true)) := fun h hb n l => pairP_some zs hr.1 h n l hb
  generalize pairP zs = PP at *
  obtain ⟨W, hW, b0, hbW, hsW⟩ := boxes1 w [.int .i64 0, .bool false, .int .i64 0, .slice none 0 0, .slice none 0 0, .bool false, .int .i64 0, .slice none 0 0, .slice none 0 0, .bool false, .int .i64 0, .slice none 0 0, .slice none 0 0, .bool false, .int .i64 0, .slice none 0 0, .slice none 0 0] 31
  have HI0 : Hid ((Tryd.prog.info? 31).map (·.size) = some (PageA.cells ⟨0, zero4⟩).length) := by rw [Hid]; kernel_rfl
  have HO0 : Hid (_) := all_oneCell_toArray (oneP ⟨0, zero4⟩)
  have hsW' : w.heap.size < W.heap.size := b0.lt
  clear hsW
  go_enter Tryd.func14, Tryd.ntmps14
  go_wp2_with fail
  rw [hW.out]
  clear hW
  refine (implUnframe_any a c zs 0 W (hr.below hbW) (by omega) hcap).mono ?_
  rintro e w1 ⟨a1, c1, body, q, code, rfl, HU, ho1, hb1⟩
  have hs1 := hb1.size
  have B1 : Below w.heap.size w w1 := hbW.trans (hb1.mono (by omega))
  have b01 := b0.below hb1 b0.lt
  rw [HU.out] at H1 H2 H3 H4 HUL
  simp only at H1 H2 H3 H4 HUL
  clear b0
  by_cases hgood : code = 0 ∧ q = (zs.length : Int)
  case neg =>
    have HPP : Hid (PP = (noP, false)) := H1.out hgood
    clear H1 H2 H3 H4
    by_cases hc0 : code = 0
    · have hq0 : (q == (zs.length : Int)) = false := by simp; exact fun e => hgood ⟨hc0, e⟩
      subst hc0
      clear hgood
      obtain ⟨WF, hWF, hwF, hsF, HTF, HLF, _⟩ := page_out (C := w.heap.size) (T := 31) ⟨0, zero4⟩ rfl _ rfl b01 Tryd.underlying31 rfl (by kernel_rfl)
      have HEND : Hid (∃ ts : List SlotA, Ending.returned (.tuple #[.agg (PageA.cells ⟨0, zero4⟩).toArray, .bool false]) = .returned (.tuple #[.agg (PageA.cells ⟨PP.1.1, ts⟩).toArray, .bool PP.2]) ∧ Hid (ts.map (·.v) = PP.1.2) ∧ OwnS WF w.heap.size WF.heap.size ts ∧ Below w.heap.size w WF) :=
        ⟨zero4, by rw [HPP.out]; rfl, by rw [HPP.out]; rfl, own_zero4 _ _ _ (Nat.le_refl _), B1.trans (hwF.below (Nat.le_refl _) (by have := B1.size; omega))⟩
      clear hwF hsF
      go_wp2_with (first | (guard_target = wpList _ _ _ (Oper.mk none (Op.store _ (Operand.tmp 2) _) _ _ _ _ :: _) _ _; refine wpList_store_mid rfl 31 (.tmp 2) (.tmp 23) rfl w.heap.size 0 (PageA.cells ⟨0, zero4⟩).toArray rfl rfl HTF.out (by rw [List.size_toArray]; exact HI0.out) HO0.out ?_) | fail)
      rw [hWF.out]
      exact bodyPost_ret (v := .tuple #[.agg (PageA.cells ⟨0, zero4⟩).toArray, .bool false]) (results_cell_flag Tryd.results14 rfl HLF.out rfl) rfl HEND.out
    · have hcb : (code == 0) = false := by simpa using hc0
      clear hgood hc0
      obtain ⟨WF, hWF, hwF, hsF, HTF, HLF, _⟩ := page_out (C := w.heap.size) (T := 31) ⟨0, zero4⟩ rfl _ rfl b01 Tryd.underlying31 rfl (by kernel_rfl)
      have HEND : Hid (∃ ts : List SlotA, Ending.returned (.tuple #[.agg (PageA.cells ⟨0, zero4⟩).toArray, .bool false]) = .returned (.tuple #[.agg (PageA.cells ⟨PP.1.1, ts⟩).toArray, .bool PP.2]) ∧ Hid (ts.map (·.v) = PP.1.2) ∧ OwnS WF w.heap.size WF.heap.size ts ∧ Below w.heap.size w WF) :=
        ⟨zero4, by rw [HPP.out]; rfl, by rw [HPP.out]; rfl, own_zero4 _ _ _ (Nat.le_refl _), B1.trans (hwF.below (Nat.le_refl _) (by have := B1.size; omega))⟩
      clear hwF hsF
      go_wp2_with (first | (guard_target = wpList _ _ _ (Oper.mk none (Op.store _ (Operand.tmp 2) _) _ _ _ _ :: _) _ _; refine wpList_store_mid rfl 31 (.tmp 2) (.tmp 23) rfl w.heap.size 0 (PageA.cells ⟨0, zero4⟩).toArray rfl rfl HTF.out (by rw [List.size_toArray]; exact HI0.out) HO0.out ?_) | fail)
      rw [hWF.out]
      exact bodyPost_ret (v := .tuple #[.agg (PageA.cells ⟨0, zero4⟩).toArray, .bool false]) (results_cell_flag Tryd.results14 rfl HLF.out rfl) rfl HEND.out
  case pos =>
  obtain ⟨rfl, rfl⟩ := hgood
  have hbl := HUL.out
  have hbcap := ho1.len_cap
  have H4' : Hid (∀ n l, readP body = some (n, l) → okP n l = true → PP = ((n, l), true)) := H4.out ⟨rfl, rfl⟩ ho1.1
  clear H1 H4
  go_wp2_with fail
  refine (readPage_any a1 c1 body w1 (hg.keep B1) ho1.reads (by omega) hbcap).mono ?_
  rintro e w2 ⟨hans, hb2⟩
  have hs2 := hb2.size
  have B2 : Below w.heap.size w w2 := B1.trans (hb2.mono B1.size)
  have b02 := b01.below hb2 b01.lt
  obtain ⟨W3, hW3, b3, hb3, hs3⟩ := boxes1 w2 [.int .i64 0, .bool false, .int .i64 0, .slice none 0 0, .slice none 0 0, .bool false, .int .i64 0, .slice none 0 0, .slice none 0 0, .bool false, .int .i64 0, .slice none 0 0, .slice none 0 0, .bool false, .int .i64 0, .slice none 0 0, .slice none 0 0] 31
  have b03 := b02.below hb3 b02.lt
  have B3 : Below w.heap.size w W3 := B2.trans (hb3.mono B2.size)
  have hlt2 := b02.lt
  clear b01 b02 hs3
  cases hrp : readP body with
  | none =>
    have HPP : Hid (PP = (noP, false)) := H2.out hrp
    rw [hrp] at hans
    obtain ⟨Q, hQ4, rfl⟩ := hans
    clear hrp H2 H3 H4'
    have HIQ : Hid ((Tryd.prog.info? 31).map (·.size) = some Q.cells.length) := by rw [Hid, page_len Q hQ4]; kernel_rfl
    have HOQ : Hid (_) := all_oneCell_toArray (oneP Q)
    obtain ⟨W4, hW4, hw4, hs4, HT4, _, bQ⟩ := page_out (C := w2.heap.size) (T := 31) Q hQ4 _ rfl b3 Tryd.underlying31 rfl (by kernel_rfl)
    have b04 := b03.within hw4 (by omega)
    have B4 : Below w.heap.size w W4 := B3.trans (hw4.below (by omega) (by have := B3.size; have := hb3.size; omega))
    clear hw4 b3 b03
    go_upto_region 5 with (first | (guard_target = wpList _ _ _ (Oper.mk none (Op.store _ (Operand.tmp 7) _) _ _ _ _ :: _) _ _; refine wpList_store_mid rfl 31 (.tmp 7) (.tmp 27) rfl w2.heap.size 0 Q.cells.toArray rfl rfl (by rw [hW3.out]; exact HT4.out) (by rw [List.size_toArray]; exact HIQ.out) HOQ.out ?_) | fail)
    rw [hW3.out, hW4.out]
    clear hW3 hW4 HT4
    obtain ⟨WF, hWF, hwF, hsF, HTF, HLF, _⟩ := page_out (C := w.heap.size) (T := 31) ⟨0, zero4⟩ rfl _ rfl b04 Tryd.underlying31 rfl (by kernel_rfl)
    have HEND : Hid (∃ ts : List SlotA, Ending.returned (.tuple #[.agg (PageA.cells ⟨0, zero4⟩).toArray, .bool false]) = .returned (.tuple #[.agg (PageA.cells ⟨PP.1.1, ts⟩).toArray, .bool PP.2]) ∧ Hid (ts.map (·.v) = PP.1.2) ∧ OwnS WF w.heap.size WF.heap.size ts ∧ Below w.heap.size w WF) :=
      ⟨zero4, by rw [HPP.out]; rfl, by rw [HPP.out]; rfl, own_zero4 _ _ _ (Nat.le_refl _), B4.trans (hwF.below (Nat.le_refl _) (by have := B4.size; omega))⟩
    clear hwF hsF
    go_wp2_with (first | (guard_target = wpList _ _ _ (Oper.mk none (Op.store _ (Operand.tmp 2) _) _ _ _ _ :: _) _ _; refine wpList_store_mid rfl 31 (.tmp 2) (.tmp 36) rfl w.heap.size 0 (PageA.cells ⟨0, zero4⟩).toArray rfl rfl HTF.out (by rw [List.size_toArray]; exact HI0.out) HO0.out ?_) | fail)
    rw [hWF.out]
    exact bodyPost_ret (v := .tuple #[.agg (PageA.cells ⟨0, zero4⟩).toArray, .bool false]) (results_cell_flag Tryd.results14 rfl HLF.out rfl) rfl HEND.out
  | some nl =>
    obtain ⟨n, l⟩ := nl
    rw [hrp] at hans
    obtain ⟨ts, rfl, hvl, hts4, hsm, hoT⟩ := hans
    have HK3 : Hid (okP n l = false → PP = (noP, false)) := H3.out n l hrp
    have HK4 : Hid (okP n l = true → PP = ((n, l), true)) := H4'.out n l hrp
    have HVL : Hid (_ = _) := hvl
    clear hrp H2 H3 H4' hvl
    have HIQ : Hid ((Tryd.prog.info? 31).map (·.size) = some (PageA.cells ⟨n, ts⟩).length) := by rw [Hid, page_len _ hts4]; kernel_rfl
    have HOQ : Hid (_) := all_oneCell_toArray (oneP ⟨n, ts⟩)
    obtain ⟨W4, hW4, hw4, hs4, HT4, _, bQ⟩ := page_out (C := w2.heap.size) (T := 31) ⟨n, ts⟩ hts4 _ rfl b3 Tryd.underlying31 rfl (by kernel_rfl)
    have b04 := b03.within hw4 (by omega)
    have B4 : Below w.heap.size w W4 := B3.trans (hw4.below (by omega) (by have := B3.size; have := hb3.size; omega))
    have oT4 : OwnS W4 w1.heap.size w2.heap.size ts := (hoT.below hb3).within hw4 (.inl (Nat.le_refl _))
    have HRQ : Hid (∀ w', Below W4.heap.size W4 w' → w'.rangeAt w2.heap.size 0 (PageA.cells ⟨n, ts⟩)) := fun w' hh => Box.range [] (PageA.cells ⟨n, ts⟩) [] (by simpa using bQ.below hh bQ.lt)
    have rQ := HRQ.out _ (Below.refl _ _)
    have hltQ := bQ.lt
    have C := implPageOk_any ⟨n, ts⟩ hts4 W4 (hg.keep B4) oT4.reads (fun s hs => by have := hsm s hs; omega)
    simp only [HVL.out] at C
    clear hw4 b3 b03 hoT hsm
    generalize hPQ : (⟨n, ts⟩ : PageA) = Q at *
    have HQe : Hid (Q = ⟨n, ts⟩) := hPQ.symm
    clear hPQ
    go_wp2_with (first | (guard_target = wpList _ _ _ (Oper.mk none (Op.store _ (Operand.tmp 7) _) _ _ _ _ :: _) _ _; refine wpList_store_mid rfl 31 (.tmp 7) (.tmp 27) rfl w2.heap.size 0 Q.cells.toArray rfl rfl (by rw [hW3.out]; exact HT4.out) (by rw [List.size_toArray]; exact HIQ.out) HOQ.out ?_) | (guard_target = wpList _ _ _ (Oper.mk (some 32) _ _ _ _ _ :: _) _ _; refine wpList_load_mid_if (by rfl) 31 (.tmp 7) rfl w2.heap.size 0 rfl Q.cells _ (by rw [hW3.out, hW4.out]; exact rQ) Tryd.underlying31 rfl HIQ.out ?_) | fail)
    rw [hW3.out, hW4.out]
    clear hW3 hW4 HT4 rQ
    refine C.mono ?_
    clear C
    rintro e w5 ⟨rfl, hb5⟩
    have hs5 := hb5.size
    have b05 := b04.below hb5 b04.lt
    have B5 : Below w.heap.size w w5 := B4.trans (hb5.mono B4.size)
    have oT5 := oT4.below hb5
    have rQ5 := HRQ.out _ hb5
    cases hok : okP n l with
    | false =>
      have HPP : Hid (PP = (noP, false)) := HK3.out hok
      clear hok HK3 HK4
      obtain ⟨WF, hWF, hwF, hsF, HTF, HLF, _⟩ := page_out (C := w.heap.size) (T := 31) ⟨0, zero4⟩ rfl _ rfl b05 Tryd.underlying31 rfl (by kernel_rfl)
      have HEND : Hid (∃ ts : List SlotA, Ending.returned (.tuple #[.agg (PageA.cells ⟨0, zero4⟩).toArray, .bool false]) = .returned (.tuple #[.agg (PageA.cells ⟨PP.1.1, ts⟩).toArray, .bool PP.2]) ∧ Hid (ts.map (·.v) = PP.1.2) ∧ OwnS WF w.heap.size WF.heap.size ts ∧ Below w.heap.size w WF) :=
        ⟨zero4, by rw [HPP.out]; rfl, by rw [HPP.out]; rfl, own_zero4 _ _ _ (Nat.le_refl _), B5.trans (hwF.below (Nat.le_refl _) (by have := B5.size; omega))⟩
      clear hwF hsF
      go_wp2_with (first | (guard_target = wpList _ _ _ (Oper.mk none (Op.store _ (Operand.tmp 2) _) _ _ _ _ :: _) _ _; refine wpList_store_mid rfl 31 (.tmp 2) (.tmp 36) rfl w.heap.size 0 (PageA.cells ⟨0, zero4⟩).toArray rfl rfl HTF.out (by rw [List.size_toArray]; exact HI0.out) HO0.out ?_) | fail)
      rw [hWF.out]
      exact bodyPost_ret (v := .tuple #[.agg (PageA.cells ⟨0, zero4⟩).toArray, .bool false]) (results_cell_flag Tryd.results14 rfl HLF.out rfl) rfl HEND.out
    | true =>
      have HPP : Hid (PP = ((n, l), true)) := HK4.out hok
      clear hok HK3 HK4
      have hQ4 : Q.ss.length = 4 := by rw [HQe.out]; exact hts4
      obtain ⟨WF, hWF, hwF, hsF, HTF, HLF, _⟩ := page_out (C := w.heap.size) (T := 31) Q hQ4 _ rfl b05 Tryd.underlying31 rfl (by kernel_rfl)
      have HOF : Hid (OwnS WF w.heap.size WF.heap.size ts) := (oT5.within hwF (.inr (by omega))).widen (by omega) (by omega) (Nat.le_refl _)
      have HEND : Hid (∃ ts : List SlotA, Ending.returned (.tuple #[.agg Q.cells.toArray, .bool true]) = .returned (.tuple #[.agg (PageA.cells ⟨PP.1.1, ts⟩).toArray, .bool PP.2]) ∧ Hid (ts.map (·.v) = PP.1.2) ∧ OwnS WF w.heap.size WF.heap.size ts ∧ Below w.heap.size w WF) :=
        ⟨ts, by rw [HPP.out, HQe.out], by rw [HPP.out]; exact HVL.out, HOF.out, B5.trans (hwF.below (Nat.le_refl _) (by have := B5.size; omega))⟩
      clear hwF hsF HOF HQe
      go_wp2_with (first | (guard_target = wpList _ _ _ (Oper.mk (some 37) _ _ _ _ _ :: _) _ _; refine wpList_load_mid rfl 31 (.tmp 7) rfl w2.heap.size 0 rfl Q.cells _ rQ5 Tryd.underlying31 rfl HIQ.out ?_) | (guard_target = wpList _ _ _ (Oper.mk none (Op.store _ (Operand.tmp 2) _) _ _ _ _ :: _) _ _; refine wpList_store_mid rfl 31 (.tmp 2) (.tmp 37) rfl w.heap.size 0 Q.cells.toArray rfl rfl HTF.out (by rw [List.size_toArray]; exact HIQ.out) HOQ.out ?_) | fail)
      rw [hWF.out]
      exact bodyPost_ret (v := .tuple #[.agg Q.cells.toArray, .bool true]) (results_cell_flag Tryd.results14 rfl HLF.out rfl) rfl HEND.out
end Go.Proofs.YtbaocehcnjdkkaaDoor

/- The walk of impl.copyPage. -/
namespace Go.Proofs.YtbaocehcnjdkkaaDoor
open Go.RowKit

set_option maxHeartbeats 2000000 in
set_option maxRecDepth 100000 in
theorem copyPage_own (p : PageA) (h4 : p.ss.length = 4) (w : World) (hr : ReadsS w p.ss) (hl : Fit p.ss) :
    Calls Tryd.prog 44 #[.agg p.cells.toArray] w fun e w' => ∃ ts : List SlotA, e = .returned (.agg (PageA.cells ⟨p.lsn, ts⟩).toArray) ∧ Hid (ts.map (·.v) = p.ss.map (·.v)) ∧ OwnS w' w.heap.size w'.heap.size ts ∧ Below w.heap.size w w' := by
  obtain ⟨n, ss⟩ := p
  simp only [PageA.cells] at *
  obtain ⟨W, hW, b0, b1, b2, hbW, hsW⟩ := boxes3 w (.int .i64 n :: cellsS ss) [.int .i64 0, .bool false, .int .i64 0, .slice none 0 0, .slice none 0 0, .bool false, .int .i64 0, .slice none 0 0, .slice none 0 0, .bool false, .int .i64 0, .slice none 0 0, .slice none 0 0, .bool false, .int .i64 0, .slice none 0 0, .slice none 0 0] [.int .i64 n, .bool false, .int .i64 0, .slice none 0 0, .slice none 0 0, .bool false, .int .i64 0, .slice none 0 0, .slice none 0 0, .bool false, .int .i64 0, .slice none 0 0, .slice none 0 0, .bool false, .int .i64 0, .slice none 0 0, .slice none 0 0] 31 31 31
  have b1' : Box W (w.heap.size + 1) ([] ++ ((.int .i64 0 :: cellsS zero4) ++ [])) 31 := b1
  have b2' : Box W (w.heap.size + 1 + 1) (.int .i64 n :: cellsS ([] ++ List.replicate (4 - 0) zeroS)) 31 := b2
  have hsW' : w.heap.size + 1 + 1 < W.heap.size := by omega
  have hc0 : (((w.alloc (.cells (.int .i64 n :: cellsS ss).toArray 31)).alloc (.cells #[.int .i64 0, .bool false, .int .i64 0, .slice none 0 0, .slice none 0 0, .bool false, .int .i64 0, .slice none 0 0, .slice none 0 0, .bool false, .int .i64 0, .slice none 0 0, .slice none 0 0, .bool false, .int .i64 0, .slice none 0 0, .slice none 0 0] 31))).cell? ⟨w.heap.size, 0, none⟩ = some (.int .i64 n) := ((box_new w (.int .i64 n :: cellsS ss) 31).alloc _).cell 0 _ rfl
  have hrg0 : W.rangeAt w.heap.size 1 (cellsS ss) := Box.range [.int .i64 n] (cellsS ss) [] (by simpa using b0)
  have hi0 : (Tryd.prog.info? 29).map (·.size) = some (cellsS ss).length := by rw [cellsS_len, h4]; kernel_rfl
  have HX := run_index_slot ss h4
  have H4 : Hid (ss.length = 4) := h4
  clear b1 b2 hsW h4
  go_enter Tryd.func44, Tryd.ntmps44
  go_wp2_with (first | (guard_target = wpList _ _ _ (Oper.mk (some 10) _ _ _ _ _ :: _) _ _; refine wpList_load_mid rfl 29 (.tmp 9) rfl w.heap.size 1 rfl (cellsS ss) _ (by rw [hW.out]; exact hrg0) Tryd.underlying29 rfl hi0 ?_) | fail)
  rw [hW.out]
  clear hW hrg0 hi0 hc0
  go_loopw [11] (fun i wr => ∃ (k : Nat) (ts : List SlotA), i = .int .i64 k ∧ k ≤ 4 ∧ Hid (ts.length = k ∧ ts.map (·.v) = (ss.take k).map (·.v)) ∧ OwnS wr W.heap.size wr.heap.size ts ∧ Box wr (w.heap.size + 1 + 1) (.int .i64 n :: cellsS (ts ++ List.replicate (4 - k) zeroS)) 31 ∧ Below (w.heap.size + 1 + 1) W wr)
    (fun i _ => 4 - (intOf i).toNat)
  case atStart => exact ⟨0, [], rfl, by omega, ⟨rfl, rfl⟩, OwnS.nil _ _ _, b2', Below.refl _ _⟩
  case round =>
    obtain ⟨k, ts, rfl, hk, hts, hown, hbox, hbl⟩ := hrel
    clear b2'
    have b1r := b1'.below hbl (by omega)
    have hsr := hbl.size
    have hsz := hbox.lt
    by_cases hlt : k < 4
    · have hkl : k < ss.length := by rw [H4.out]; exact hlt
      have hx := HX k hlt
      clear HX
      have hrk := (hr _ (getD_mem hkl)).below (hbW.trans (hbl.mono (by omega)))
      have hlk := hl _ (getD_mem hkl)
      have HV : Hid ((ss.take (k + 1)).map (·.v) = (ss.take k).map (·.v) ++ [(ss.getD k zeroS).v]) := by
        rw [Hid, List.take_add_one, List.map_append]
        simp [List.getD, hkl]
      generalize ss.getD k zeroS = s at *
      simp only [SlotA.cells] at hx
      obtain ⟨W1, hW1, bx, hbx1, hsx1⟩ := boxes1 wr [.bool s.v.has, .int .i64 s.v.o.kind, .slice s.aI s.v.o.ints.length s.cI, .slice s.aR s.v.o.refs.length s.cR] 28
      have C := copySlot_own s W1 (ReadsO.below hrk hbx1) hlk.1 hlk.2
      simp only [SlotA.cells] at C
      go_wp2_with fail
      rw [hW1.out]
      refine C.mono ?_
      clear C hx hrk hlk
      rintro e w1 ⟨t, rfl, hv, ho, hb1⟩
      have hs1 := hb1.size
      have N1 : Below wr.heap.size wr w1 := hbx1.trans (hb1.mono (by omega))
      have hbx := hbox.below N1 hsz
      have hkt : k < (ts ++ List.replicate (4 - k) zeroS).length := by have := hts.out.1; simp; omega
      obtain ⟨W2, hW2, b2, hw2, hs2⟩ := pslot_fill hbx k hkt t
      obtain ⟨x0, x1, x2, x3, hfz⟩ := hbx.pslot k hkt
      have f0 := hfz (1 + k * 4)
      have f1 := hfz (1 + k * 4 + 1)
      have f2 := hfz (1 + k * 4 + 2)
      have f3 := hfz (1 + k * 4 + 3)
      generalize (ts ++ List.replicate (4 - k) zeroS).getD k zeroS = old at *
      have b2' : Box W2 (w.heap.size + 1 + 1) (.int .i64 n :: cellsS ((ts ++ [t]) ++ List.replicate (4 - (k + 1)) zeroS)) 31 := by
        rw [show 4 - k = (4 - (k + 1)) + 1 by omega] at b2
        have e := set_snoc ts (4 - (k + 1)) t
        rw [hts.out.1] at e
        rw [e] at b2
        exact b2
      have hown1 : OwnS w1 W.heap.size W1.heap.size ts := (hown.below N1).widen (Nat.le_refl _) (by omega) (by omega)
      have hO1 : OwnS w1 W.heap.size w1.heap.size (ts ++ [t]) := hown1.snoc ho (by omega) hs1 (Nat.le_refl _)
      have hO2 : OwnS W2 W.heap.size W2.heap.size (ts ++ [t]) := (hO1.within hw2 (.inr (by omega))).widen (Nat.le_refl _) (by omega) (Nat.le_refl _)
      have hB2 : Below (w.heap.size + 1 + 1) W W2 := (hbl.trans (N1.mono (by omega))).trans (hw2.below (Nat.le_refl _) (by omega))
      have HT : Hid ((ts ++ [t]).length = k + 1 ∧ (ts ++ [t]).map (·.v) = (ss.take (k + 1)).map (·.v)) := by
        refine ⟨by have := hts.out.1; simp; omega, ?_⟩
        rw [HV.out, List.map_append, hts.out.2, ← hv.out]
        rfl
      have hi0 : (0 : Int) ≤ (k : Int) := by omega
      have hi4 : (k : Int) < 4 := by omega
      clear hfz hs2 hw2 b2 hO1 hown hown1 hbox hbx hts HV hkt hb1 ho N1 hbx1
      go_wp2_with fail
      rw [hW2.out]
      go_roundw
      case rel => exact ⟨k + 1, ts ++ [t], by go_num, by omega, HT, hO2, b2', hB2⟩
      case measure => simp [intOf]; omega
    · obtain rfl : k = 4 := by omega
      have hkk : ¬ ((4 : Nat) : Int) < 4 := by omega
      have hrp : ts ++ List.replicate (4 - 4) zeroS = ts := by simp
      rw [hrp] at hbox
      have htl : ts.length = 4 := hts.out.1
      have HMV : Hid (ts.map (·.v) = ss.map (·.v)) := by rw [Hid, hts.out.2, List.take_of_length_le (by rw [H4.out]; omega)]
      obtain ⟨WF, hWF, bF, hwF, hsF⟩ := range_fill [] (.int .i64 0 :: cellsS zero4) (.int .i64 n :: cellsS ts) [] b1r (by simp only [List.length_cons, cellsS_len, htl]; rfl)
      have HWF : Hid (wr.setCells (w.heap.size + 1) 0 (.int .i64 n :: cellsS ts) = WF) := hWF.out
      have HR2 : Hid (wr.rangeAt (w.heap.size + 1 + 1) 0 (.int .i64 n :: cellsS ts)) := Box.range [] (.int .i64 n :: cellsS ts) [] (by simpa using hbox)
      have HTF : Hid (wr.there (w.heap.size + 1) 0 (.int .i64 n :: cellsS ts).toArray.size) := b1r.there 0 _ (by simp only [List.size_toArray, cellsS_len, htl, List.length_append, List.length_cons, List.length_nil]; decide)
      have hrF : WF.rangeAt (w.heap.size + 1) 0 (.int .i64 n :: cellsS ts) := Box.range [] (.int .i64 n :: cellsS ts) [] (by simpa using bF)
      have HI : Hid ((Tryd.prog.info? 31).map (·.size) = some (.int .i64 n :: cellsS ts).length) := by rw [Hid, List.length_cons, cellsS_len, htl]; kernel_rfl
      have HO : Hid (_) := all_oneCell_toArray (oneP ⟨n, ts⟩)
      have HLF : Hid (_) := run_loadVar_mid (P := Tryd.prog) _ (w.heap.size + 1) 0 31 (.int .i64 n :: cellsS ts) _ hrF Tryd.underlying31 rfl HI.out
      have HOF : Hid (OwnS WF w.heap.size WF.heap.size ts) := (hown.within hwF (.inr (by omega))).widen (by omega) (by omega) (Nat.le_refl _)
      have HBF : Hid (Below w.heap.size w WF) := (hbW.trans (hbl.mono (by omega))).trans (hwF.below (by omega) (by omega))
      simp only [PageA.cells] at HO
      clear hWF bF hwF hsF hrF hrp htl hbox hown HX hts
      go_wp2_with (first | (guard_target = wpList _ _ _ (Oper.mk (some 21) _ _ _ _ _ :: _) _ _; refine wpList_load_mid rfl 31 (.tmp 3) rfl (w.heap.size + 1 + 1) 0 rfl (.int .i64 n :: cellsS ts) _ HR2.out Tryd.underlying31 rfl HI.out ?_) | (guard_target = wpList _ _ _ (Oper.mk none (Op.store _ (Operand.tmp 2) _) _ _ _ _ :: _) _ _; refine wpList_store_mid rfl 31 (.tmp 2) (.tmp 21) rfl (w.heap.size + 1) 0 (.int .i64 n :: cellsS ts).toArray rfl rfl HTF.out (by rw [List.size_toArray]; exact HI.out) HO.out ?_) | fail)
      rw [HWF.out]
      exact bodyPost_ret (v := .agg (.int .i64 n :: cellsS ts).toArray) (results_one Tryd.results44 rfl HLF.out) rfl ⟨ts, rfl, HMV, HOF.out, HBF.out⟩
end Go.Proofs.YtbaocehcnjdkkaaDoor
