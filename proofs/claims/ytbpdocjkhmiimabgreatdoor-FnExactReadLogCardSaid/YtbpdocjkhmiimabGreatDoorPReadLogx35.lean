/- Several texts in one, in their order. -/
import Derived.Test.YtbpdocjkhmiimabGreatDoorPReadLogx12
import Derived.Test.YtbpdocjkhmiimabGreatDoorPReadLogx20
import Derived.Test.YtbpdocjkhmiimabGreatDoorPReadLogx26
import Derived.Test.YtbpdocjkhmiimabGreatDoorPReadLogx2
import Derived.Test.YtbpdocjkhmiimabGreatDoorPReadLogx21
import Derived.Deep.RegionHeld3
import Derived.Test.YtbpdocjkhmiimabGreatDoorPReadLogx14
import Derived.Test.YtbpdocjkhmiimabGreatDoorPReadLogx22
import Derived.Lib.ConvBytes
/- The walk of impl.readParts. -/
namespace Go.Proofs.YtbpdocjkhmiimabGreatDoor
open Go.RowKit

/-- What readParts answers. -/
def PartsAns (w' : World) (lo : Nat) (x : Option (List Int × Nat)) (e : Ending) : Prop := match x with
  | some (l, q) => ∃ a' c', e = .returned (.tuple #[.slice a' l.length c', .int .i64 (q : Nat), .nilIface]) ∧ OwnI w' lo w'.heap.size a' c' l
  | none => ∃ s, e = .returned (.tuple #[.slice none 0 0, .int .i64 0, .iface 167 (.agg #[.string s])])
theorem partsAns_none {w' : World} {lo : Nat} {x : Option (List Int × Nat)} (h : x = none) (s : ByteArray) : PartsAns w' lo x (.returned (.tuple #[.slice none 0 0, .int .i64 0, .iface 167 (.agg #[.string s])])) := by
  subst h; exact ⟨s, rfl⟩
theorem partsAns_some {w' : World} {lo : Nat} {x : Option (List Int × Nat)} {l : List Int} {q : Nat} (h : x = some (l, q)) (a' : Option Addr) (c' n : Nat) (hn : n = l.length) (ho : OwnI w' lo w'.heap.size a' c' l) : PartsAns w' lo x (.returned (.tuple #[.slice a' n c', .int .i64 (q : Nat), .nilIface])) := by
  subst h; subst hn; exact ⟨a', c', rfl, ho⟩

theorem partsAt_none {zs : List Int} {p : Nat} (h : getAt zs (p : Int) = none) : partsAt zs p = none := by unfold partsAt; rw [h]
theorem partsAt_bad {zs : List Int} {p q : Nat} {n : Int} (h : getAt zs (p : Int) = some (n, q)) (hn : n < 0 ∨ 5 < n) : partsAt zs p = none := by
  unfold partsAt; rw [h]; simp only; rw [if_neg (by omega)]
theorem partsAt_good {zs : List Int} {p q m : Nat} (h : getAt zs (p : Int) = some ((m : Int), q)) (hm : m ≤ 5) : partsAt zs p = numsAt zs m q := by
  unfold partsAt; rw [h]; simp only; rw [if_pos (by omega), Int.toNat_natCast]

set_option maxHeartbeats 2000000 in
set_option maxRecDepth 100000 in
theorem readParts_any (a : Option Addr) (c : Nat) (zs : List Int) (p : Nat) (w : World) (hr : Reads w a zs) (hl : zs.length ≤ 70368744177664) (hcap : zs.length ≤ c) :
    Calls Tryz.prog 154 #[.slice a zs.length c, .int .i64 p] w fun e w' => PartsAns w' w.heap.size (partsAt zs p) e ∧ Below w.heap.size w w' := by
  cases hg : getAt zs (p : Int) with
  | none =>
    have HX : Hid (_ = _) := partsAt_none hg
    have HG : Hid (_ = _) := hg
    clear hg
    generalize partsAt zs p = X at *
    go_enter Tryz.func154, Tryz.ntmps154
    go_wp2_with fail
    refine (implGetInt_any a c zs p w hr hl hcap).mono ?_
    rintro e w' ⟨rfl, rfl⟩
    rw [HG.out]
    simp only [triple]
    go_wp2
    go_ret3
    exact ⟨partsAns_none HX.out _, Below.refl _ _⟩
  | some t =>
    obtain ⟨n, q⟩ := t
    by_cases hn0 : n < 0
    · have HX : Hid (_ = _) := partsAt_bad hg (.inl hn0)
      have HG : Hid (_ = _) := hg
      clear hg
      generalize partsAt zs p = X at *
      go_enter Tryz.func154, Tryz.ntmps154
      go_wp2_with fail
      refine (implGetInt_any a c zs p w hr hl hcap).mono ?_
      rintro e w' ⟨rfl, rfl⟩
      rw [HG.out]
      simp only [triple]
      go_wp2
      go_ret3
      exact ⟨partsAns_none HX.out _, Below.refl _ _⟩
    by_cases hn5 : 5 < n
    · have HX : Hid (_ = _) := partsAt_bad hg (.inr hn5)
      have HG : Hid (_ = _) := hg
      clear hg
      generalize partsAt zs p = X at *
      go_enter Tryz.func154, Tryz.ntmps154
      go_wp2_with fail
      refine (implGetInt_any a c zs p w hr hl hcap).mono ?_
      rintro e w' ⟨rfl, rfl⟩
      rw [HG.out]
      simp only [triple]
      go_wp2
      go_ret3
      exact ⟨partsAns_none HX.out _, Below.refl _ _⟩
    obtain ⟨m, rfl⟩ : ∃ m : Nat, n = (m : Int) := ⟨n.toNat, by omega⟩
    have hm5 : m ≤ 5 := by omega
    have HX : Hid (onTo [] (numsAt zs (m - 0) q) = partsAt zs p) := by rw [Hid, partsAt_good hg hm5, onTo_nil]; rfl
    have HG : Hid (_ = _) := hg
    clear hg
    generalize partsAt zs p = X at *
    obtain ⟨i0, hi, hz0, hz1, hz2⟩ := info_parts Tryz.infoInt
    go_enter Tryz.func154, Tryz.ntmps154
    go_wp2_with fail
    refine (implGetInt_any a c zs p w hr hl hcap).mono ?_
    rintro e w' ⟨rfl, rfl⟩
    rw [HG.out]
    simp only [triple]
    go_wp2_with (at_make; refine wpList_make_full _ rfl _ _ 52 rfl w'.heap.size 3 i0 (.int .i64 0) 1 Tryz.underlying52 hi hz0 hz1 _ _ _ _ m rfl rfl rfl rfl (by rw [hz2]; omega) (by simp [maxLen]; omega) (Nat.le_refl _) ?_)
    intro w0 hown0 hgrow0
    have hown1 : w0.ownsRow w'.heap.size 3 1 (.slice (some ⟨w'.heap.size, 0, none⟩) m m) m ((rowI [] m).map (Value.int .i64)) := by
      rw [rowI_nil, List.map_replicate]
      simpa [Value.cells, toList_madeCells_one] using hown0
    have hb0 : Below w'.heap.size w' w0 := (Below.refl _ _).grown hgrow0 (Nat.le_refl _) (fun k h => by cases h)
    clear hown0 hgrow0
    go_wp2
    go_loopw [1, 34] (fun at_ i wr => ∃ (L : List Int) (k r : Nat), Hid (L.length = k) ∧ k ≤ m ∧ i = .int .i64 k ∧ at_ = .int .i64 r ∧ Hid (onTo L (numsAt zs (m - k) r) = X) ∧ Hid (wr.ownsRow w'.heap.size 3 1 (.slice (some ⟨w'.heap.size, 0, none⟩) m m) m ((rowI L m).map (Value.int .i64))) ∧ Below w'.heap.size w' wr)
      (fun _ i _ => m - (intOf i).toNat)
    case atStart => exact ⟨[], 0, q, rfl, Nat.zero_le _, rfl, rfl, HX, hown1, hb0⟩
    case round =>
      obtain ⟨L, k, r, hL, hk, rfl, rfl, hX, hownH, hnx⟩ := hrel
      clear hown1 hb0 HX
      by_cases hlt : k < m
      · have hown := hownH.out
        have hfz := hown.frozenAt k
        obtain ⟨u, hct⟩ := own_cell hown k hlt
        cases hg : getAt zs (r : Int) with
        | none =>
          have HG2 : Hid (_ = _) := hg
          have HXN : Hid (X = none) := by
            have e : m - k = (m - k - 1) + 1 := by omega
            rw [Hid, ← hX.out, e, onTo_stop zs L _ r hg]
          have hbS : Below w'.heap.size w' (wr.setCell ⟨w'.heap.size, k, none⟩ (.int .i64 0)) := hnx.setCell (Nat.le_refl _) _
          have HBS : Hid (_) := hbS
          clear hg hown hbS
          go_wp2_with fail
          refine (implGetInt_any a c zs r wr (hr.below hnx) hl hcap).mono ?_
          rintro e w2 ⟨rfl, rfl⟩
          rw [HG2.out]
          simp only [triple]
          go_wp2
          go_ret3
          exact ⟨partsAns_none HXN.out _, HBS.out⟩
        | some t =>
          obtain ⟨z, r2⟩ := t
          have HG2 : Hid (_ = _) := hg
          have HXS : Hid (onTo (L ++ [z]) (numsAt zs (m - (k + 1)) r2) = X) := by
            have e : m - k = (m - (k + 1)) + 1 := by omega
            rw [Hid, ← hX.out, e, onTo_step zs L _ r r2 z hg]
          have HLS : Hid ((L ++ [z]).length = k + 1) := by rw [Hid, List.length_append, hL.out]; rfl
          have HS : Hid ((wr.setCell ⟨w'.heap.size, k, none⟩ (.int .i64 z)).ownsRow w'.heap.size 3 1 (.slice (some ⟨w'.heap.size, 0, none⟩) m m) m ((rowI (L ++ [z]) m).map (Value.int .i64))) := by
            have h1 := (hown.stored k (.int .i64 z)).1
            have h2 := rowI_set_map L m z (by rw [hL.out]; exact hlt)
            rw [hL.out] at h2
            rw [h2] at h1
            exact h1
          have HN : Hid (Below w'.heap.size w' (wr.setCell ⟨w'.heap.size, k, none⟩ (.int .i64 z))) := hnx.setCell (Nat.le_refl _) _
          clear hg hown
          go_wp2_with fail
          refine (implGetInt_any a c zs r wr (hr.below hnx) hl hcap).mono ?_
          rintro e w2 ⟨rfl, rfl⟩
          rw [HG2.out]
          simp only [triple]
          go_wp2
          go_roundw
          case rel => exact ⟨L ++ [z], k + 1, r2, HLS, by omega, by go_num, rfl, HXS, HS, HN.out⟩
          case measure => simp [intOf]; omega
      · obtain rfl : k = m := by omega
        have HXS : Hid (X = some (L, r)) := by rw [Hid, ← hX.out, Nat.sub_self, numsAt]; simp [onTo]
        have HO : Hid (OwnI wr w'.heap.size wr.heap.size (some ⟨w'.heap.size, 0, none⟩) k L) := by
          have h1 := hownH.out
          have e : rowI L k = L := by rw [← hL.out]; exact rowI_all L
          rw [e] at h1
          refine ⟨?_, Nat.le_refl _, ?_⟩
          · rw [hL.out]; exact h1
          · intro j hj; rw [hL.out] at hj; exact (h1.lt j hj).2
        go_wp2
        go_ret3
        exact ⟨partsAns_some HXS.out _ _ _ hL.out.symm HO.out, hnx⟩
end Go.Proofs.YtbpdocjkhmiimabGreatDoor

/- The walk of impl.foundObj. -/
namespace Go.Proofs.YtbpdocjkhmiimabGreatDoor
open Go.RowKit

set_option maxHeartbeats 1000000 in
set_option maxRecDepth 100000 in
theorem foundObj_ok (k : Int) (aI : Option Addr) (nI cI : Nat) (aR : Option Addr) (nR cR : Nat) (w : World) : Calls Tryz.prog 149 #[.agg #[.int .i64 k, .slice aI nI cI, .slice aR nR cR], .nilIface] w fun e w' => e = .returned (.tuple #[.agg #[.int .i64 k, .slice aI nI cI, .slice aR nR cR], .bool true]) ∧ Below w.heap.size w w' := by
  obtain ⟨W, hW, b0, b1, hbW, hsW⟩ := boxes2 w [.int .i64 k, .slice aI nI cI, .slice aR nR cR] [.int .i64 0, .slice none 0 0, .slice none 0 0] 54 54
  go_enter Tryz.func149, Tryz.ntmps149
  go_wp2_with fail
  rw [hW.out]
  refine (isNo_nil W).mono ?_
  rintro e w1 ⟨rfl, hb1⟩
  have B1 : Below w.heap.size w w1 := hbW.trans (hb1.mono hbW.size)
  obtain ⟨x0, x1, x2, _, _, _⟩ := (b0.below hb1 b0.lt).three
  have bR := b1.below hb1 b1.lt
  obtain ⟨y0, y1, y2, f0, f1, f2⟩ := bR.three
  obtain ⟨WF, hWF, bF, hwF, _⟩ := box3_fill bR (.int .i64 k) (.slice aI nI cI) (.slice aR nR cR)
  have HB : Hid (Below w.heap.size w WF) := B1.trans (hwF.below (by omega) (by have := hb1.size; omega))
  clear hwF hb1 B1
  go_wp2
  rw [hWF.out]
  obtain ⟨q0, q1, q2, _, _, _⟩ := bF.three
  exact bodyPost_ret (v := .tuple #[.agg #[.int .i64 k, .slice aI nI cI, .slice aR nR cR], .bool true]) (by simp [results, Tryz.results149, go_sem, q0, q1, q2]) rfl ⟨rfl, HB.out⟩

set_option maxHeartbeats 1000000 in
set_option maxRecDepth 100000 in
theorem foundObj_no (k : Int) (aI : Option Addr) (nI cI : Nat) (aR : Option Addr) (nR cR : Nat) (s : ByteArray) (w : World) (hg : ErrT w) : Calls Tryz.prog 149 #[.agg #[.int .i64 k, .slice aI nI cI, .slice aR nR cR], .iface 167 (.agg #[.string s])] w fun e w' => e = .returned (.tuple #[.agg #[.int .i64 0, .slice none 0 0, .slice none 0 0], .bool false]) ∧ Below w.heap.size w w' := by
  obtain ⟨W, hW, b0, b1, hbW, hsW⟩ := boxes2 w [.int .i64 k, .slice aI nI cI, .slice aR nR cR] [.int .i64 0, .slice none 0 0, .slice none 0 0] 54 54
  go_enter Tryz.func149, Tryz.ntmps149
  go_wp2_with fail
  rw [hW.out]
  refine (isNo_hit s W (hg.keep hbW)).mono ?_
  rintro e w1 ⟨rfl, hb1⟩
  have B1 : Below w.heap.size w w1 := hbW.trans (hb1.mono hbW.size)
  have bR := b1.below hb1 b1.lt
  obtain ⟨y0, y1, y2, f0, f1, f2⟩ := bR.three
  obtain ⟨WF, hWF, bF, hwF, _⟩ := box3_fill bR (.int .i64 0) (.slice none 0 0) (.slice none 0 0)
  have HB : Hid (Below w.heap.size w WF) := B1.trans (hwF.below (by omega) (by have := hb1.size; omega))
  clear hwF hb1 B1
  go_wp2
  rw [hWF.out]
  obtain ⟨q0, q1, q2, _, _, _⟩ := bF.three
  exact bodyPost_ret (v := .tuple #[.agg #[.int .i64 0, .slice none 0 0, .slice none 0 0], .bool false]) (by simp [results, Tryz.results149, go_sem, q0, q1, q2]) rfl ⟨rfl, HB.out⟩
end Go.Proofs.YtbpdocjkhmiimabGreatDoor

/- The walks of impl.readObj and impl.GetObj. -/
namespace Go.Proofs.YtbpdocjkhmiimabGreatDoor
open Go.RowKit

/-- What readObj answers. -/
def ReadAns (w' : World) (lo : Nat) (x : Option ObjV) (e : Ending) : Prop := match x with
  | some o => ∃ aI cI aR cR ev, e = .returned (.tuple #[.agg #[.int .i64 o.kind, .slice aI o.ints.length cI, .slice aR o.refs.length cR], ev]) ∧ IsErr (okB o) (.returned ev) ∧ OwnO w' lo w'.heap.size aI cI aR cR o
  | none => ∃ s, e = .returned (.tuple #[.agg #[.int .i64 0, .slice none 0 0, .slice none 0 0], .iface 167 (.agg #[.string s])])
theorem readAns_none {w' : World} {lo : Nat} {x : Option ObjV} (h : x = none) (s : ByteArray) : ReadAns w' lo x (.returned (.tuple #[.agg #[.int .i64 0, .slice none 0 0, .slice none 0 0], .iface 167 (.agg #[.string s])])) := by
  subst h; exact ⟨s, rfl⟩
theorem readAns_some {w' : World} {lo : Nat} {x : Option ObjV} {o : ObjV} (h : x = some o) {aI : Option Addr} {cI : Nat} {aR : Option Addr} {cR : Nat} {ev : Value} (he : IsErr (okB o) (.returned ev)) (ho : OwnO w' lo w'.heap.size aI cI aR cR o) : ReadAns w' lo x (.returned (.tuple #[.agg #[.int .i64 o.kind, .slice aI o.ints.length cI, .slice aR o.refs.length cR], ev])) := by
  subst h; exact ⟨aI, cI, aR, cR, ev, rfl, he, ho⟩
theorem isErr_ret {ok : Bool} {e : Ending} (h : IsErr ok e) : ∃ ev, e = .returned ev := by
  rcases h with ⟨_, rfl⟩ | ⟨_, s, rfl⟩
  · exact ⟨_, rfl⟩
  · exact ⟨_, rfl⟩

theorem readAll_none0 {zs : List Int} (h : getAt zs 0 = none) : readAll zs = none := by unfold readAll; rw [h]
theorem readAll_none1 {zs : List Int} {k : Int} {p : Nat} (h : getAt zs 0 = some (k, p)) (h1 : partsAt zs p = none) : readAll zs = none := by unfold readAll; rw [h]; simp only; rw [h1]
theorem readAll_none2 {zs : List Int} {k : Int} {p q : Nat} {is : List Int} (h : getAt zs 0 = some (k, p)) (h1 : partsAt zs p = some (is, q)) (h2 : partsAt zs q = none) : readAll zs = none := by
  unfold readAll; rw [h]; simp only; rw [h1]; simp only; rw [h2]
theorem readAll_at {zs : List Int} {k : Int} {p q r : Nat} {is rs : List Int} (h : getAt zs 0 = some (k, p)) (h1 : partsAt zs p = some (is, q)) (h2 : partsAt zs q = some (rs, r)) : readAll zs = if r = zs.length then some ⟨k, is, rs⟩ else none := by
  unfold readAll; rw [h]; simp only; rw [h1]; simp only; rw [h2]

set_option maxHeartbeats 4000000 in
set_option maxRecDepth 100000 in
theorem readObj_any (a : Option Addr) (c : Nat) (zs : List Int) (w : World) (hr : Reads w a zs) (hl : zs.length ≤ 70368744177664) (hcap : zs.length ≤ c) :
    Calls Tryz.prog 150 #[.slice a zs.length c] w fun e w' => ReadAns w' w.heap.size (readAll zs) e ∧ Below w.heap.size w w' := by
  generalize hXX : readAll zs = X
  have HXX : Hid (readAll zs = X) := hXX
  clear hXX
  obtain ⟨W, hW, b0, hbW, hsW⟩ := boxes1 w [.int .i64 0, .slice none 0 0, .slice none 0 0] 54
  obtain ⟨x0, x1, x2, f0, f1, f2⟩ := b0.three
  have hrW := hr.below hbW
  have hblt := b0.lt
  cases hg : getAt zs 0 with
  | none =>
    have HX : Hid (X = none) := HXX.out ▸ readAll_none0 hg
    have HG : Hid (_ = _) := hg
    clear hg
    obtain ⟨WF, hWF, bF, hwF, _⟩ := box3_fill b0 (.int .i64 0) (.slice none 0 0) (.slice none 0 0)
    have HB : Hid (Below w.heap.size w WF) := hbW.trans (hwF.below (by omega) (by omega))
    clear hwF
    go_enter Tryz.func150, Tryz.ntmps150
    go_wp2_with fail
    rw [hW.out]
    refine (implGetInt_any a c zs 0 W hrW hl hcap).mono ?_
    rintro e w' ⟨rfl, rfl⟩
    rw [HG.out]
    simp only [triple]
    go_wp2
    rw [hWF.out]
    obtain ⟨q0, q1, q2, _, _, _⟩ := bF.three
    exact bodyPost_ret (v := .tuple #[.agg #[.int .i64 0, .slice none 0 0, .slice none 0 0], .iface 167 (.agg #[.string _])]) (by simp [results, Tryz.results150, go_sem, q0, q1, q2]; rfl) rfl ⟨readAns_none HX.out _, HB.out⟩
  | some t =>
  obtain ⟨k, p⟩ := t
  have HG : Hid (_ = _) := hg
  go_enter Tryz.func150, Tryz.ntmps150
  go_wp2_with fail
  rw [hW.out]
  refine (implGetInt_any a c zs 0 W hrW hl hcap).mono ?_
  rintro e w' ⟨rfl, rfl⟩
  rw [HG.out]
  simp only [triple]
  go_wp2_with fail
  refine (readParts_any a c zs p w' hrW hl hcap).mono ?_
  rintro e w1 ⟨hans, hb1⟩
  have B1 : Below w.heap.size w w1 := hbW.trans (hb1.mono hbW.size)
  have b1 := b0.below hb1 b0.lt
  obtain ⟨y0, y1, y2, e0, e1, e2⟩ := b1.three
  have hs1 := hb1.size
  cases hp : partsAt zs p with
  | none =>
    rw [hp] at hans
    obtain ⟨s, rfl⟩ := hans
    have HX : Hid (X = none) := HXX.out ▸ readAll_none1 hg hp
    clear hg hp
    obtain ⟨WF, hWF, bF, hwF, _⟩ := box3_fill b1 (.int .i64 0) (.slice none 0 0) (.slice none 0 0)
    have HB : Hid (Below w.heap.size w WF) := B1.trans (hwF.below (by omega) (by omega))
    clear hwF
    go_wp2
    rw [hWF.out]
    obtain ⟨q0, q1, q2, _, _, _⟩ := bF.three
    exact bodyPost_ret (v := .tuple #[.agg #[.int .i64 0, .slice none 0 0, .slice none 0 0], .iface 167 (.agg #[.string s])]) (by simp [results, Tryz.results150, go_sem, q0, q1, q2]) rfl ⟨readAns_none HX.out _, HB.out⟩
  | some t =>
  obtain ⟨is, q⟩ := t
  rw [hp] at hans
  obtain ⟨aI, cI, rfl, hoI⟩ := hans
  have hq5 := (partsAt_canon zs hr.1 p is q hp).1
  go_wp2_with fail
  refine (readParts_any a c zs q w1 (hr.below B1) hl hcap).mono ?_
  rintro e w2 ⟨hans, hb2⟩
  have B2 : Below w.heap.size w w2 := B1.trans (hb2.mono B1.size)
  have b2 := b1.below hb2 b1.lt
  obtain ⟨z0, z1, z2, g0, g1, g2⟩ := b2.three
  have hs2 := hb2.size
  have hoI2 := hoI.below hb2
  clear y0 y1 y2 e0 e1 e2 x0 x1 x2 f0 f1 f2
  cases hp2 : partsAt zs q with
  | none =>
    rw [hp2] at hans
    obtain ⟨s, rfl⟩ := hans
    have HX : Hid (X = none) := HXX.out ▸ readAll_none2 hg hp hp2
    clear hg hp hp2
    obtain ⟨WF, hWF, bF, hwF, _⟩ := box3_fill b2 (.int .i64 0) (.slice none 0 0) (.slice none 0 0)
    have HB : Hid (Below w.heap.size w WF) := B2.trans (hwF.below (by omega) (by omega))
    clear hwF
    go_wp2
    rw [hWF.out]
    obtain ⟨q0, q1, q2, _, _, _⟩ := bF.three
    exact bodyPost_ret (v := .tuple #[.agg #[.int .i64 0, .slice none 0 0, .slice none 0 0], .iface 167 (.agg #[.string s])]) (by simp [results, Tryz.results150, go_sem, q0, q1, q2]) rfl ⟨readAns_none HX.out _, HB.out⟩
  | some t =>
  obtain ⟨rs, r⟩ := t
  rw [hp2] at hans
  obtain ⟨aR, cR, rfl, hoR⟩ := hans
  have hr5 := (partsAt_canon zs hr.1 q rs r hp2).1
  have hX := readAll_at hg hp hp2
  clear hg hp hp2
  by_cases hrl : r = zs.length
  case neg =>
    have HX : Hid (X = none) := by rw [Hid, ← HXX.out, hX, if_neg hrl]
    have hrb : ((r : Int) == (zs.length : Int)) = false := by simp; omega
    clear hX hrl
    obtain ⟨WF, hWF, bF, hwF, _⟩ := box3_fill b2 (.int .i64 0) (.slice none 0 0) (.slice none 0 0)
    have HB : Hid (Below w.heap.size w WF) := B2.trans (hwF.below (by omega) (by omega))
    clear hwF
    go_wp2
    rw [hWF.out]
    obtain ⟨q0, q1, q2, _, _, _⟩ := bF.three
    exact bodyPost_ret (v := .tuple #[.agg #[.int .i64 0, .slice none 0 0, .slice none 0 0], .iface 167 (.agg #[.string _])]) (by simp [results, Tryz.results150, go_sem, q0, q1, q2]; rfl) rfl ⟨readAns_none HX.out _, HB.out⟩
  case pos =>
  have HX : Hid (X = some ⟨k, is, rs⟩) := by rw [Hid, ← HXX.out, hX, if_pos hrl]
  have hrb : ((r : Int) == (zs.length : Int)) = true := by simp; omega
  clear hX hrl
  obtain ⟨W3, hW3, b3, hbW3, hsW3⟩ := boxes1 w2 [.int .i64 k, .slice aI is.length cI, .slice aR rs.length cR] 54
  have hO3 : OwnO W3 w'.heap.size w2.heap.size aI cI aR cR ⟨k, is, rs⟩ := ⟨(hoI2.below hbW3).widen (Nat.le_refl _) (by omega) (by omega), (hoR.below hbW3).widen (by omega) (by omega) (by omega), fun j hj hj' => by have := (hoI.lt j hj).2; have := (hoR.lt j hj').1; omega⟩
  have b2' := b2.below hbW3 b2.lt
  have hkeep : ∀ w'', Below W3.heap.size W3 w'' → Box w'' w2.heap.size [.int .i64 k, .slice aI is.length cI, .slice aR rs.length cR] 54 ∧ Box w'' w.heap.size [.int .i64 0, .slice none 0 0, .slice none 0 0] 54 :=
    fun w'' hh => ⟨b3.below hh b3.lt, b2'.below hh b2'.lt⟩
  have B3 : Below w.heap.size w W3 := B2.trans (hbW3.mono B2.size)
  go_wp2_with fail
  rw [hW3.out]
  have hk0 := hkeep W3 (Below.refl _ _)
  have hcells : ∀ w'', Below W3.heap.size W3 w'' → (w''.cell? ⟨w2.heap.size, 0, none⟩ = some (.int .i64 k) ∧ w''.cell? ⟨w2.heap.size, 1, none⟩ = some (.slice aI is.length cI) ∧ w''.cell? ⟨w2.heap.size, 2, none⟩ = some (.slice aR rs.length cR)) ∧ (w''.cell? ⟨w.heap.size, 0, none⟩ = some (.int .i64 0) ∧ w''.cell? ⟨w.heap.size, 1, none⟩ = some (.slice none 0 0) ∧ w''.cell? ⟨w.heap.size, 2, none⟩ = some (.slice none 0 0)) ∧ (w''.frozen? ⟨w.heap.size, 0, none⟩ = false ∧ w''.frozen? ⟨w.heap.size, 1, none⟩ = false ∧ w''.frozen? ⟨w.heap.size, 2, none⟩ = false) := by
    intro w'' hh
    obtain ⟨ba, bb⟩ := hkeep w'' hh
    exact ⟨⟨ba.cell 0 _ rfl, ba.cell 1 _ rfl, ba.cell 2 _ rfl⟩, ⟨bb.cell 0 _ rfl, bb.cell 1 _ rfl, bb.cell 2 _ rfl⟩, bb.frozen 0, bb.frozen 1, bb.frozen 2⟩
  have hh := hcells W3 (Below.refl _ _)
  clear hk0
  have hne : w.heap.size < w2.heap.size := by omega
  have hne' : ¬ (w2.heap.size = w.heap.size) := by omega
  go_region_held3 (fun w'' => w''.cell? ⟨w2.heap.size, 0, none⟩ = some (.int .i64 k) ∧ w''.cell? ⟨w2.heap.size, 1, none⟩ = some (.slice aI is.length cI) ∧ w''.cell? ⟨w2.heap.size, 2, none⟩ = some (.slice aR rs.length cR))
    (first | exact (hcells _ hw5).1 | exact ⟨((((hkeep _ hw5).1.other hne').other hne').other hne').cell 0 _ rfl, ((((hkeep _ hw5).1.other hne').other hne').other hne').cell 1 _ rfl, ((((hkeep _ hw5).1.other hne').other hne').other hne').cell 2 _ rfl⟩ | go_keep)
    (first | (go_at_call 130; refine (checkObj_any ⟨k, is, rs⟩ aI cI aR cR _ hO3.reads.drew (by simp only; omega) (by simp only; omega)).mono ?_; rintro e w5 ⟨hie, hb5⟩; obtain ⟨ev, rfl⟩ := isErr_ret hie; have hw5 : Below W3.heap.size W3 w5 := (Below.refl _ _).drew.trans hb5; obtain ⟨⟨m0, m1, m2⟩, ⟨y0, y1, y2⟩, e0, e1, e2⟩ := hcells _ hw5))
  obtain ⟨WF, hWF, bF, hwF, hsF⟩ := box3_fill (hkeep _ hw5).2 (.int .i64 k) (.slice aI is.length cI) (.slice aR rs.length cR)
  rw [hWF.out]
  go_wp2
  obtain ⟨q0, q1, q2, _, _, _⟩ := bF.three
  have hs5 := hw5.size
  have hOF : OwnO WF w'.heap.size w2.heap.size aI cI aR cR ⟨k, is, rs⟩ := (hO3.below hw5).within hwF (.inr (by omega))
  exact bodyPost_ret (v := .tuple #[.agg #[.int .i64 k, .slice aI is.length cI, .slice aR rs.length cR], ev]) (by simp [results, Tryz.results150, go_sem, q0, q1, q2]) rfl ⟨readAns_some HX.out hie (hOF.widen (by omega) (by omega) (Nat.le_refl _)), (B3.trans (hw5.mono B3.size)).trans (hwF.below (Nat.le_refl _) (by omega))⟩

set_option maxHeartbeats 4000000 in
set_option maxRecDepth 100000 in
theorem implGetObj_any (a : Option Addr) (c : Nat) (zs : List Int) (w : World) (hg : ErrT w) (hr : Reads w a zs) (hl : zs.length ≤ 70368744177664) (hcap : zs.length ≤ c) :
    Calls Tryz.prog 143 #[.slice a zs.length c] w fun e w' => ∃ aI cI aR cR o ok, e = .returned (.tuple #[.agg #[.int .i64 o.kind, .slice aI o.ints.length cI, .slice aR o.refs.length cR], .bool ok]) ∧ Hid (getPair zs = (o, ok)) ∧ OwnO w' w.heap.size w'.heap.size aI cI aR cR o ∧ Below w.heap.size w w' := by
  have HN : Hid (readAll zs = none → getPair zs = (noO, false)) := getPair_none zs
  have HBD : Hid (∀ o, readAll zs = some o → okB o = false → getPair zs = (noO, false)) := fun o => getPair_bad zs o
  have HGD : Hid (∀ o, readAll zs = some o → okB o = true → getPair zs = (o, true)) := fun o => getPair_some zs hr.1 o
  generalize getPair zs = PR at *
  obtain ⟨W, hW, b0, hbW, hsW⟩ := boxes1 w [.int .i64 0, .slice none 0 0, .slice none 0 0] 54
  go_enter Tryz.func143, Tryz.ntmps143
  go_wp2_with fail
  rw [hW.out]
  refine (readObj_any a c zs W (hr.below hbW) hl hcap).mono ?_
  rintro e w1 ⟨hans, hb1⟩
  have B1 : Below w.heap.size w w1 := hbW.trans (hb1.mono hbW.size)
  have b1 := b0.below hb1 b0.lt
  have hs1 := hb1.size
  cases hx : readAll zs with
  | none =>
    have HP : Hid (_ = _) := HN.out hx
    rw [hx] at hans
    obtain ⟨s, rfl⟩ := hans
    clear hx
    go_wp2_with fail
    refine (foundObj_no 0 none 0 0 none 0 0 s w1 (hg.keep B1)).mono ?_
    rintro e w2 ⟨rfl, hb2⟩
    have B2 : Below w.heap.size w w2 := B1.trans (hb2.mono B1.size)
    have b2 := b1.below hb2 b1.lt
    have hs2 := hb2.size
    obtain ⟨y0, y1, y2, f0, f1, f2⟩ := b2.three
    obtain ⟨WF, hWF, bF, hwF, _⟩ := box3_fill b2 (.int .i64 0) (.slice none 0 0) (.slice none 0 0)
    have HB : Hid (Below w.heap.size w WF) := B2.trans (hwF.below (by omega) (by omega))
    clear hwF
    go_wp2
    rw [hWF.out]
    obtain ⟨q0, q1, q2, _, _, _⟩ := bF.three
    exact bodyPost_ret (v := .tuple #[.agg #[.int .i64 0, .slice none 0 0, .slice none 0 0], .bool false]) (by simp [results, Tryz.results143, go_sem, q0, q1, q2]) rfl ⟨none, 0, none, 0, noO, false, rfl, HP.out, ⟨ownI_nil _ _ _ (Nat.le_refl _), ownI_nil _ _ _ (Nat.le_refl _), fun k hk => by cases hk⟩, HB.out⟩
  | some o =>
    rw [hx] at hans
    obtain ⟨aI, cI, aR, cR, ev, rfl, hie, ho⟩ := hans
    rcases hie with ⟨hok, hev⟩ | ⟨hok, s, hev⟩
    · obtain rfl : ev = .nilIface := by simpa using hev
      have HP : Hid (_ = _) := HGD.out o hx hok
      clear hx hok hev
      go_wp2_with fail
      refine (foundObj_ok o.kind aI o.ints.length cI aR o.refs.length cR w1).mono ?_
      rintro e w2 ⟨rfl, hb2⟩
      have B2 : Below w.heap.size w w2 := B1.trans (hb2.mono B1.size)
      have b2 := b1.below hb2 b1.lt
      have hs2 := hb2.size
      obtain ⟨y0, y1, y2, f0, f1, f2⟩ := b2.three
      obtain ⟨WF, hWF, bF, hwF, hsF⟩ := box3_fill b2 (.int .i64 o.kind) (.slice aI o.ints.length cI) (.slice aR o.refs.length cR)
      have HB : Hid (Below w.heap.size w WF) := B2.trans (hwF.below (by omega) (by omega))
      have HO : Hid (OwnO WF w.heap.size WF.heap.size aI cI aR cR o) := ((ho.below hb2).within hwF (.inr (by omega))).widen (by omega) (by omega) (Nat.le_refl _)
      clear hwF
      go_wp2
      rw [hWF.out]
      obtain ⟨q0, q1, q2, _, _, _⟩ := bF.three
      exact bodyPost_ret (v := .tuple #[.agg #[.int .i64 o.kind, .slice aI o.ints.length cI, .slice aR o.refs.length cR], .bool true]) (by simp [results, Tryz.results143, go_sem, q0, q1, q2]) rfl ⟨aI, cI, aR, cR, o, true, rfl, HP.out, HO.out, HB.out⟩
    · obtain rfl : ev = _ := by simpa using hev
      have HP : Hid (_ = _) := HBD.out o hx hok
      clear hx hok hev
      go_wp2_with fail
      refine (foundObj_no o.kind aI o.ints.length cI aR o.refs.length cR s w1 (hg.keep B1)).mono ?_
      rintro e w2 ⟨rfl, hb2⟩
      have B2 : Below w.heap.size w w2 := B1.trans (hb2.mono B1.size)
      have b2 := b1.below hb2 b1.lt
      have hs2 := hb2.size
      obtain ⟨y0, y1, y2, f0, f1, f2⟩ := b2.three
      obtain ⟨WF, hWF, bF, hwF, _⟩ := box3_fill b2 (.int .i64 0) (.slice none 0 0) (.slice none 0 0)
      have HB : Hid (Below w.heap.size w WF) := B2.trans (hwF.below (by omega) (by omega))
      clear hwF
      go_wp2
      rw [hWF.out]
      obtain ⟨q0, q1, q2, _, _, _⟩ := bF.three
      exact bodyPost_ret (v := .tuple #[.agg #[.int .i64 0, .slice none 0 0, .slice none 0 0], .bool false]) (by simp [results, Tryz.results143, go_sem, q0, q1, q2]) rfl ⟨none, 0, none, 0, noO, false, rfl, HP.out, ⟨ownI_nil _ _ _ (Nat.le_refl _), ownI_nil _ _ _ (Nat.le_refl _), fun k hk => by cases hk⟩, HB.out⟩
end Go.Proofs.YtbpdocjkhmiimabGreatDoor

/- The walk of impl.readSlot. -/
namespace Go.Proofs.YtbpdocjkhmiimabGreatDoor
open Go.RowKit

theorem strOf_data (sub : List Int) (j : Nat) (hb : Bytes sub) (h : j < sub.length) : (((strOf sub).data.toList.getD j 0).toNat : Int) = sub.getD j 0 := by
  have hz := hb (sub.getD j 0) (by simp [List.getD, h])
  have e : (strOf sub).data.toList.getD j 0 = UInt8.ofNat (sub.getD j 0).toNat := by
    unfold strOf
    simp [List.getD, h]
  rw [e]
  generalize sub.getD j 0 = z at *
  have : (UInt8.ofNat z.toNat).toNat = z.toNat := by simp; omega
  rw [this]
  omega
theorem strOf_len (sub : List Int) : (strOf sub).size = sub.length := by simp [strOf, ByteArray.size]

/-- The bytes of a text, in a row of their own. -/
theorem bytes_of_text (w : World) (sub : List Int) (hb : Bytes sub) :
    ∃ W c, (convert 9 34 (.string (strOf sub))).run Tryz.prog w = .ok (.slice (some ⟨w.heap.size, 0, none⟩) sub.length c) W ∧ Reads W (some ⟨w.heap.size, 0, none⟩) sub ∧ sub.length ≤ c ∧ Below w.heap.size w W := by
  have h := Lib.run_convert_string_bytes (P := Tryz.prog) w 9 34 5 (strOf sub) Tryz.underlying9 Tryz.underlying34 Tryz.underlying5
  rw [strOf_len] at h
  refine ⟨_, _, h, ⟨hb, fun hne => ⟨w.heap.size, 0, rfl, fun i hi => ?_⟩⟩, ?_, ?_⟩
  · rw [Nat.zero_add, Lib.bytesWorld_cell w 5 (strOf sub) i (by rw [strOf_len]; exact hi), strOf_data sub i hb hi]
  · exact grownCap_ge _ _ _ _
  · exact ⟨rfl, rfl, rfl, by rw [Lib.bytesWorld_size]; omega, fun k hk => Lib.bytesWorld_at_old w _ _ k hk⟩

/-- What readSlot answers. -/
def SlotAns (w' : World) (lo : Nat) (x : Option (SlotV × Nat)) (e : Ending) : Prop := match x with
  | some (s, q) => ∃ t : SlotA, e = .returned (.tuple #[.agg t.cells.toArray, .int .i64 (q : Nat), .bool true]) ∧ t.v = s ∧ t.own w' lo w'.heap.size
  | none => e = .returned (.tuple #[.agg zeroS.cells.toArray, .int .i64 0, .bool false])
theorem slotAns_none {w' : World} {lo : Nat} {x : Option (SlotV × Nat)} (h : x = none) : SlotAns w' lo x (.returned (.tuple #[.agg #[.bool false, .int .i64 0, .slice none 0 0, .slice none 0 0], .int .i64 0, .bool false])) := by subst h; rfl
theorem slotAns_some {w' : World} {lo : Nat} {x : Option (SlotV × Nat)} {s : SlotV} {q : Nat} (h : x = some (s, q)) (t : SlotA) (hv : t.v = s) (ho : t.own w' lo w'.heap.size) : SlotAns w' lo x (.returned (.tuple #[.agg t.cells.toArray, .int .i64 (q : Nat), .bool true])) := by subst h; exact ⟨t, rfl, hv, ho⟩

theorem slotAt_none {zs : List Int} {p : Nat} (h : getAt zs (p : Int) = none) : slotAt zs p = none := by unfold slotAt; rw [h]
theorem slotAt_out {zs : List Int} {p q : Nat} {n : Int} (h : getAt zs (p : Int) = some (n, q)) (hn : n < 0 ∨ (zs.length : Int) - (q : Int) < n) : slotAt zs p = none := by unfold slotAt; rw [h]; simp only; rw [if_pos hn]
theorem slotAt_zero {zs : List Int} {p q : Nat} (h : getAt zs (p : Int) = some (0, q)) (hq : q ≤ zs.length) : slotAt zs p = some (noS, q) := by unfold slotAt; rw [h]; simp only; rw [if_neg (by omega), if_pos trivial]
theorem slotAt_in {zs : List Int} {p q m : Nat} (h : getAt zs (p : Int) = some ((m : Int), q)) (hm : 0 < m) (hq : q + m ≤ zs.length) : slotAt zs p = if (getPair ((zs.drop q).take m)).2 then some (⟨true, (getPair ((zs.drop q).take m)).1⟩, q + m) else none := by
  unfold slotAt; rw [h]; simp only [Int.toNat_natCast]; rw [if_neg (by omega), if_neg (by omega)]
theorem text_bad {zs : List Int} {p : Nat} (h : getAt zs (p : Int) = none ∨ ∃ n q, getAt zs (p : Int) = some (n, q) ∧ (n < 0 ∨ (zs.length : Int) - (q : Int) < n)) : textOf zs (p : Int) = .tuple #[.string ⟨#[]⟩, .int .i64 0, .bool false] := by
  unfold textOf
  rcases h with h | ⟨n, q, h, hn⟩
  · rw [h]
  · rw [h]; simp only; rw [if_neg (by omega)]
theorem text_in {zs : List Int} {p q m : Nat} (h : getAt zs (p : Int) = some ((m : Int), q)) (hq : q + m ≤ zs.length) : textOf zs (p : Int) = .tuple #[.string (strOf ((zs.drop q).take m)), .int .i64 ((q + m : Nat) : Int), .bool true] := by
  unfold textOf; rw [h]; simp only [Int.toNat_natCast]; rw [if_pos (by omega)]
  rfl

set_option maxHeartbeats 4000000 in
set_option maxRecDepth 100000 in
theorem readSlot_any (a : Option Addr) (c : Nat) (zs : List Int) (p : Nat) (w : World) (hg : ErrT w) (hr : Reads w a zs) (hl : zs.length ≤ 1099511627776) (hcap : zs.length ≤ c) :
    Calls Tryz.prog 135 #[.slice a zs.length c, .int .i64 (p : Int)] w fun e w' => SlotAns w' w.heap.size (slotAt zs p) e ∧ Below w.heap.size w w' := by
  obtain ⟨W, hW, b0, hbW, hsW⟩ := boxes1 w [.bool false, .int .i64 0, .slice none 0 0, .slice none 0 0] 56
  have CT := implGetText_any a c zs (p : Int) W (hr.below hbW) (by omega) hcap
  obtain ⟨x0, x1, x2, x3, f0, f1, f2, f3⟩ := b0.four
  have hby : Bytes zs := hr.1
  by_cases hbad : getAt zs (p : Int) = none ∨ ∃ n q, getAt zs (p : Int) = some (n, q) ∧ (n < 0 ∨ (zs.length : Int) - (q : Int) < n)
  · have HX : Hid (slotAt zs p = none) := by rcases hbad with h | ⟨n, q, h, hn⟩; exact slotAt_none h; exact slotAt_out h hn
    rw [text_bad hbad] at CT
    generalize slotAt zs p = X at *
    obtain ⟨WF, hWF, bF, hwF, hsF⟩ := box4_fill b0 (.bool false) (.int .i64 0) (.slice none 0 0) (.slice none 0 0)
    have HB : Hid (Below w.heap.size w WF) := hbW.trans (hwF.below (Nat.le_refl _) (by omega))
    clear hwF hbad
    go_enter Tryz.func135, Tryz.ntmps135
    go_wp2_with fail
    rw [hW.out]
    refine CT.mono ?_
    clear CT
    rintro e w1 ⟨rfl, rfl⟩
    go_wp2
    rw [hWF.out]
    obtain ⟨q0, q1, q2, q3, _⟩ := bF.four
    exact bodyPost_ret (v := .tuple #[.agg #[.bool false, .int .i64 0, .slice none 0 0, .slice none 0 0], .int .i64 0, .bool false]) (by simp [results, Tryz.results135, go_sem, q0, q1, q2, q3]) rfl ⟨slotAns_none HX.out, HB.out⟩
  obtain ⟨n, q, hgt, hn⟩ : ∃ n q, getAt zs (p : Int) = some (n, q) ∧ ¬ (n < 0 ∨ (zs.length : Int) - (q : Int) < n) := by
    cases h : getAt zs (p : Int) with
    | none => exact absurd (.inl h) hbad
    | some r => exact ⟨r.1, r.2, rfl, fun hn => hbad (.inr ⟨r.1, r.2, h, hn⟩)⟩
  obtain ⟨m, rfl⟩ : ∃ m : Nat, n = (m : Int) := ⟨n.toNat, by omega⟩
  have hqm : q + m ≤ zs.length := by omega
  rw [text_in hgt hqm] at CT
  by_cases hm : m = 0
  · subst hm
    have HX : Hid (slotAt zs p = some (noS, q)) := slotAt_zero hgt (by omega)
    generalize slotAt zs p = X at *
    have hse : strOf ((zs.drop q).take 0) = ⟨#[]⟩ := by simp [strOf]
    rw [hse] at CT
    simp only [Nat.add_zero] at CT
    obtain ⟨WF, hWF, bF, hwF, hsF⟩ := box4_fill b0 (.bool false) (.int .i64 0) (.slice none 0 0) (.slice none 0 0)
    have HB : Hid (Below w.heap.size w WF) := hbW.trans (hwF.below (Nat.le_refl _) (by omega))
    clear hwF hbad hse hgt hn
    go_enter Tryz.func135, Tryz.ntmps135
    go_wp2_with fail
    rw [hW.out]
    refine CT.mono ?_
    clear CT
    rintro e w1 ⟨rfl, rfl⟩
    go_wp2
    rw [hWF.out]
    obtain ⟨q0, q1, q2, q3, _⟩ := bF.four
    exact bodyPost_ret (v := .tuple #[.agg #[.bool false, .int .i64 0, .slice none 0 0, .slice none 0 0], .int .i64 (q : Nat), .bool true]) (by simp [results, Tryz.results135, go_sem, q0, q1, q2, q3]) rfl ⟨slotAns_some HX.out zeroS rfl (own_zero _ _ _ (Nat.le_refl _)), HB.out⟩
  have HX : Hid (_ = _) := slotAt_in hgt (by omega) hqm
  have hsb : Bytes ((zs.drop q).take m) := fun z hz => hby z (List.mem_of_mem_drop (List.mem_of_mem_take hz))
  have hsl : ((zs.drop q).take m).length = m := by rw [List.length_take, List.length_drop]; omega
  generalize slotAt zs p = X at *
  generalize (zs.drop q).take m = sub at *
  have HSL : Hid (_ = _) := hsl
  have hsub1 : 1 ≤ sub.length := by omega
  have hsub2 : sub.length ≤ 1099511627776 := by omega
  obtain ⟨WC, cc, hcv, hrC, hcc, hbC⟩ := bytes_of_text W sub hsb
  have hne : (strOf sub).toList.isEmpty = false := by
    have h1 : (strOf sub).toList.length = sub.length := by rw [ByteArray.toList_eq]; simp [strOf]
    cases h2 : (strOf sub).toList with
    | nil => rw [h2] at h1; simp only [List.length_nil] at h1; omega
    | cons x r => rfl
  have hsC := hbC.size
  have CG := implGetObj_any (some ⟨W.heap.size, 0, none⟩) cc sub WC ((hg.keep hbW).keep hbC) hrC (by omega) hcc
  have b0C := b0.below hbC b0.lt
  clear hbad hgt hn hsl hby
  generalize strOf sub = str at *
  go_enter Tryz.func135, Tryz.ntmps135
  go_wp2_with fail
  rw [hW.out]
  refine CT.mono ?_
  clear CT
  rintro e w1 ⟨rfl, rfl⟩
  go_wp2_with fail
  have hWe : w1.heap.size = w.heap.size + 1 := hsW
  rw [hWe] at CG
  refine CG.mono ?_
  clear CG hcv
  rintro e w2 ⟨aI, cI, aR, cR, o, ok, rfl, HGP, ho2, hb2⟩
  rw [HGP.out] at HX
  simp only at HX
  have hs2 := hb2.size
  have B2 : Below w.heap.size w w2 := (hbW.trans (hbC.mono (by omega))).trans (hb2.mono (by omega))
  have b02 := b0C.below hb2 b0C.lt
  obtain ⟨W3, hW3, b3, hb3, hs3⟩ := boxes1 w2 [.int .i64 o.kind, .slice aI o.ints.length cI, .slice aR o.refs.length cR] 54
  have b03 := b02.below hb3 b02.lt
  have ho3 := ho2.below hb3
  have B3 : Below w.heap.size w W3 := B2.trans (hb3.mono (by omega))
  have hlt3 := b03.lt
  obtain ⟨x0, x1, x2, x3, f0, f1, f2, f3⟩ := b03.four
  clear b02 b0C ho2 hb2 hbC hb3
  cases ok with
  | false =>
    have HXN : Hid (X = none) := by rw [Hid, HX.out]; simp
    obtain ⟨WF, hWF, bF, hwF, hsF⟩ := box4_fill b03 (.bool false) (.int .i64 0) (.slice none 0 0) (.slice none 0 0)
    have HB : Hid (Below w.heap.size w WF) := B3.trans (hwF.below (Nat.le_refl _) (by omega))
    have W3e := hW3.out
    rw [← W3e] at x0 x1 x2 x3 f0 f1 f2 f3 hWF
    clear hwF hW3 b03 W3e b3
    go_wp2
    rw [hWF.out]
    obtain ⟨q0, q1, q2, q3, _⟩ := bF.four
    exact bodyPost_ret (v := .tuple #[.agg #[.bool false, .int .i64 0, .slice none 0 0, .slice none 0 0], .int .i64 0, .bool false]) (by simp [results, Tryz.results135, go_sem, q0, q1, q2, q3]) rfl ⟨slotAns_none HXN.out, HB.out⟩
  | true =>
    have HXS : Hid (X = some (⟨true, o⟩, q + m)) := by rw [Hid, HX.out]; simp
    obtain ⟨WF, hWF, bF, hwF, hsF⟩ := box4_fill b03 (.bool true) (.int .i64 o.kind) (.slice aI o.ints.length cI) (.slice aR o.refs.length cR)
    have HB : Hid (Below w.heap.size w WF) := B3.trans (hwF.below (Nat.le_refl _) (by omega))
    have HOF : Hid (OwnO WF w.heap.size WF.heap.size aI cI aR cR o) := (ho3.within hwF (.inr (by omega))).widen (by omega) (by omega) (Nat.le_refl _)
    obtain ⟨z0, z1, z2, _, _, _⟩ := b3.three
    have W3e := hW3.out
    rw [← W3e] at x0 x1 x2 x3 f0 f1 f2 f3 hWF z0 z1 z2
    clear hwF hW3 b03 W3e b3 ho3
    go_wp2
    rw [hWF.out]
    obtain ⟨q0, q1, q2, q3, _⟩ := bF.four
    exact bodyPost_ret (v := .tuple #[.agg #[.bool true, .int .i64 o.kind, .slice aI o.ints.length cI, .slice aR o.refs.length cR], .int .i64 ((q + m : Nat) : Int), .bool true]) (by simp [results, Tryz.results135, go_sem, q0, q1, q2, q3]) rfl ⟨slotAns_some HXS.out ⟨⟨true, o⟩, aI, cI, aR, cR⟩ rfl HOF.out, HB.out⟩
end Go.Proofs.YtbpdocjkhmiimabGreatDoor
