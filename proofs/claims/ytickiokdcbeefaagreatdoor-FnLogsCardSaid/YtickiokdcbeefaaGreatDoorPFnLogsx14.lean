/- Several texts in one, in their order. -/
import Derived.Test.YtickiokdcbeefaaGreatDoorPFnLogsx13
import Derived.Test.YtickiokdcbeefaaGreatDoorPFnLogsx2
import Derived.Test.YtickiokdcbeefaaGreatDoorPFnLogsx4
import Derived.Test.YtickiokdcbeefaaGreatDoorPFnLogsx6
import Derived.Test.YtickiokdcbeefaaGreatDoorPFnLogsx1
import Derived.Deep.RegionHeld3
import Derived.Test.YtickiokdcbeefaaGreatDoorPFnLogsx3
import Derived.Test.YtickiokdcbeefaaGreatDoorPFnLogsx5
import Derived.Lib.ConvBytes
import Derived.Test.YtickiokdcbeefaaGreatDoorPFnLogsx7
import Derived.Test.YtickiokdcbeefaaGreatDoorPFnLogsx8
import Derived.Deep.CutRange
import Derived.RangeFuncNested
import Derived.RangeFuncBound
import Derived.RangeFuncCalls
import Derived.RangeFuncLeaves
import Derived.Shelf.Abstract
import Derived.Shelf.RegionOpen
import Derived.WalkKit
import Derived.OwnWalkIn
import Derived.TacticsInMore
import Derived.LoopNIn
import Derived.LoopIn
import Derived.Deep.MidRow
import Derived.Sort.CutIn
set_option maxHeartbeats 8000000
set_option maxRecDepth 100000
namespace Go.Proofs.YtickiokdcbeefaaGreatDoor
open Go.RowKit
def onToL (L : List LiveV) : Option (List LiveV × Nat) → Option (List LiveV × Nat)
 | some (l, q) => some (L ++ l, q)
 | none => none
theorem onToL_nil (x : Option (List LiveV × Nat)) : onToL [] x = x := by cases x <;> rfl
theorem onToL_step (zs : List Int) (L : List LiveV) (n p q : Nat) (t : LiveV) (h : liveAt zs p = some (t, q)) : onToL L (livesAt zs (n + 1) p) = onToL (L ++ [t]) (livesAt zs n q) := by
 rw [livesAt, h]
 simp only
 cases livesAt zs n q with
 | none => rfl
 | some y => simp [onToL]
theorem onToL_stop (zs : List Int) (L : List LiveV) (n p : Nat) (h : liveAt zs p = none) : onToL L (livesAt zs (n + 1) p) = none := by rw [livesAt, h]; rfl
def rowLs (L : List LiveV) (n : Nat) : List LiveV := L ++ List.replicate (n - L.length) zeroL
theorem rowLs_len (L : List LiveV) (n : Nat) (h : L.length ≤ n) : (rowLs L n).length = n := by simp [rowLs]; omega
theorem rowLs_nil (n : Nat) : rowLs [] n = List.replicate n zeroL := by simp [rowLs]
theorem rowLs_all (L : List LiveV) : rowLs L L.length = L := by simp [rowLs]
theorem rowLs_set (L : List LiveV) (n : Nat) (t : LiveV) (h : L.length < n) : (rowLs L n).set L.length t = rowLs (L ++ [t]) n := by
 unfold rowLs
 rw [List.set_append_right _ _ (Nat.le_refl _), Nat.sub_self, show n - L.length = (n - (L ++ [t]).length) + 1 by simp; omega, List.replicate_succ, List.set_cons_zero]
 simp
def LivesAns (w' : World) (lo : Nat) (x : Option (List LiveV × Nat)) (e : Ending) : Prop := match x with
 | some (l, q) => ∃ a' c', e = .returned (.tuple #[.slice a' l.length c', .int .i64 (q : Nat), .bool true]) ∧ OwnL w' lo w'.heap.size a' c' l
 | none => e = .returned (.tuple #[.slice none 0 0, .int .i64 0, .bool false])
theorem livesAns_none {w' : World} {lo : Nat} {x : Option (List LiveV × Nat)} (h : x = none) : LivesAns w' lo x (.returned (.tuple #[.slice none 0 0, .int .i64 0, .bool false])) := by subst h; rfl
theorem livesAns_some {w' : World} {lo : Nat} {x : Option (List LiveV × Nat)} {l : List LiveV} {q n : Nat} (h : x = some (l, q)) (a' : Option Addr) (c' : Nat) (hn : n = l.length) (ho : OwnL w' lo w'.heap.size a' c' l) : LivesAns w' lo x (.returned (.tuple #[.slice a' n c', .int .i64 (q : Nat), .bool true])) := by subst h; subst hn; exact ⟨a', c', rfl, ho⟩
theorem countAt_none {zs : List Int} {p : Nat} (h : getAt zs (p : Int) = none) : countAt zs p = none := by unfold countAt; rw [h]
theorem countAt_bad {zs : List Int} {p q : Nat} {n : Int} (h : getAt zs (p : Int) = some (n, q)) (hn : n < 0 ∨ 20 < n) : countAt zs p = none := by unfold countAt; rw [h]; simp only; rw [if_neg (by omega)]
theorem countAt_good {zs : List Int} {p q m : Nat} (h : getAt zs (p : Int) = some ((m : Int), q)) (hm : m ≤ 20) : countAt zs p = livesAt zs m q := by unfold countAt; rw [h]; simp only; rw [if_pos (by omega), Int.toNat_natCast]
theorem readLives_any (a : Option Addr) (c : Nat) (zs : List Int) (p : Nat) (w : World) (hr : Reads w a zs) (hl : zs.length ≤ 70368744177664) (hcap : zs.length ≤ c) :
  Calls Tryz.prog 123 #[.slice a zs.length c, .int .i64 (p : Int)] w fun e w' => LivesAns w' w.heap.size (countAt zs p) e ∧ Below w.heap.size w w' := by
 obtain ⟨i0, hi, hz0, hz1, hz2⟩ := info_parts Tryz.infoLive
 have C := implGetInt_any a c zs (p : Int) w hr hl hcap
 cases hg : getAt zs (p : Int) with
 | none =>
  have HX : Hid (_ = _) := countAt_none hg
  generalize countAt zs p = X at *
  rw [hg] at C
  simp only [triple] at C
  go_enter Tryz.func123, Tryz.ntmps123
  go_wp2_with fail
  refine C.mono ?_
  rintro e u ⟨rfl, hu⟩
  rw [hu]
  clear hu u
  go_wp2
  go_ret3
  exact ⟨livesAns_none HX.out, Below.refl _ _⟩
 | some g =>
  obtain ⟨n, q⟩ := g
  rw [hg] at C
  simp only [triple] at C
  by_cases hneg : n < 0
  ·have HX : Hid (_ = _) := countAt_bad hg (.inl hneg)
   generalize countAt zs p = X at *
   go_enter Tryz.func123, Tryz.ntmps123
   go_wp2_with fail
   refine C.mono ?_
   rintro e u ⟨rfl, hu⟩
   rw [hu]
   clear hu u
   go_wp2
   go_ret3
   exact ⟨livesAns_none HX.out, Below.refl _ _⟩
  by_cases hbig : 20 < n
  ·have HX : Hid (_ = _) := countAt_bad hg (.inr hbig)
   generalize countAt zs p = X at *
   go_enter Tryz.func123, Tryz.ntmps123
   go_wp2_with fail
   refine C.mono ?_
   rintro e u ⟨rfl, hu⟩
   rw [hu]
   clear hu u
   go_wp2
   go_ret3
   exact ⟨livesAns_none HX.out, Below.refl _ _⟩
  obtain ⟨m, rfl⟩ : ∃ m : Nat, n = (m : Int) := ⟨n.toNat, by omega⟩
  have hm : m ≤ 20 := by omega
  have HX : Hid (_ = _) := countAt_good hg hm
  generalize countAt zs p = X at *
  clear hg
  go_enter Tryz.func123, Tryz.ntmps123
  go_wp2_with fail
  refine C.mono ?_
  clear C
  rintro e u ⟨rfl, hu⟩
  rw [hu]
  clear hu u
  go_wp2_with (at_make; refine wpList_make_full _ rfl _ _ 40 rfl w.heap.size 62 i0 (.agg #[.int .i64 0, .int .i64 0, .bool false]) 3 Tryz.underlying40 hi hz0 hz1 _ _ _ _ m rfl rfl rfl rfl (by rw [hz2]; omega) (by simp [maxLen]; omega) (Nat.le_refl _) ?_)
  intro w0 hown0 hgrow0
  have hown1 : w0.ownsRow w.heap.size 62 3 (.slice (some ⟨w.heap.size, 0, none⟩) m m) m (cellsL (rowLs [] m)) := by
   rw [rowLs_nil, ← made_live]
   exact hown0
  have hb0 : Below w.heap.size w w0 := (Below.refl _ _).grown hgrow0 (Nat.le_refl _) (fun k h => by cases h)
  clear hown0 hgrow0
  go_wp2
  go_loopw [1, 32] (fun t i wr => ∃ (k q2 : Nat) (L : List LiveV), k ≤ m ∧ i = .int .i64 k ∧ t = .int .i64 q2 ∧ Hid (L.length = k ∧ X = onToL L (livesAt zs (m - k) q2)) ∧ wr.ownsRow w.heap.size 62 3 (.slice (some ⟨w.heap.size, 0, none⟩) m m) m (cellsL (rowLs L m)) ∧ Below w.heap.size w wr)
   (fun _ i _ => m - (intOf i).toNat)
  case atStart => exact ⟨0, q, [], Nat.zero_le _, rfl, rfl, ⟨rfl, by rw [onToL_nil]; exact HX.out⟩, hown1, hb0⟩
  case round =>
   obtain ⟨k, q2, L, hk, rfl, rfl, hL, hown, hnx⟩ := hrel
   clear hown1 hb0
   by_cases hlt : k < m
   ·have hp : (rowLs L m).length = m := rowLs_len L m (by rw [hL.out.1]; exact hk)
    have C := readLive_any a c zs q2 wr (hr.below hnx) hl hcap
    have HRK : Hid (m - k = (m - (k + 1)) + 1) := by rw [Hid]; omega
    have HSET : Hid (∀ t, (rowLs L m).set k t = rowLs (L ++ [t]) m) := fun t => by have := rowLs_set L m t (by rw [hL.out.1]; exact hlt); rw [hL.out.1] at this; exact this
    have hi0 : (0 : Int) ≤ (k : Int) := by omega
    have hi4 : (k : Int) < (m : Int) := by omega
    cases hlv : liveAt zs q2 with
    | none =>
     rw [hlv] at C
     simp only [LiveAns, LiveV.cells, zeroL] at C
     have HE : Hid (X = none) := by rw [Hid, hL.out.2, HRK.out]; exact onToL_stop zs L _ q2 hlv
     go_wp2_with fail
     refine C.mono ?_
     clear C
     rintro e w1 ⟨rfl, hb1⟩
     have hownA := ownsRow_block hown (fun j hj => hb1.block j (hown.lt j hj).2)
     obtain ⟨x0, x1, x2, hfz⟩ := row_live hownA hp k hlt
     have f0 := hfz (k * 3)
     have f1 := hfz (k * 3 + 1)
     have f2 := hfz (k * 3 + 2)
     obtain ⟨W2, hW2, ho2, hg2⟩ := row_store hownA hp k hlt zeroL
     have hB2 : Below w.heap.size w W2 := (hnx.trans (hb1.mono hnx.size)).grown hg2 (by have := hnx.size; have := hb1.size; omega) (fun j hj => by cases hj; omega)
     simp only [zeroL] at hW2
     clear ho2 hg2 hfz hownA hown hb1 hnx HSET
     generalize (rowLs L m).getD k zeroL = old at *
     go_wp2_with fail
     rw [hW2.out]
     go_wp2
     go_ret3
     exact ⟨livesAns_none HE.out, hB2⟩
    | some g =>
     obtain ⟨z, q3⟩ := g
     rw [hlv] at C
     simp only [LiveAns, LiveV.cells] at C
     have HE : Hid (X = onToL (L ++ [z]) (livesAt zs (m - (k + 1)) q3)) := by rw [Hid, hL.out.2, HRK.out]; exact onToL_step zs L _ q2 q3 z hlv
     go_wp2_with fail
     refine C.mono ?_
     clear C
     rintro e w1 ⟨rfl, hb1⟩
     have hownA := ownsRow_block hown (fun j hj => hb1.block j (hown.lt j hj).2)
     obtain ⟨x0, x1, x2, hfz⟩ := row_live hownA hp k hlt
     have f0 := hfz (k * 3)
     have f1 := hfz (k * 3 + 1)
     have f2 := hfz (k * 3 + 2)
     obtain ⟨W2, hW2, ho2, hg2⟩ := row_store hownA hp k hlt z
     rw [HSET.out z] at ho2
     have hB2 : Below w.heap.size w W2 := (hnx.trans (hb1.mono hnx.size)).grown hg2 (by have := hnx.size; have := hb1.size; omega) (fun j hj => by cases hj; omega)
     have HH : Hid (_ ∧ _) := ⟨ho2, hB2⟩
     have HLL : Hid ((L ++ [z]).length = k + 1) := by simp [Hid, hL.out.1]
     clear ho2 hB2 hg2 hfz hownA hown hb1 hnx HSET
     generalize (rowLs L m).getD k zeroL = old at *
     go_wp2_with fail
     rw [hW2.out]
     go_roundw
     case rel => exact ⟨k + 1, q3, L ++ [z], by omega, by go_num, rfl, ⟨HLL.out, HE.out⟩, HH.out.1, HH.out.2⟩
     case measure => simp [intOf]; omega
   ·obtain rfl : k = m := by omega
    have HO : Hid (wr.ownsRow w.heap.size 62 3 (.slice (some ⟨w.heap.size, 0, none⟩) L.length k) L.length (cellsL L)) := by
     have e := hL.out.1
     rw [← e, rowLs_all] at hown
     rw [Hid, ← e]
     exact hown
    have HE : Hid (X = some (L, q2)) := by rw [Hid, hL.out.2, Nat.sub_self]; simp [livesAt, onToL]
    have HKL : Hid (k = L.length) := hL.out.1.symm
    go_wp2
    go_ret3
    exact ⟨livesAns_some HE.out _ _ HKL.out ⟨HO.out, Nat.le_refl _, fun j hj => (HO.out.lt j hj).2⟩, hnx⟩
def PartsAns (w' : World) (lo : Nat) (x : Option (List Int × Nat)) (e : Ending) : Prop := match x with
 | some (l, q) => ∃ a' c', e = .returned (.tuple #[.slice a' l.length c', .int .i64 (q : Nat), .nilIface]) ∧ OwnI w' lo w'.heap.size a' c' l
 | none => ∃ s, e = .returned (.tuple #[.slice none 0 0, .int .i64 0, .iface 164 (.agg #[.string s])])
theorem partsAns_none {w' : World} {lo : Nat} {x : Option (List Int × Nat)} (h : x = none) (s : ByteArray) : PartsAns w' lo x (.returned (.tuple #[.slice none 0 0, .int .i64 0, .iface 164 (.agg #[.string s])])) := by
 subst h; exact ⟨s, rfl⟩
theorem partsAns_some {w' : World} {lo : Nat} {x : Option (List Int × Nat)} {l : List Int} {q : Nat} (h : x = some (l, q)) (a' : Option Addr) (c' n : Nat) (hn : n = l.length) (ho : OwnI w' lo w'.heap.size a' c' l) : PartsAns w' lo x (.returned (.tuple #[.slice a' n c', .int .i64 (q : Nat), .nilIface])) := by
 subst h; subst hn; exact ⟨a', c', rfl, ho⟩
theorem partsAt_none {zs : List Int} {p : Nat} (h : getAt zs (p : Int) = none) : partsAt zs p = none := by unfold partsAt; rw [h]
theorem partsAt_bad {zs : List Int} {p q : Nat} {n : Int} (h : getAt zs (p : Int) = some (n, q)) (hn : n < 0 ∨ 5 < n) : partsAt zs p = none := by
 unfold partsAt; rw [h]; simp only; rw [if_neg (by omega)]
theorem partsAt_good {zs : List Int} {p q m : Nat} (h : getAt zs (p : Int) = some ((m : Int), q)) (hm : m ≤ 5) : partsAt zs p = numsAt zs m q := by
 unfold partsAt; rw [h]; simp only; rw [if_pos (by omega), Int.toNat_natCast]
theorem readParts_any (a : Option Addr) (c : Nat) (zs : List Int) (p : Nat) (w : World) (hr : Reads w a zs) (hl : zs.length ≤ 70368744177664) (hcap : zs.length ≤ c) :
  Calls Tryz.prog 151 #[.slice a zs.length c, .int .i64 p] w fun e w' => PartsAns w' w.heap.size (partsAt zs p) e ∧ Below w.heap.size w w' := by
 cases hg : getAt zs (p : Int) with
 | none =>
  have HX : Hid (_ = _) := partsAt_none hg
  have HG : Hid (_ = _) := hg
  clear hg
  generalize partsAt zs p = X at *
  go_enter Tryz.func151, Tryz.ntmps151
  go_wp2_with fail
  refine (implGetInt_any a c zs p w hr hl hcap).mono ?_
  rintro e w' ⟨rfl, rfl⟩
  rw [HG.out]
  simp only [triple]
  go_wp2
  go_ret3
  exact ⟨partsAns_none HX.out _, Below.refl _ _⟩
 | some t =>
  obtain ⟨n, q⟩ := t
  by_cases hn0 : n < 0
  ·have HX : Hid (_ = _) := partsAt_bad hg (.inl hn0)
   have HG : Hid (_ = _) := hg
   clear hg
   generalize partsAt zs p = X at *
   go_enter Tryz.func151, Tryz.ntmps151
   go_wp2_with fail
   refine (implGetInt_any a c zs p w hr hl hcap).mono ?_
   rintro e w' ⟨rfl, rfl⟩
   rw [HG.out]
   simp only [triple]
   go_wp2
   go_ret3
   exact ⟨partsAns_none HX.out _, Below.refl _ _⟩
  by_cases hn5 : 5 < n
  ·have HX : Hid (_ = _) := partsAt_bad hg (.inr hn5)
   have HG : Hid (_ = _) := hg
   clear hg
   generalize partsAt zs p = X at *
   go_enter Tryz.func151, Tryz.ntmps151
   go_wp2_with fail
   refine (implGetInt_any a c zs p w hr hl hcap).mono ?_
   rintro e w' ⟨rfl, rfl⟩
   rw [HG.out]
   simp only [triple]
   go_wp2
   go_ret3
   exact ⟨partsAns_none HX.out _, Below.refl _ _⟩
  obtain ⟨m, rfl⟩ : ∃ m : Nat, n = (m : Int) := ⟨n.toNat, by omega⟩
  have hm5 : m ≤ 5 := by omega
  have HX : Hid (onTo [] (numsAt zs (m - 0) q) = partsAt zs p) := by rw [Hid, partsAt_good hg hm5, onTo_nil]; rfl
  have HG : Hid (_ = _) := hg
  clear hg
  generalize partsAt zs p = X at *
  obtain ⟨i0, hi, hz0, hz1, hz2⟩ := info_parts Tryz.infoInt
  go_enter Tryz.func151, Tryz.ntmps151
  go_wp2_with fail
  refine (implGetInt_any a c zs p w hr hl hcap).mono ?_
  rintro e w' ⟨rfl, rfl⟩
  rw [HG.out]
  simp only [triple]
  go_wp2_with (at_make; refine wpList_make_full _ rfl _ _ 35 rfl w'.heap.size 3 i0 (.int .i64 0) 1 Tryz.underlying35 hi hz0 hz1 _ _ _ _ m rfl rfl rfl rfl (by rw [hz2]; omega) (by simp [maxLen]; omega) (Nat.le_refl _) ?_)
  intro w0 hown0 hgrow0
  have hown1 : w0.ownsRow w'.heap.size 3 1 (.slice (some ⟨w'.heap.size, 0, none⟩) m m) m ((rowI [] m).map (Value.int .i64)) := by
   rw [rowI_nil, List.map_replicate]
   simpa [Value.cells, toList_madeCells_one] using hown0
  have hb0 : Below w'.heap.size w' w0 := (Below.refl _ _).grown hgrow0 (Nat.le_refl _) (fun k h => by cases h)
  clear hown0 hgrow0
  go_wp2
  go_loopw [1, 34] (fun at_ i wr => ∃ (L : List Int) (k r : Nat), Hid (L.length = k) ∧ k ≤ m ∧ i = .int .i64 k ∧ at_ = .int .i64 r ∧ Hid (onTo L (numsAt zs (m - k) r) = X) ∧ Hid (wr.ownsRow w'.heap.size 3 1 (.slice (some ⟨w'.heap.size, 0, none⟩) m m) m ((rowI L m).map (Value.int .i64))) ∧ Below w'.heap.size w' wr)
   (fun _ i _ => m - (intOf i).toNat)
  case atStart => exact ⟨[], 0, q, rfl, Nat.zero_le _, rfl, rfl, HX, hown1, hb0⟩
  case round =>
   obtain ⟨L, k, r, hL, hk, rfl, rfl, hX, hownH, hnx⟩ := hrel
   clear hown1 hb0 HX
   by_cases hlt : k < m
   ·have hown := hownH.out
    have hfz := hown.frozenAt k
    obtain ⟨u, hct⟩ := own_cell hown k hlt
    cases hg : getAt zs (r : Int) with
    | none =>
     have HG2 : Hid (_ = _) := hg
     have HXN : Hid (X = none) := by
      have e : m - k = (m - k - 1) + 1 := by omega
      rw [Hid, ← hX.out, e, onTo_stop zs L _ r hg]
     have hbS : Below w'.heap.size w' (wr.setCell ⟨w'.heap.size, k, none⟩ (.int .i64 0)) := hnx.setCell (Nat.le_refl _) _
     have HBS : Hid (_) := hbS
     clear hg hown hbS
     go_wp2_with fail
     refine (implGetInt_any a c zs r wr (hr.below hnx) hl hcap).mono ?_
     rintro e w2 ⟨rfl, rfl⟩
     rw [HG2.out]
     simp only [triple]
     go_wp2
     go_ret3
     exact ⟨partsAns_none HXN.out _, HBS.out⟩
    | some t =>
     obtain ⟨z, r2⟩ := t
     have HG2 : Hid (_ = _) := hg
     have HXS : Hid (onTo (L ++ [z]) (numsAt zs (m - (k + 1)) r2) = X) := by
      have e : m - k = (m - (k + 1)) + 1 := by omega
      rw [Hid, ← hX.out, e, onTo_step zs L _ r r2 z hg]
     have HLS : Hid ((L ++ [z]).length = k + 1) := by rw [Hid, List.length_append, hL.out]; rfl
     have HS : Hid ((wr.setCell ⟨w'.heap.size, k, none⟩ (.int .i64 z)).ownsRow w'.heap.size 3 1 (.slice (some ⟨w'.heap.size, 0, none⟩) m m) m ((rowI (L ++ [z]) m).map (Value.int .i64))) := by
      have h1 := (hown.stored k (.int .i64 z)).1
      have h2 := rowI_set_map L m z (by rw [hL.out]; exact hlt)
      rw [hL.out] at h2
      rw [h2] at h1
      exact h1
     have HN : Hid (Below w'.heap.size w' (wr.setCell ⟨w'.heap.size, k, none⟩ (.int .i64 z))) := hnx.setCell (Nat.le_refl _) _
     clear hg hown
     go_wp2_with fail
     refine (implGetInt_any a c zs r wr (hr.below hnx) hl hcap).mono ?_
     rintro e w2 ⟨rfl, rfl⟩
     rw [HG2.out]
     simp only [triple]
     go_wp2
     go_roundw
     case rel => exact ⟨L ++ [z], k + 1, r2, HLS, by omega, by go_num, rfl, HXS, HS, HN.out⟩
     case measure => simp [intOf]; omega
   ·obtain rfl : k = m := by omega
    have HXS : Hid (X = some (L, r)) := by rw [Hid, ← hX.out, Nat.sub_self, numsAt]; simp [onTo]
    have HO : Hid (OwnI wr w'.heap.size wr.heap.size (some ⟨w'.heap.size, 0, none⟩) k L) := by
     have h1 := hownH.out
     have e : rowI L k = L := by rw [← hL.out]; exact rowI_all L
     rw [e] at h1
     refine ⟨?_, Nat.le_refl _, ?_⟩
     ·rw [hL.out]; exact h1
     ·intro j hj; rw [hL.out] at hj; exact (h1.lt j hj).2
    go_wp2
    go_ret3
    exact ⟨partsAns_some HXS.out _ _ _ hL.out.symm HO.out, hnx⟩
theorem foundObj_ok (k : Int) (aI : Option Addr) (nI cI : Nat) (aR : Option Addr) (nR cR : Nat) (w : World) : Calls Tryz.prog 146 #[.agg #[.int .i64 k, .slice aI nI cI, .slice aR nR cR], .nilIface] w fun e w' => e = .returned (.tuple #[.agg #[.int .i64 k, .slice aI nI cI, .slice aR nR cR], .bool true]) ∧ Below w.heap.size w w' := by
 obtain ⟨W, hW, b0, b1, hbW, hsW⟩ := boxes2 w [.int .i64 k, .slice aI nI cI, .slice aR nR cR] [.int .i64 0, .slice none 0 0, .slice none 0 0] 37 37
 go_enter Tryz.func146, Tryz.ntmps146
 go_wp2_with fail
 rw [hW.out]
 refine (isNo_nil W).mono ?_
 rintro e w1 ⟨rfl, hb1⟩
 have B1 : Below w.heap.size w w1 := hbW.trans (hb1.mono hbW.size)
 obtain ⟨x0, x1, x2, _, _, _⟩ := (b0.below hb1 b0.lt).three
 have bR := b1.below hb1 b1.lt
 obtain ⟨y0, y1, y2, f0, f1, f2⟩ := bR.three
 obtain ⟨WF, hWF, bF, hwF, _⟩ := box3_fill bR (.int .i64 k) (.slice aI nI cI) (.slice aR nR cR)
 have HB : Hid (Below w.heap.size w WF) := B1.trans (hwF.below (by omega) (by have := hb1.size; omega))
 clear hwF hb1 B1
 go_wp2
 rw [hWF.out]
 obtain ⟨q0, q1, q2, _, _, _⟩ := bF.three
 exact bodyPost_ret (v := .tuple #[.agg #[.int .i64 k, .slice aI nI cI, .slice aR nR cR], .bool true]) (by simp [results, Tryz.results146, go_sem, q0, q1, q2]) rfl ⟨rfl, HB.out⟩
theorem foundObj_no (k : Int) (aI : Option Addr) (nI cI : Nat) (aR : Option Addr) (nR cR : Nat) (s : ByteArray) (w : World) (hg : ErrT w) : Calls Tryz.prog 146 #[.agg #[.int .i64 k, .slice aI nI cI, .slice aR nR cR], .iface 164 (.agg #[.string s])] w fun e w' => e = .returned (.tuple #[.agg #[.int .i64 0, .slice none 0 0, .slice none 0 0], .bool false]) ∧ Below w.heap.size w w' := by
 obtain ⟨W, hW, b0, b1, hbW, hsW⟩ := boxes2 w [.int .i64 k, .slice aI nI cI, .slice aR nR cR] [.int .i64 0, .slice none 0 0, .slice none 0 0] 37 37
 go_enter Tryz.func146, Tryz.ntmps146
 go_wp2_with fail
 rw [hW.out]
 refine (isNo_hit s W (hg.keep hbW)).mono ?_
 rintro e w1 ⟨rfl, hb1⟩
 have B1 : Below w.heap.size w w1 := hbW.trans (hb1.mono hbW.size)
 have bR := b1.below hb1 b1.lt
 obtain ⟨y0, y1, y2, f0, f1, f2⟩ := bR.three
 obtain ⟨WF, hWF, bF, hwF, _⟩ := box3_fill bR (.int .i64 0) (.slice none 0 0) (.slice none 0 0)
 have HB : Hid (Below w.heap.size w WF) := B1.trans (hwF.below (by omega) (by have := hb1.size; omega))
 clear hwF hb1 B1
 go_wp2
 rw [hWF.out]
 obtain ⟨q0, q1, q2, _, _, _⟩ := bF.three
 exact bodyPost_ret (v := .tuple #[.agg #[.int .i64 0, .slice none 0 0, .slice none 0 0], .bool false]) (by simp [results, Tryz.results146, go_sem, q0, q1, q2]) rfl ⟨rfl, HB.out⟩
def ReadAns (w' : World) (lo : Nat) (x : Option ObjV) (e : Ending) : Prop := match x with
 | some o => ∃ aI cI aR cR ev, e = .returned (.tuple #[.agg #[.int .i64 o.kind, .slice aI o.ints.length cI, .slice aR o.refs.length cR], ev]) ∧ IsErr (okB o) (.returned ev) ∧ OwnO w' lo w'.heap.size aI cI aR cR o
 | none => ∃ s, e = .returned (.tuple #[.agg #[.int .i64 0, .slice none 0 0, .slice none 0 0], .iface 164 (.agg #[.string s])])
theorem readAns_none {w' : World} {lo : Nat} {x : Option ObjV} (h : x = none) (s : ByteArray) : ReadAns w' lo x (.returned (.tuple #[.agg #[.int .i64 0, .slice none 0 0, .slice none 0 0], .iface 164 (.agg #[.string s])])) := by
 subst h; exact ⟨s, rfl⟩
theorem readAns_some {w' : World} {lo : Nat} {x : Option ObjV} {o : ObjV} (h : x = some o) {aI : Option Addr} {cI : Nat} {aR : Option Addr} {cR : Nat} {ev : Value} (he : IsErr (okB o) (.returned ev)) (ho : OwnO w' lo w'.heap.size aI cI aR cR o) : ReadAns w' lo x (.returned (.tuple #[.agg #[.int .i64 o.kind, .slice aI o.ints.length cI, .slice aR o.refs.length cR], ev])) := by
 subst h; exact ⟨aI, cI, aR, cR, ev, rfl, he, ho⟩
theorem isErr_ret {ok : Bool} {e : Ending} (h : IsErr ok e) : ∃ ev, e = .returned ev := by
 rcases h with ⟨_, rfl⟩ | ⟨_, s, rfl⟩
 ·exact ⟨_, rfl⟩
 ·exact ⟨_, rfl⟩
theorem readAll_none0 {zs : List Int} (h : getAt zs 0 = none) : readAll zs = none := by unfold readAll; rw [h]
theorem readAll_none1 {zs : List Int} {k : Int} {p : Nat} (h : getAt zs 0 = some (k, p)) (h1 : partsAt zs p = none) : readAll zs = none := by unfold readAll; rw [h]; simp only; rw [h1]
theorem readAll_none2 {zs : List Int} {k : Int} {p q : Nat} {is : List Int} (h : getAt zs 0 = some (k, p)) (h1 : partsAt zs p = some (is, q)) (h2 : partsAt zs q = none) : readAll zs = none := by
 unfold readAll; rw [h]; simp only; rw [h1]; simp only; rw [h2]
theorem readAll_at {zs : List Int} {k : Int} {p q r : Nat} {is rs : List Int} (h : getAt zs 0 = some (k, p)) (h1 : partsAt zs p = some (is, q)) (h2 : partsAt zs q = some (rs, r)) : readAll zs = if r = zs.length then some ⟨k, is, rs⟩ else none := by
 unfold readAll; rw [h]; simp only; rw [h1]; simp only; rw [h2]
theorem readObj_any (a : Option Addr) (c : Nat) (zs : List Int) (w : World) (hr : Reads w a zs) (hl : zs.length ≤ 70368744177664) (hcap : zs.length ≤ c) :
  Calls Tryz.prog 147 #[.slice a zs.length c] w fun e w' => ReadAns w' w.heap.size (readAll zs) e ∧ Below w.heap.size w w' := by
 generalize hXX : readAll zs = X
 have HXX : Hid (readAll zs = X) := hXX
 clear hXX
 obtain ⟨W, hW, b0, hbW, hsW⟩ := boxes1 w [.int .i64 0, .slice none 0 0, .slice none 0 0] 37
 obtain ⟨x0, x1, x2, f0, f1, f2⟩ := b0.three
 have hrW := hr.below hbW
 have hblt := b0.lt
 cases hg : getAt zs 0 with
 | none =>
  have HX : Hid (X = none) := HXX.out ▸ readAll_none0 hg
  have HG : Hid (_ = _) := hg
  clear hg
  obtain ⟨WF, hWF, bF, hwF, _⟩ := box3_fill b0 (.int .i64 0) (.slice none 0 0) (.slice none 0 0)
  have HB : Hid (Below w.heap.size w WF) := hbW.trans (hwF.below (by omega) (by omega))
  clear hwF
  go_enter Tryz.func147, Tryz.ntmps147
  go_wp2_with fail
  rw [hW.out]
  refine (implGetInt_any a c zs 0 W hrW hl hcap).mono ?_
  rintro e w' ⟨rfl, rfl⟩
  rw [HG.out]
  simp only [triple]
  go_wp2
  rw [hWF.out]
  obtain ⟨q0, q1, q2, _, _, _⟩ := bF.three
  exact bodyPost_ret (v := .tuple #[.agg #[.int .i64 0, .slice none 0 0, .slice none 0 0], .iface 164 (.agg #[.string _])]) (by simp [results, Tryz.results147, go_sem, q0, q1, q2]; rfl) rfl ⟨readAns_none HX.out _, HB.out⟩
 | some t =>
 obtain ⟨k, p⟩ := t
 have HG : Hid (_ = _) := hg
 go_enter Tryz.func147, Tryz.ntmps147
 go_wp2_with fail
 rw [hW.out]
 refine (implGetInt_any a c zs 0 W hrW hl hcap).mono ?_
 rintro e w' ⟨rfl, rfl⟩
 rw [HG.out]
 simp only [triple]
 go_wp2_with fail
 refine (readParts_any a c zs p w' hrW hl hcap).mono ?_
 rintro e w1 ⟨hans, hb1⟩
 have B1 : Below w.heap.size w w1 := hbW.trans (hb1.mono hbW.size)
 have b1 := b0.below hb1 b0.lt
 obtain ⟨y0, y1, y2, e0, e1, e2⟩ := b1.three
 have hs1 := hb1.size
 cases hp : partsAt zs p with
 | none =>
  rw [hp] at hans
  obtain ⟨s, rfl⟩ := hans
  have HX : Hid (X = none) := HXX.out ▸ readAll_none1 hg hp
  clear hg hp
  obtain ⟨WF, hWF, bF, hwF, _⟩ := box3_fill b1 (.int .i64 0) (.slice none 0 0) (.slice none 0 0)
  have HB : Hid (Below w.heap.size w WF) := B1.trans (hwF.below (by omega) (by omega))
  clear hwF
  go_wp2
  rw [hWF.out]
  obtain ⟨q0, q1, q2, _, _, _⟩ := bF.three
  exact bodyPost_ret (v := .tuple #[.agg #[.int .i64 0, .slice none 0 0, .slice none 0 0], .iface 164 (.agg #[.string s])]) (by simp [results, Tryz.results147, go_sem, q0, q1, q2]) rfl ⟨readAns_none HX.out _, HB.out⟩
 | some t =>
 obtain ⟨is, q⟩ := t
 rw [hp] at hans
 obtain ⟨aI, cI, rfl, hoI⟩ := hans
 have hq5 := (partsAt_canon zs hr.1 p is q hp).1
 go_wp2_with fail
 refine (readParts_any a c zs q w1 (hr.below B1) hl hcap).mono ?_
 rintro e w2 ⟨hans, hb2⟩
 have B2 : Below w.heap.size w w2 := B1.trans (hb2.mono B1.size)
 have b2 := b1.below hb2 b1.lt
 obtain ⟨z0, z1, z2, g0, g1, g2⟩ := b2.three
 have hs2 := hb2.size
 have hoI2 := hoI.below hb2
 clear y0 y1 y2 e0 e1 e2 x0 x1 x2 f0 f1 f2
 cases hp2 : partsAt zs q with
 | none =>
  rw [hp2] at hans
  obtain ⟨s, rfl⟩ := hans
  have HX : Hid (X = none) := HXX.out ▸ readAll_none2 hg hp hp2
  clear hg hp hp2
  obtain ⟨WF, hWF, bF, hwF, _⟩ := box3_fill b2 (.int .i64 0) (.slice none 0 0) (.slice none 0 0)
  have HB : Hid (Below w.heap.size w WF) := B2.trans (hwF.below (by omega) (by omega))
  clear hwF
  go_wp2
  rw [hWF.out]
  obtain ⟨q0, q1, q2, _, _, _⟩ := bF.three
  exact bodyPost_ret (v := .tuple #[.agg #[.int .i64 0, .slice none 0 0, .slice none 0 0], .iface 164 (.agg #[.string s])]) (by simp [results, Tryz.results147, go_sem, q0, q1, q2]) rfl ⟨readAns_none HX.out _, HB.out⟩
 | some t =>
 obtain ⟨rs, r⟩ := t
 rw [hp2] at hans
 obtain ⟨aR, cR, rfl, hoR⟩ := hans
 have hr5 := (partsAt_canon zs hr.1 q rs r hp2).1
 have hX := readAll_at hg hp hp2
 clear hg hp hp2
 by_cases hrl : r = zs.length
 case neg =>
  have HX : Hid (X = none) := by rw [Hid, ← HXX.out, hX, if_neg hrl]
  have hrb : ((r : Int) == (zs.length : Int)) = false := by simp; omega
  clear hX hrl
  obtain ⟨WF, hWF, bF, hwF, _⟩ := box3_fill b2 (.int .i64 0) (.slice none 0 0) (.slice none 0 0)
  have HB : Hid (Below w.heap.size w WF) := B2.trans (hwF.below (by omega) (by omega))
  clear hwF
  go_wp2
  rw [hWF.out]
  obtain ⟨q0, q1, q2, _, _, _⟩ := bF.three
  exact bodyPost_ret (v := .tuple #[.agg #[.int .i64 0, .slice none 0 0, .slice none 0 0], .iface 164 (.agg #[.string _])]) (by simp [results, Tryz.results147, go_sem, q0, q1, q2]; rfl) rfl ⟨readAns_none HX.out _, HB.out⟩
 case pos =>
 have HX : Hid (X = some ⟨k, is, rs⟩) := by rw [Hid, ← HXX.out, hX, if_pos hrl]
 have hrb : ((r : Int) == (zs.length : Int)) = true := by simp; omega
 clear hX hrl
 obtain ⟨W3, hW3, b3, hbW3, hsW3⟩ := boxes1 w2 [.int .i64 k, .slice aI is.length cI, .slice aR rs.length cR] 37
 have hO3 : OwnO W3 w'.heap.size w2.heap.size aI cI aR cR ⟨k, is, rs⟩ := ⟨(hoI2.below hbW3).widen (Nat.le_refl _) (by omega) (by omega), (hoR.below hbW3).widen (by omega) (by omega) (by omega), fun j hj hj' => by have := (hoI.lt j hj).2; have := (hoR.lt j hj').1; omega⟩
 have b2' := b2.below hbW3 b2.lt
 have hkeep : ∀ w'', Below W3.heap.size W3 w'' → Box w'' w2.heap.size [.int .i64 k, .slice aI is.length cI, .slice aR rs.length cR] 37 ∧ Box w'' w.heap.size [.int .i64 0, .slice none 0 0, .slice none 0 0] 37 :=
  fun w'' hh => ⟨b3.below hh b3.lt, b2'.below hh b2'.lt⟩
 have B3 : Below w.heap.size w W3 := B2.trans (hbW3.mono B2.size)
 go_wp2_with fail
 rw [hW3.out]
 have hk0 := hkeep W3 (Below.refl _ _)
 have hcells : ∀ w'', Below W3.heap.size W3 w'' → (w''.cell? ⟨w2.heap.size, 0, none⟩ = some (.int .i64 k) ∧ w''.cell? ⟨w2.heap.size, 1, none⟩ = some (.slice aI is.length cI) ∧ w''.cell? ⟨w2.heap.size, 2, none⟩ = some (.slice aR rs.length cR)) ∧ (w''.cell? ⟨w.heap.size, 0, none⟩ = some (.int .i64 0) ∧ w''.cell? ⟨w.heap.size, 1, none⟩ = some (.slice none 0 0) ∧ w''.cell? ⟨w.heap.size, 2, none⟩ = some (.slice none 0 0)) ∧ (w''.frozen? ⟨w.heap.size, 0, none⟩ = false ∧ w''.frozen? ⟨w.heap.size, 1, none⟩ = false ∧ w''.frozen? ⟨w.heap.size, 2, none⟩ = false) := by
  intro w'' hh
  obtain ⟨ba, bb⟩ := hkeep w'' hh
  exact ⟨⟨ba.cell 0 _ rfl, ba.cell 1 _ rfl, ba.cell 2 _ rfl⟩, ⟨bb.cell 0 _ rfl, bb.cell 1 _ rfl, bb.cell 2 _ rfl⟩, bb.frozen 0, bb.frozen 1, bb.frozen 2⟩
 have hh := hcells W3 (Below.refl _ _)
 clear hk0
 have hne : w.heap.size < w2.heap.size := by omega
 have hne' : ¬ (w2.heap.size = w.heap.size) := by omega
 go_region_held3 (fun w'' => w''.cell? ⟨w2.heap.size, 0, none⟩ = some (.int .i64 k) ∧ w''.cell? ⟨w2.heap.size, 1, none⟩ = some (.slice aI is.length cI) ∧ w''.cell? ⟨w2.heap.size, 2, none⟩ = some (.slice aR rs.length cR))
  (first | exact (hcells _ hw5).1 | exact ⟨((((hkeep _ hw5).1.other hne').other hne').other hne').cell 0 _ rfl, ((((hkeep _ hw5).1.other hne').other hne').other hne').cell 1 _ rfl, ((((hkeep _ hw5).1.other hne').other hne').other hne').cell 2 _ rfl⟩ | go_keep)
  (first | (go_at_call 107; refine (checkObj_any ⟨k, is, rs⟩ aI cI aR cR _ hO3.reads.drew (by simp only; omega) (by simp only; omega)).mono ?_; rintro e w5 ⟨hie, hb5⟩; obtain ⟨ev, rfl⟩ := isErr_ret hie; have hw5 : Below W3.heap.size W3 w5 := (Below.refl _ _).drew.trans hb5; obtain ⟨⟨m0, m1, m2⟩, ⟨y0, y1, y2⟩, e0, e1, e2⟩ := hcells _ hw5))
 obtain ⟨WF, hWF, bF, hwF, hsF⟩ := box3_fill (hkeep _ hw5).2 (.int .i64 k) (.slice aI is.length cI) (.slice aR rs.length cR)
 rw [hWF.out]
 go_wp2
 obtain ⟨q0, q1, q2, _, _, _⟩ := bF.three
 have hs5 := hw5.size
 have hOF : OwnO WF w'.heap.size w2.heap.size aI cI aR cR ⟨k, is, rs⟩ := (hO3.below hw5).within hwF (.inr (by omega))
 exact bodyPost_ret (v := .tuple #[.agg #[.int .i64 k, .slice aI is.length cI, .slice aR rs.length cR], ev]) (by simp [results, Tryz.results147, go_sem, q0, q1, q2]) rfl ⟨readAns_some HX.out hie (hOF.widen (by omega) (by omega) (Nat.le_refl _)), (B3.trans (hw5.mono B3.size)).trans (hwF.below (Nat.le_refl _) (by omega))⟩
theorem implGetObj_any (a : Option Addr) (c : Nat) (zs : List Int) (w : World) (hg : ErrT w) (hr : Reads w a zs) (hl : zs.length ≤ 70368744177664) (hcap : zs.length ≤ c) :
  Calls Tryz.prog 138 #[.slice a zs.length c] w fun e w' => ∃ aI cI aR cR o ok, e = .returned (.tuple #[.agg #[.int .i64 o.kind, .slice aI o.ints.length cI, .slice aR o.refs.length cR], .bool ok]) ∧ Hid (getPair zs = (o, ok)) ∧ OwnO w' w.heap.size w'.heap.size aI cI aR cR o ∧ Below w.heap.size w w' := by
 have HN : Hid (readAll zs = none → getPair zs = (noO, false)) := getPair_none zs
 have HBD : Hid (∀ o, readAll zs = some o → okB o = false → getPair zs = (noO, false)) := fun o => getPair_bad zs o
 have HGD : Hid (∀ o, readAll zs = some o → okB o = true → getPair zs = (o, true)) := fun o => getPair_some zs hr.1 o
 generalize getPair zs = PR at *
 obtain ⟨W, hW, b0, hbW, hsW⟩ := boxes1 w [.int .i64 0, .slice none 0 0, .slice none 0 0] 37
 go_enter Tryz.func138, Tryz.ntmps138
 go_wp2_with fail
 rw [hW.out]
 refine (readObj_any a c zs W (hr.below hbW) hl hcap).mono ?_
 rintro e w1 ⟨hans, hb1⟩
 have B1 : Below w.heap.size w w1 := hbW.trans (hb1.mono hbW.size)
 have b1 := b0.below hb1 b0.lt
 have hs1 := hb1.size
 cases hx : readAll zs with
 | none =>
  have HP : Hid (_ = _) := HN.out hx
  rw [hx] at hans
  obtain ⟨s, rfl⟩ := hans
  clear hx
  go_wp2_with fail
  refine (foundObj_no 0 none 0 0 none 0 0 s w1 (hg.keep B1)).mono ?_
  rintro e w2 ⟨rfl, hb2⟩
  have B2 : Below w.heap.size w w2 := B1.trans (hb2.mono B1.size)
  have b2 := b1.below hb2 b1.lt
  have hs2 := hb2.size
  obtain ⟨y0, y1, y2, f0, f1, f2⟩ := b2.three
  obtain ⟨WF, hWF, bF, hwF, _⟩ := box3_fill b2 (.int .i64 0) (.slice none 0 0) (.slice none 0 0)
  have HB : Hid (Below w.heap.size w WF) := B2.trans (hwF.below (by omega) (by omega))
  clear hwF
  go_wp2
  rw [hWF.out]
  obtain ⟨q0, q1, q2, _, _, _⟩ := bF.three
  exact bodyPost_ret (v := .tuple #[.agg #[.int .i64 0, .slice none 0 0, .slice none 0 0], .bool false]) (by simp [results, Tryz.results138, go_sem, q0, q1, q2]) rfl ⟨none, 0, none, 0, noO, false, rfl, HP.out, ⟨ownI_nil _ _ _ (Nat.le_refl _), ownI_nil _ _ _ (Nat.le_refl _), fun k hk => by cases hk⟩, HB.out⟩
 | some o =>
  rw [hx] at hans
  obtain ⟨aI, cI, aR, cR, ev, rfl, hie, ho⟩ := hans
  rcases hie with ⟨hok, hev⟩ | ⟨hok, s, hev⟩
  ·obtain rfl : ev = .nilIface := by simpa using hev
   have HP : Hid (_ = _) := HGD.out o hx hok
   clear hx hok hev
   go_wp2_with fail
   refine (foundObj_ok o.kind aI o.ints.length cI aR o.refs.length cR w1).mono ?_
   rintro e w2 ⟨rfl, hb2⟩
   have B2 : Below w.heap.size w w2 := B1.trans (hb2.mono B1.size)
   have b2 := b1.below hb2 b1.lt
   have hs2 := hb2.size
   obtain ⟨y0, y1, y2, f0, f1, f2⟩ := b2.three
   obtain ⟨WF, hWF, bF, hwF, hsF⟩ := box3_fill b2 (.int .i64 o.kind) (.slice aI o.ints.length cI) (.slice aR o.refs.length cR)
   have HB : Hid (Below w.heap.size w WF) := B2.trans (hwF.below (by omega) (by omega))
   have HO : Hid (OwnO WF w.heap.size WF.heap.size aI cI aR cR o) := ((ho.below hb2).within hwF (.inr (by omega))).widen (by omega) (by omega) (Nat.le_refl _)
   clear hwF
   go_wp2
   rw [hWF.out]
   obtain ⟨q0, q1, q2, _, _, _⟩ := bF.three
   exact bodyPost_ret (v := .tuple #[.agg #[.int .i64 o.kind, .slice aI o.ints.length cI, .slice aR o.refs.length cR], .bool true]) (by simp [results, Tryz.results138, go_sem, q0, q1, q2]) rfl ⟨aI, cI, aR, cR, o, true, rfl, HP.out, HO.out, HB.out⟩
  ·obtain rfl : ev = _ := by simpa using hev
   have HP : Hid (_ = _) := HBD.out o hx hok
   clear hx hok hev
   go_wp2_with fail
   refine (foundObj_no o.kind aI o.ints.length cI aR o.refs.length cR s w1 (hg.keep B1)).mono ?_
   rintro e w2 ⟨rfl, hb2⟩
   have B2 : Below w.heap.size w w2 := B1.trans (hb2.mono B1.size)
   have b2 := b1.below hb2 b1.lt
   have hs2 := hb2.size
   obtain ⟨y0, y1, y2, f0, f1, f2⟩ := b2.three
   obtain ⟨WF, hWF, bF, hwF, _⟩ := box3_fill b2 (.int .i64 0) (.slice none 0 0) (.slice none 0 0)
   have HB : Hid (Below w.heap.size w WF) := B2.trans (hwF.below (by omega) (by omega))
   clear hwF
   go_wp2
   rw [hWF.out]
   obtain ⟨q0, q1, q2, _, _, _⟩ := bF.three
   exact bodyPost_ret (v := .tuple #[.agg #[.int .i64 0, .slice none 0 0, .slice none 0 0], .bool false]) (by simp [results, Tryz.results138, go_sem, q0, q1, q2]) rfl ⟨none, 0, none, 0, noO, false, rfl, HP.out, ⟨ownI_nil _ _ _ (Nat.le_refl _), ownI_nil _ _ _ (Nat.le_refl _), fun k hk => by cases hk⟩, HB.out⟩
theorem strOf_data (sub : List Int) (j : Nat) (hb : Bytes sub) (h : j < sub.length) : (((strOf sub).data.toList.getD j 0).toNat : Int) = sub.getD j 0 := by
 have hz := hb (sub.getD j 0) (by simp [List.getD, h])
 have e : (strOf sub).data.toList.getD j 0 = UInt8.ofNat (sub.getD j 0).toNat := by
  unfold strOf
  simp [List.getD, h]
 rw [e]
 generalize sub.getD j 0 = z at *
 have : (UInt8.ofNat z.toNat).toNat = z.toNat := by simp; omega
 rw [this]
 omega
theorem strOf_len (sub : List Int) : (strOf sub).size = sub.length := by simp [strOf, ByteArray.size]
theorem bytes_of_text (w : World) (sub : List Int) (hb : Bytes sub) :
  ∃ W c, (convert 9 22 (.string (strOf sub))).run Tryz.prog w = .ok (.slice (some ⟨w.heap.size, 0, none⟩) sub.length c) W ∧ Reads W (some ⟨w.heap.size, 0, none⟩) sub ∧ sub.length ≤ c ∧ Below w.heap.size w W := by
 have h := Lib.run_convert_string_bytes (P := Tryz.prog) w 9 22 5 (strOf sub) Tryz.underlying9 Tryz.underlying22 Tryz.underlying5
 rw [strOf_len] at h
 refine ⟨_, _, h, ⟨hb, fun hne => ⟨w.heap.size, 0, rfl, fun i hi => ?_⟩⟩, ?_, ?_⟩
 ·rw [Nat.zero_add, Lib.bytesWorld_cell w 5 (strOf sub) i (by rw [strOf_len]; exact hi), strOf_data sub i hb hi]
 ·exact grownCap_ge _ _ _ _
 ·exact ⟨rfl, rfl, rfl, by rw [Lib.bytesWorld_size]; omega, fun k hk => Lib.bytesWorld_at_old w _ _ k hk⟩
def SlotAns (w' : World) (lo : Nat) (x : Option (SlotV × Nat)) (e : Ending) : Prop := match x with
 | some (s, q) => ∃ t : SlotA, e = .returned (.tuple #[.agg t.cells.toArray, .int .i64 (q : Nat), .bool true]) ∧ t.v = s ∧ t.own w' lo w'.heap.size
 | none => e = .returned (.tuple #[.agg zeroS.cells.toArray, .int .i64 0, .bool false])
theorem slotAns_none {w' : World} {lo : Nat} {x : Option (SlotV × Nat)} (h : x = none) : SlotAns w' lo x (.returned (.tuple #[.agg #[.bool false, .int .i64 0, .slice none 0 0, .slice none 0 0], .int .i64 0, .bool false])) := by subst h; rfl
theorem slotAns_some {w' : World} {lo : Nat} {x : Option (SlotV × Nat)} {s : SlotV} {q : Nat} (h : x = some (s, q)) (t : SlotA) (hv : t.v = s) (ho : t.own w' lo w'.heap.size) : SlotAns w' lo x (.returned (.tuple #[.agg t.cells.toArray, .int .i64 (q : Nat), .bool true])) := by subst h; exact ⟨t, rfl, hv, ho⟩
theorem slotAt_none {zs : List Int} {p : Nat} (h : getAt zs (p : Int) = none) : slotAt zs p = none := by unfold slotAt; rw [h]
theorem slotAt_out {zs : List Int} {p q : Nat} {n : Int} (h : getAt zs (p : Int) = some (n, q)) (hn : n < 0 ∨ (zs.length : Int) - (q : Int) < n) : slotAt zs p = none := by unfold slotAt; rw [h]; simp only; rw [if_pos hn]
theorem slotAt_zero {zs : List Int} {p q : Nat} (h : getAt zs (p : Int) = some (0, q)) (hq : q ≤ zs.length) : slotAt zs p = some (noS, q) := by unfold slotAt; rw [h]; simp only; rw [if_neg (by omega), if_pos trivial]
theorem slotAt_in {zs : List Int} {p q m : Nat} (h : getAt zs (p : Int) = some ((m : Int), q)) (hm : 0 < m) (hq : q + m ≤ zs.length) : slotAt zs p = if (getPair ((zs.drop q).take m)).2 then some (⟨true, (getPair ((zs.drop q).take m)).1⟩, q + m) else none := by
 unfold slotAt; rw [h]; simp only [Int.toNat_natCast]; rw [if_neg (by omega), if_neg (by omega)]
theorem text_bad {zs : List Int} {p : Nat} (h : getAt zs (p : Int) = none ∨ ∃ n q, getAt zs (p : Int) = some (n, q) ∧ (n < 0 ∨ (zs.length : Int) - (q : Int) < n)) : textOf zs (p : Int) = .tuple #[.string ⟨#[]⟩, .int .i64 0, .bool false] := by
 unfold textOf
 rcases h with h | ⟨n, q, h, hn⟩
 ·rw [h]
 ·rw [h]; simp only; rw [if_neg (by omega)]
theorem text_in {zs : List Int} {p q m : Nat} (h : getAt zs (p : Int) = some ((m : Int), q)) (hq : q + m ≤ zs.length) : textOf zs (p : Int) = .tuple #[.string (strOf ((zs.drop q).take m)), .int .i64 ((q + m : Nat) : Int), .bool true] := by
 unfold textOf; rw [h]; simp only [Int.toNat_natCast]; rw [if_pos (by omega)]
 rfl
theorem readSlot_any (a : Option Addr) (c : Nat) (zs : List Int) (p : Nat) (w : World) (hg : ErrT w) (hr : Reads w a zs) (hl : zs.length ≤ 1099511627776) (hcap : zs.length ≤ c) :
  Calls Tryz.prog 122 #[.slice a zs.length c, .int .i64 (p : Int)] w fun e w' => SlotAns w' w.heap.size (slotAt zs p) e ∧ Below w.heap.size w w' := by
 obtain ⟨W, hW, b0, hbW, hsW⟩ := boxes1 w [.bool false, .int .i64 0, .slice none 0 0, .slice none 0 0] 39
 have CT := implGetText_any a c zs (p : Int) W (hr.below hbW) (by omega) hcap
 obtain ⟨x0, x1, x2, x3, f0, f1, f2, f3⟩ := b0.four
 have hby : Bytes zs := hr.1
 by_cases hbad : getAt zs (p : Int) = none ∨ ∃ n q, getAt zs (p : Int) = some (n, q) ∧ (n < 0 ∨ (zs.length : Int) - (q : Int) < n)
 ·have HX : Hid (slotAt zs p = none) := by rcases hbad with h | ⟨n, q, h, hn⟩; exact slotAt_none h; exact slotAt_out h hn
  rw [text_bad hbad] at CT
  generalize slotAt zs p = X at *
  obtain ⟨WF, hWF, bF, hwF, hsF⟩ := box4_fill b0 (.bool false) (.int .i64 0) (.slice none 0 0) (.slice none 0 0)
  have HB : Hid (Below w.heap.size w WF) := hbW.trans (hwF.below (Nat.le_refl _) (by omega))
  clear hwF hbad
  go_enter Tryz.func122, Tryz.ntmps122
  go_wp2_with fail
  rw [hW.out]
  refine CT.mono ?_
  clear CT
  rintro e w1 ⟨rfl, rfl⟩
  go_wp2
  rw [hWF.out]
  obtain ⟨q0, q1, q2, q3, _⟩ := bF.four
  exact bodyPost_ret (v := .tuple #[.agg #[.bool false, .int .i64 0, .slice none 0 0, .slice none 0 0], .int .i64 0, .bool false]) (by simp [results, Tryz.results122, go_sem, q0, q1, q2, q3]) rfl ⟨slotAns_none HX.out, HB.out⟩
 obtain ⟨n, q, hgt, hn⟩ : ∃ n q, getAt zs (p : Int) = some (n, q) ∧ ¬ (n < 0 ∨ (zs.length : Int) - (q : Int) < n) := by
  cases h : getAt zs (p : Int) with
  | none => exact absurd (.inl h) hbad
  | some r => exact ⟨r.1, r.2, rfl, fun hn => hbad (.inr ⟨r.1, r.2, h, hn⟩)⟩
 obtain ⟨m, rfl⟩ : ∃ m : Nat, n = (m : Int) := ⟨n.toNat, by omega⟩
 have hqm : q + m ≤ zs.length := by omega
 rw [text_in hgt hqm] at CT
 by_cases hm : m = 0
 ·subst hm
  have HX : Hid (slotAt zs p = some (noS, q)) := slotAt_zero hgt (by omega)
  generalize slotAt zs p = X at *
  have hse : strOf ((zs.drop q).take 0) = ⟨#[]⟩ := by simp [strOf]
  rw [hse] at CT
  simp only [Nat.add_zero] at CT
  obtain ⟨WF, hWF, bF, hwF, hsF⟩ := box4_fill b0 (.bool false) (.int .i64 0) (.slice none 0 0) (.slice none 0 0)
  have HB : Hid (Below w.heap.size w WF) := hbW.trans (hwF.below (Nat.le_refl _) (by omega))
  clear hwF hbad hse hgt hn
  go_enter Tryz.func122, Tryz.ntmps122
  go_wp2_with fail
  rw [hW.out]
  refine CT.mono ?_
  clear CT
  rintro e w1 ⟨rfl, rfl⟩
  go_wp2
  rw [hWF.out]
  obtain ⟨q0, q1, q2, q3, _⟩ := bF.four
  exact bodyPost_ret (v := .tuple #[.agg #[.bool false, .int .i64 0, .slice none 0 0, .slice none 0 0], .int .i64 (q : Nat), .bool true]) (by simp [results, Tryz.results122, go_sem, q0, q1, q2, q3]) rfl ⟨slotAns_some HX.out zeroS rfl (own_zero _ _ _ (Nat.le_refl _)), HB.out⟩
 have HX : Hid (_ = _) := slotAt_in hgt (by omega) hqm
 have hsb : Bytes ((zs.drop q).take m) := fun z hz => hby z (List.mem_of_mem_drop (List.mem_of_mem_take hz))
 have hsl : ((zs.drop q).take m).length = m := by rw [List.length_take, List.length_drop]; omega
 generalize slotAt zs p = X at *
 generalize (zs.drop q).take m = sub at *
 have HSL : Hid (_ = _) := hsl
 have hsub1 : 1 ≤ sub.length := by omega
 have hsub2 : sub.length ≤ 1099511627776 := by omega
 obtain ⟨WC, cc, hcv, hrC, hcc, hbC⟩ := bytes_of_text W sub hsb
 have hne : (strOf sub).toList.isEmpty = false := by
  have h1 : (strOf sub).toList.length = sub.length := by rw [ByteArray.toList_eq]; simp [strOf]
  cases h2 : (strOf sub).toList with
  | nil => rw [h2] at h1; simp only [List.length_nil] at h1; omega
  | cons x r => rfl
 have hsC := hbC.size
 have CG := implGetObj_any (some ⟨W.heap.size, 0, none⟩) cc sub WC ((hg.keep hbW).keep hbC) hrC (by omega) hcc
 have b0C := b0.below hbC b0.lt
 clear hbad hgt hn hsl hby
 generalize strOf sub = str at *
 go_enter Tryz.func122, Tryz.ntmps122
 go_wp2_with fail
 rw [hW.out]
 refine CT.mono ?_
 clear CT
 rintro e w1 ⟨rfl, rfl⟩
 go_wp2_with fail
 have hWe : w1.heap.size = w.heap.size + 1 := hsW
 rw [hWe] at CG
 refine CG.mono ?_
 clear CG hcv
 rintro e w2 ⟨aI, cI, aR, cR, o, ok, rfl, HGP, ho2, hb2⟩
 rw [HGP.out] at HX
 simp only at HX
 have hs2 := hb2.size
 have B2 : Below w.heap.size w w2 := (hbW.trans (hbC.mono (by omega))).trans (hb2.mono (by omega))
 have b02 := b0C.below hb2 b0C.lt
 obtain ⟨W3, hW3, b3, hb3, hs3⟩ := boxes1 w2 [.int .i64 o.kind, .slice aI o.ints.length cI, .slice aR o.refs.length cR] 37
 have b03 := b02.below hb3 b02.lt
 have ho3 := ho2.below hb3
 have B3 : Below w.heap.size w W3 := B2.trans (hb3.mono (by omega))
 have hlt3 := b03.lt
 obtain ⟨x0, x1, x2, x3, f0, f1, f2, f3⟩ := b03.four
 clear b02 b0C ho2 hb2 hbC hb3
 cases ok with
 | false =>
  have HXN : Hid (X = none) := by rw [Hid, HX.out]; simp
  obtain ⟨WF, hWF, bF, hwF, hsF⟩ := box4_fill b03 (.bool false) (.int .i64 0) (.slice none 0 0) (.slice none 0 0)
  have HB : Hid (Below w.heap.size w WF) := B3.trans (hwF.below (Nat.le_refl _) (by omega))
  have W3e := hW3.out
  rw [← W3e] at x0 x1 x2 x3 f0 f1 f2 f3 hWF
  clear hwF hW3 b03 W3e b3
  go_wp2
  rw [hWF.out]
  obtain ⟨q0, q1, q2, q3, _⟩ := bF.four
  exact bodyPost_ret (v := .tuple #[.agg #[.bool false, .int .i64 0, .slice none 0 0, .slice none 0 0], .int .i64 0, .bool false]) (by simp [results, Tryz.results122, go_sem, q0, q1, q2, q3]) rfl ⟨slotAns_none HXN.out, HB.out⟩
 | true =>
  have HXS : Hid (X = some (⟨true, o⟩, q + m)) := by rw [Hid, HX.out]; simp
  obtain ⟨WF, hWF, bF, hwF, hsF⟩ := box4_fill b03 (.bool true) (.int .i64 o.kind) (.slice aI o.ints.length cI) (.slice aR o.refs.length cR)
  have HB : Hid (Below w.heap.size w WF) := B3.trans (hwF.below (Nat.le_refl _) (by omega))
  have HOF : Hid (OwnO WF w.heap.size WF.heap.size aI cI aR cR o) := (ho3.within hwF (.inr (by omega))).widen (by omega) (by omega) (Nat.le_refl _)
  obtain ⟨z0, z1, z2, _, _, _⟩ := b3.three
  have W3e := hW3.out
  rw [← W3e] at x0 x1 x2 x3 f0 f1 f2 f3 hWF z0 z1 z2
  clear hwF hW3 b03 W3e b3 ho3
  go_wp2
  rw [hWF.out]
  obtain ⟨q0, q1, q2, q3, _⟩ := bF.four
  exact bodyPost_ret (v := .tuple #[.agg #[.bool true, .int .i64 o.kind, .slice aI o.ints.length cI, .slice aR o.refs.length cR], .int .i64 ((q + m : Nat) : Int), .bool true]) (by simp [results, Tryz.results122, go_sem, q0, q1, q2, q3]) rfl ⟨slotAns_some HXS.out ⟨⟨true, o⟩, aI, cI, aR, cR⟩ rfl HOF.out, HB.out⟩
theorem readR_n0 {zs : List Int} (h : numsAt zs 6 0 = none) : readR zs = none := by unfold readR; rw [h]
theorem readR_n1 {zs : List Int} {n t v k o x : Int} {p : Nat} (h : numsAt zs 6 0 = some ([n, t, v, k, o, x], p)) (h1 : slotAt zs p = none) : readR zs = none := by unfold readR; rw [h]; simp only; rw [h1]
theorem readR_n2 {zs : List Int} {n t v k o x : Int} {p q : Nat} {b : SlotV} (h : numsAt zs 6 0 = some ([n, t, v, k, o, x], p)) (h1 : slotAt zs p = some (b, q)) (h2 : slotAt zs q = none) : readR zs = none := by unfold readR; rw [h]; simp only; rw [h1]; simp only; rw [h2]
theorem readR_n3 {zs : List Int} {n t v k o x : Int} {p q s : Nat} {b a : SlotV} (h : numsAt zs 6 0 = some ([n, t, v, k, o, x], p)) (h1 : slotAt zs p = some (b, q)) (h2 : slotAt zs q = some (a, s)) (h3 : countAt zs s = none) : readR zs = none := by unfold readR; rw [h]; simp only; rw [h1]; simp only; rw [h2]; simp only; rw [h3]
theorem readR_n4 {zs : List Int} {n t v k o x : Int} {p q s z : Nat} {b a : SlotV} {l : List LiveV} (h : numsAt zs 6 0 = some ([n, t, v, k, o, x], p)) (h1 : slotAt zs p = some (b, q)) (h2 : slotAt zs q = some (a, s)) (h3 : countAt zs s = some (l, z)) (h4 : ¬ z = zs.length) : readR zs = none := by unfold readR; rw [h]; simp only; rw [h1]; simp only; rw [h2]; simp only; rw [h3]; simp only; rw [if_neg h4]
theorem six_set {w : World} {C : Nat} {T : TypeId} (b : Box w C [.int .i64 0, .int .i64 0, .int .i64 0, .int .i64 0, .int .i64 0, .bool false, .int .i64 0, .slice none 0 0, .slice none 0 0, .bool false, .int .i64 0, .slice none 0 0, .slice none 0 0, .int .i64 0, .slice none 0 0] T) (n t v k o x : Int) : Box (setAll w [(C, 0), (C, 1), (C, 2), (C, 3), (C, 4), (C, 13)] [n, t, v, k, o, x]) C [.int .i64 n, .int .i64 t, .int .i64 v, .int .i64 k, .int .i64 o, .bool false, .int .i64 0, .slice none 0 0, .slice none 0 0, .bool false, .int .i64 0, .slice none 0 0, .slice none 0 0, .int .i64 x, .slice none 0 0] T :=
 (((((b.set 0 (.int .i64 n)).set 1 (.int .i64 t)).set 2 (.int .i64 v)).set 3 (.int .i64 k)).set 4 (.int .i64 o)).set 13 (.int .i64 x)
def RecAns (w' : World) (lo : Nat) (x : Option RecV) (e : Ending) : Prop := match x with
 | some r => ∃ t : RecA, e = .returned (.tuple #[.agg t.cells.toArray, .bool true]) ∧ t.v = r ∧ t.own w' lo w'.heap.size
 | none => ∃ t : RecA, e = .returned (.tuple #[.agg t.cells.toArray, .bool false])
theorem recAns_none {w' : World} {lo : Nat} {x : Option RecV} (h : x = none) (t : RecA) : RecAns w' lo x (.returned (.tuple #[.agg t.cells.toArray, .bool false])) := by subst h; exact ⟨t, rfl⟩
theorem recAns_some {w' : World} {lo : Nat} {x : Option RecV} {r : RecV} (h : x = some r) (t : RecA) (hv : t.v = r) (ho : t.own w' lo w'.heap.size) : RecAns w' lo x (.returned (.tuple #[.agg t.cells.toArray, .bool true])) := by subst h; exact ⟨t, rfl, hv, ho⟩
theorem readRec_any (a : Option Addr) (c : Nat) (zs : List Int) (w : World) (hg : ErrT w) (hr : Reads w a zs) (hl : zs.length ≤ 1099511627776) (hcap : zs.length ≤ c) :
  Calls Tryz.prog 105 #[.slice a zs.length c] w fun e w' => RecAns w' w.heap.size (readR zs) e ∧ Below w.heap.size w w' := by
 obtain ⟨W, hW, bR, bC, hbW, hsW⟩ := boxes2 w [.int .i64 0, .int .i64 0, .int .i64 0, .int .i64 0, .int .i64 0, .bool false, .int .i64 0, .slice none 0 0, .slice none 0 0, .bool false, .int .i64 0, .slice none 0 0, .slice none 0 0, .int .i64 0, .slice none 0 0] [.int .i64 0, .int .i64 0, .int .i64 0, .int .i64 0, .int .i64 0, .bool false, .int .i64 0, .slice none 0 0, .slice none 0 0, .bool false, .int .i64 0, .slice none 0 0, .slice none 0 0, .int .i64 0, .slice none 0 0] 42 42
 obtain ⟨W2, hW2, bP, hbW2, hsW2⟩ := boxes1 W [.pointer (some ⟨w.heap.size + 1, 0, none⟩), .pointer (some ⟨w.heap.size + 1, 1, none⟩), .pointer (some ⟨w.heap.size + 1, 2, none⟩), .pointer (some ⟨w.heap.size + 1, 3, none⟩), .pointer (some ⟨w.heap.size + 1, 4, none⟩), .pointer (some ⟨w.heap.size + 1, 13, none⟩)] 158
 have bR2 := bR.below hbW2 bR.lt
 have bC2 := bC.below hbW2 bC.lt
 have hltC := bC.lt
 have sW2 := hbW2.size
 have B2 : Below w.heap.size w W2 := hbW.trans (hbW2.mono hbW.size)
 have hP3 : W.heap.size = w.heap.size + 1 + 1 := by omega
 rw [hP3] at bP
 have hltP := bP.lt
 have hrl : ∀ u, Within (w.heap.size + 1) (w.heap.size + 2) W2 u → Reads u a zs := fun u hu => hr.below (B2.trans (hu.below (by omega) B2.size))
 have CI := readInts_any a c zs 0 (w.heap.size + 1 + 1) 6 (w.heap.size + 1) (w.heap.size + 2) [(w.heap.size + 1, 0), (w.heap.size + 1, 1), (w.heap.size + 1, 2), (w.heap.size + 1, 3), (w.heap.size + 1, 4), (w.heap.size + 1, 13)] W2 hrl (by omega) hcap (by simp) 158 bP (by omega) (by
  intro x hx
  simp only [List.mem_cons, List.not_mem_nil, or_false] at hx
  rcases hx with rfl | rfl | rfl | rfl | rfl | rfl
  ·exact ⟨⟨by omega, by omega⟩, by rw [bC2.cell 0 _ rfl]; rfl, bC2.frozen 0⟩
  ·exact ⟨⟨by omega, by omega⟩, by rw [bC2.cell 1 _ rfl]; rfl, bC2.frozen 1⟩
  ·exact ⟨⟨by omega, by omega⟩, by rw [bC2.cell 2 _ rfl]; rfl, bC2.frozen 2⟩
  ·exact ⟨⟨by omega, by omega⟩, by rw [bC2.cell 3 _ rfl]; rfl, bC2.frozen 3⟩
  ·exact ⟨⟨by omega, by omega⟩, by rw [bC2.cell 4 _ rfl]; rfl, bC2.frozen 4⟩
  ·exact ⟨⟨by omega, by omega⟩, by rw [bC2.cell 13 _ rfl]; rfl, bC2.frozen 13⟩)
 simp only [List.length_cons, List.length_nil, Nat.zero_add, Nat.reduceAdd, Int.natCast_zero] at CI
 have H0 : Hid (numsAt zs 6 0 = none → readR zs = none) := fun h => readR_n0 h
 have H1 : Hid (∀ n t v k o x p, numsAt zs 6 0 = some ([n, t, v, k, o, x], p) → slotAt zs p = none → readR zs = none) := fun _ _ _ _ _ _ _ h h1 => readR_n1 h h1
 have H2 : Hid (∀ n t v k o x p b q, numsAt zs 6 0 = some ([n, t, v, k, o, x], p) → slotAt zs p = some (b, q) → slotAt zs q = none → readR zs = none) := fun _ _ _ _ _ _ _ _ _ h h1 h2 => readR_n2 h h1 h2
 have H3 : Hid (∀ n t v k o x p b q b' s, numsAt zs 6 0 = some ([n, t, v, k, o, x], p) → slotAt zs p = some (b, q) → slotAt zs q = some (b', s) → countAt zs s = none → readR zs = none) := fun _ _ _ _ _ _ _ _ _ _ _ h h1 h2 h3 => readR_n3 h h1 h2 h3
 have H4 : Hid (∀ n t v k o x p b q b' s l z, numsAt zs 6 0 = some ([n, t, v, k, o, x], p) → slotAt zs p = some (b, q) → slotAt zs q = some (b', s) → countAt zs s = some (l, z) → ¬ z = zs.length → readR zs = none) := fun _ _ _ _ _ _ _ _ _ _ _ _ _ h h1 h2 h3 h4 => readR_n4 h h1 h2 h3 h4
 have H5 : Hid (∀ n t v k o x p b q b' s l, numsAt zs 6 0 = some ([n, t, v, k, o, x], p) → slotAt zs p = some (b, q) → slotAt zs q = some (b', s) → countAt zs s = some (l, zs.length) → readR zs = some ⟨n, t, v, k, o, b, b', x, l⟩) := fun _ _ _ _ _ _ _ _ _ _ _ _ h h1 h2 h3 => readR_eq h h1 h2 h3
 have HS6 : Hid (∀ n t v k o x, _) := fun n t v k o x => six_set bC2 n t v k o x
 generalize readR zs = XX at *
 clear hP3 hsW hsW2 bC bR bC2 bP
 go_enter Tryz.func105, Tryz.ntmps105
 go_wp2_with fail
 rw [hW.out, hW2.out]
 clear hW hW2
 refine CI.mono ?_
 clear CI
 rintro e w3 ⟨hans, hw3⟩
 have bR3 := bR2.within hw3 (by omega)
 have B3 : Below w.heap.size w w3 := B2.trans (hw3.below (by omega) (by omega))
 have s3 := hw3.size
 cases hn : numsAt zs 6 0 with
 | none =>
  have HX : Hid (XX = none) := H0.out hn
  rw [hn] at hans
  obtain ⟨rfl, _⟩ := hans
  clear H0 H1 H2 H3 H4 H5 HS6 hn
  obtain ⟨WF, hWF, hwF, hsF, HTF, HLF, _⟩ := rec_out zeroR _ rfl bR3
  have HB : Hid (Below w.heap.size w WF) := (B3).trans (hwF.below (Nat.le_refl _) (B3).size)
  clear hwF hsF
  go_wp2_with (first | (guard_target = wpList _ _ _ (Oper.mk none (Op.store _ (Operand.tmp 2) _) _ _ _ _ :: _) _ _; refine wpList_store_mid rfl 42 (.tmp 2) (.tmp 21) rfl w.heap.size 0 zeroR.cells.toArray rfl rfl HTF.out (by rw [List.size_toArray]; exact rec_info _) (rec_one _) ?_) | fail)
  rw [hWF.out]
  exact bodyPost_ret (v := .tuple #[.agg zeroR.cells.toArray, .bool false]) (results_cell_flag Tryz.results105 rfl HLF.out rfl) rfl ⟨recAns_none HX.out zeroR, HB.out⟩
 | some g =>
 obtain ⟨l, p⟩ := g
 rw [hn] at hans
 obtain ⟨rfl, hwe, hll⟩ := hans
 have hll' : l.length = 6 := hll
 match l, hll' with
 | [n, t, v, k, o, x], _ =>
 have bC3 := HS6.out n t v k o x
 have hwe' : w3 = setAll W2 [(w.heap.size + 1, 0), (w.heap.size + 1, 1), (w.heap.size + 1, 2), (w.heap.size + 1, 3), (w.heap.size + 1, 4), (w.heap.size + 1, 13)] [n, t, v, k, o, x] := hwe
 rw [← hwe'] at bC3
 clear hwe hwe' HS6 H0 hll bR2 hw3
 go_wp2_with fail
 refine (readSlot_any a c zs p w3 (hg.keep B3) (hr.below B3) hl hcap).mono ?_
 rintro e w4 ⟨hans, hb4⟩
 have B4 : Below w.heap.size w w4 := B3.trans (hb4.mono B3.size)
 have bR4 := bR3.below hb4 bR3.lt
 have bC4 := bC3.below hb4 bC3.lt
 have s4 := hb4.size
 clear bC3 bR3
 cases h1 : slotAt zs p with
 | none =>
  have HX : Hid (XX = none) := H1.out _ _ _ _ _ _ _ hn h1
  rw [h1] at hans
  simp only [SlotAns, SlotA.cells, zeroS] at hans
  obtain rfl := hans
  clear H1 H2 H3 H4 H5 hn h1
  have x5 := bC4.cell 5 _ rfl
  have xf5 := bC4.frozen 5
  have x6 := bC4.cell 6 _ rfl
  have xf6 := bC4.frozen 6
  have x7 := bC4.cell 7 _ rfl
  have xf7 := bC4.frozen 7
  have x8 := bC4.cell 8 _ rfl
  have xf8 := bC4.frozen 8
  obtain ⟨W5, hW5, b5, hw5, hs5⟩ := box_quad bC4 5 6 7 8 (.bool false) (.int .i64 0) (.slice none 0 0) (.slice none 0 0)
  have B5 : Below w.heap.size w W5 := B4.trans (hw5.below (by omega) (by omega))
  have bR5 := bR4.within hw5 (by omega)
  obtain ⟨WF, hWF, hwF, hsF, HTF, HLF, _⟩ := rec_out zeroR _ rfl bR5
  have HB : Hid (Below w.heap.size w WF) := (B5).trans (hwF.below (Nat.le_refl _) (B5).size)
  clear hwF hsF
  clear hw5 b5 bC4 bR4
  simp only [List.length_nil]
  go_wp2_with (first | (guard_target = wpList _ _ _ (Oper.mk none (Op.store _ (Operand.tmp 2) _) _ _ _ _ :: _) _ _; refine wpList_store_mid rfl 42 (.tmp 2) (.tmp 32) rfl w.heap.size 0 zeroR.cells.toArray rfl rfl (by rw [hW5.out]; exact HTF.out) (by rw [List.size_toArray]; exact rec_info _) (rec_one _) ?_) | fail)
  rw [hW5.out, hWF.out]
  exact bodyPost_ret (v := .tuple #[.agg zeroR.cells.toArray, .bool false]) (results_cell_flag Tryz.results105 rfl HLF.out rfl) rfl ⟨recAns_none HX.out zeroR, HB.out⟩
 | some g =>
 obtain ⟨sv1, q1⟩ := g
 rw [h1] at hans
 obtain ⟨t1, rfl, hv1, ho1⟩ := hans
 have HV1 : Hid (t1.v = sv1) := hv1
 clear hv1
 simp only [SlotA.cells]
 have x5 := bC4.cell 5 _ rfl
 have xf5 := bC4.frozen 5
 have x6 := bC4.cell 6 _ rfl
 have xf6 := bC4.frozen 6
 have x7 := bC4.cell 7 _ rfl
 have xf7 := bC4.frozen 7
 have x8 := bC4.cell 8 _ rfl
 have xf8 := bC4.frozen 8
 obtain ⟨W5, hW5, b5, hw5, hs5⟩ := box_quad bC4 5 6 7 8 (.bool t1.v.has) (.int .i64 t1.v.o.kind) (.slice t1.aI t1.v.o.ints.length t1.cI) (.slice t1.aR t1.v.o.refs.length t1.cR)
 simp only [List.set] at b5
 have B5 : Below w.heap.size w W5 := B4.trans (hw5.below (by omega) (by omega))
 have bR5 := bR4.within hw5 (by omega)
 have o15 : t1.own W5 w3.heap.size w4.heap.size := OwnO.within ho1 hw5 (by omega)
 clear hw5 bC4 bR4 H1 ho1
 go_wp2_with fail
 rw [hW5.out]
 clear hW5 x5 xf5 x6 xf6 x7 xf7 x8 xf8
 refine (readSlot_any a c zs q1 W5 (hg.keep B5) (hr.below B5) hl hcap).mono ?_
 rintro e w6 ⟨hans, hb6⟩
 have B6 : Below w.heap.size w w6 := B5.trans (hb6.mono B5.size)
 have bR6 := bR5.below hb6 bR5.lt
 have bC6 := b5.below hb6 b5.lt
 have o16 := OwnO.below o15 hb6
 have s6 := hb6.size
 clear b5 bR5 o15
 cases h2 : slotAt zs q1 with
 | none =>
  have HX : Hid (XX = none) := H2.out _ _ _ _ _ _ _ _ _ hn h1 h2
  rw [h2] at hans
  simp only [SlotAns, SlotA.cells, zeroS] at hans
  obtain rfl := hans
  clear H2 H3 H4 H5 hn h1 h2
  have x9 := bC6.cell 9 _ rfl
  have xf9 := bC6.frozen 9
  have x10 := bC6.cell 10 _ rfl
  have xf10 := bC6.frozen 10
  have x11 := bC6.cell 11 _ rfl
  have xf11 := bC6.frozen 11
  have x12 := bC6.cell 12 _ rfl
  have xf12 := bC6.frozen 12
  obtain ⟨W7, hW7, b7, hw7, hs7⟩ := box_quad bC6 9 10 11 12 (.bool false) (.int .i64 0) (.slice none 0 0) (.slice none 0 0)
  have B7 : Below w.heap.size w W7 := B6.trans (hw7.below (by omega) (by omega))
  have bR7 := bR6.within hw7 (by omega)
  obtain ⟨WF, hWF, hwF, hsF, HTF, HLF, _⟩ := rec_out zeroR _ rfl bR7
  have HB : Hid (Below w.heap.size w WF) := (B7).trans (hwF.below (Nat.le_refl _) (B7).size)
  clear hwF hsF
  clear hw7 b7 bC6 bR6
  simp only [List.length_nil]
  go_wp2_with (first | (guard_target = wpList _ _ _ (Oper.mk none (Op.store _ (Operand.tmp 2) _) _ _ _ _ :: _) _ _; refine wpList_store_mid rfl 42 (.tmp 2) (.tmp 43) rfl w.heap.size 0 zeroR.cells.toArray rfl rfl (by rw [hW7.out]; exact HTF.out) (by rw [List.size_toArray]; exact rec_info _) (rec_one _) ?_) | fail)
  rw [hW7.out, hWF.out]
  exact bodyPost_ret (v := .tuple #[.agg zeroR.cells.toArray, .bool false]) (results_cell_flag Tryz.results105 rfl HLF.out rfl) rfl ⟨recAns_none HX.out zeroR, HB.out⟩
 | some g =>
 obtain ⟨sv2, q2⟩ := g
 rw [h2] at hans
 obtain ⟨t2, rfl, hv2, ho2⟩ := hans
 have HV2 : Hid (t2.v = sv2) := hv2
 clear hv2
 simp only [SlotA.cells]
 have x9 := bC6.cell 9 _ rfl
 have xf9 := bC6.frozen 9
 have x10 := bC6.cell 10 _ rfl
 have xf10 := bC6.frozen 10
 have x11 := bC6.cell 11 _ rfl
 have xf11 := bC6.frozen 11
 have x12 := bC6.cell 12 _ rfl
 have xf12 := bC6.frozen 12
 obtain ⟨W7, hW7, b7, hw7, hs7⟩ := box_quad bC6 9 10 11 12 (.bool t2.v.has) (.int .i64 t2.v.o.kind) (.slice t2.aI t2.v.o.ints.length t2.cI) (.slice t2.aR t2.v.o.refs.length t2.cR)
 simp only [List.set] at b7
 have B7 : Below w.heap.size w W7 := B6.trans (hw7.below (by omega) (by omega))
 have bR7 := bR6.within hw7 (by omega)
 have o17 := OwnO.within o16 hw7 (by omega)
 have o27 : t2.own W7 W5.heap.size w6.heap.size := OwnO.within ho2 hw7 (by omega)
 clear hw7 bC6 bR6 H2 ho2 o16
 go_wp2_with fail
 rw [hW7.out]
 clear hW7 x9 xf9 x10 xf10 x11 xf11 x12 xf12
 refine (readLives_any a c zs q2 W7 (hr.below B7) (by omega) hcap).mono ?_
 rintro e w8 ⟨hans, hb8⟩
 have B8 : Below w.heap.size w w8 := B7.trans (hb8.mono B7.size)
 have bR8 := bR7.below hb8 bR7.lt
 have bC8 := b7.below hb8 b7.lt
 have o18 := OwnO.below o17 hb8
 have o28 := OwnO.below o27 hb8
 have s8 := hb8.size
 clear b7 bR7 o17 o27
 have x14 := bC8.cell 14 _ rfl
 have xf14 := bC8.frozen 14
 cases h3 : countAt zs q2 with
 | none =>
  have HX : Hid (XX = none) := H3.out _ _ _ _ _ _ _ _ _ _ _ hn h1 h2 h3
  rw [h3] at hans
  simp only [LivesAns] at hans
  obtain rfl := hans
  clear H3 H4 H5 hn h1 h2 h3
  obtain ⟨W9, hW9, b9, hw9, hs9⟩ := box_set bC8 14 (.slice none 0 0)
  have B9 : Below w.heap.size w W9 := B8.trans (hw9.below (by omega) (by omega))
  have bR9 := bR8.within hw9 (by omega)
  obtain ⟨WF, hWF, hwF, hsF, HTF, HLF, _⟩ := rec_out zeroR _ rfl bR9
  have HB : Hid (Below w.heap.size w WF) := (B9).trans (hwF.below (Nat.le_refl _) (B9).size)
  clear hwF hsF
  clear hw9 b9 bC8 bR8
  go_wp2_with (first | (guard_target = wpList _ _ _ (Oper.mk none (Op.store _ (Operand.tmp 2) _) _ _ _ _ :: _) _ _; refine wpList_store_mid rfl 42 (.tmp 2) (.tmp 54) rfl w.heap.size 0 zeroR.cells.toArray rfl rfl (by rw [hW9.out]; exact HTF.out) (by rw [List.size_toArray]; exact rec_info _) (rec_one _) ?_) | fail)
  rw [hW9.out, hWF.out]
  exact bodyPost_ret (v := .tuple #[.agg zeroR.cells.toArray, .bool false]) (results_cell_flag Tryz.results105 rfl HLF.out rfl) rfl ⟨recAns_none HX.out zeroR, HB.out⟩
 | some g =>
 obtain ⟨ls, z⟩ := g
 rw [h3] at hans
 obtain ⟨aL, cL, rfl, oL⟩ := hans
 obtain ⟨W9, hW9, b9, hw9, hs9⟩ := box_set bC8 14 (.slice aL ls.length cL)
 simp only [List.set] at b9
 have B9 : Below w.heap.size w W9 := B8.trans (hw9.below (by omega) (by omega))
 have bR9 := bR8.within hw9 (by omega)
 have b9' : Box W9 (w.heap.size + 1) (RecA.cells ⟨n, t, v, k, o, t1, t2, x, ls, aL, cL⟩) 42 := b9
 have o19 : t1.own W9 w3.heap.size w4.heap.size := OwnO.within o18 hw9 (by omega)
 have o29 : t2.own W9 W5.heap.size w6.heap.size := OwnO.within o28 hw9 (by omega)
 have oL9 : OwnL W9 W7.heap.size w8.heap.size aL cL ls := oL.within hw9 (by omega)
 have hap : Hid ((t1.blocks ++ (t2.blocks ++ (Value.slice aL ls.length cL).ownBlock.toList)).Nodup) := rec_apart (b := W5.heap.size) (c := W7.heap.size) (OwnO.widen o19 (Nat.le_refl _) (by omega) (by omega)) (OwnO.widen o29 (Nat.le_refl _) (by omega) (by omega)) oL9 (by omega)
 have hown : RecA.own W9 w3.heap.size W9.heap.size ⟨n, t, v, k, o, t1, t2, x, ls, aL, cL⟩ := ⟨OwnO.widen o19 (by omega) (by omega) (Nat.le_refl _), OwnO.widen o29 (by omega) (by omega) (Nat.le_refl _), oL9.widen (by omega) (by omega) (Nat.le_refl _), hap.out⟩
 have hvv : Hid (RecA.v ⟨n, t, v, k, o, t1, t2, x, ls, aL, cL⟩ = ⟨n, t, v, k, o, sv1, sv2, x, ls⟩) := by simp only [Hid, RecA.v, HV1.out, HV2.out]
 have HQ : Hid (z = zs.length → XX = some ⟨n, t, v, k, o, sv1, sv2, x, ls⟩) := fun hz => H5.out _ _ _ _ _ _ _ _ _ _ _ _ hn h1 h2 (by rw [← hz]; exact h3)
 have HQ2 : Hid (¬ z = zs.length → XX = none) := fun hz => H4.out _ _ _ _ _ _ _ _ _ _ _ _ _ hn h1 h2 h3 hz
 clear hn h1 h2 h3 H3 H4 H5 o18 o28 oL bC8 bR8 hap o19 o29 oL9 HV1 HV2
 obtain ⟨WF, hWF, hwF, hsF, HTF, HLF, _⟩ := rec_out ⟨n, t, v, k, o, t1, t2, x, ls, aL, cL⟩ _ rfl bR9
 have oF : RecA.own WF w.heap.size WF.heap.size ⟨n, t, v, k, o, t1, t2, x, ls, aL, cL⟩ := (hown.within hwF (.inr (by omega))).widen (by omega) (by omega) (Nat.le_refl _)
 have HB : Hid (Below w.heap.size w WF) := B9.trans (hwF.below (Nat.le_refl _) B9.size)
 have r9 : W9.rangeAt (w.heap.size + 1) 0 (RecA.cells ⟨n, t, v, k, o, t1, t2, x, ls, aL, cL⟩) := Box.range [] _ [] (by simpa using b9')
 clear hwF hsF b9 b9' hw9 hown
 generalize hTT : ((⟨n, t, v, k, o, t1, t2, x, ls, aL, cL⟩) : RecA) = TT at *
 clear hTT
 by_cases hz : z = zs.length
 ·have hzb : ((z : Int) == (zs.length : Int)) = true := by simp; omega
  have HX : Hid (XX = some _) := HQ.out hz
  clear HQ HQ2 hz
  go_wp2_with (first | (guard_target = wpList _ _ _ (Oper.mk (some 55) _ _ _ _ _ :: _) _ _; refine wpList_load_mid rfl 42 (.tmp 4) rfl (w.heap.size + 1) 0 rfl TT.cells _ (by rw [hW9.out]; exact r9) Tryz.underlying42 rfl (rec_info _) ?_) | (guard_target = wpList _ _ _ (Oper.mk none (Op.store _ (Operand.tmp 2) _) _ _ _ _ :: _) _ _; refine wpList_store_mid rfl 42 (.tmp 2) (.tmp 55) rfl w.heap.size 0 TT.cells.toArray rfl rfl (by rw [hW9.out]; exact HTF.out) (by rw [List.size_toArray]; exact rec_info _) (rec_one _) ?_) | fail)
  rw [hW9.out, hWF.out]
  exact bodyPost_ret (v := .tuple #[.agg TT.cells.toArray, .bool true]) (results_cell_flag Tryz.results105 rfl HLF.out rfl) rfl ⟨recAns_some HX.out TT hvv.out oF, HB.out⟩
 ·have hzb : ((z : Int) == (zs.length : Int)) = false := by simp; omega
  have HX : Hid (XX = none) := HQ2.out hz
  clear HQ HQ2 hz
  go_wp2_with (first | (guard_target = wpList _ _ _ (Oper.mk (some 55) _ _ _ _ _ :: _) _ _; refine wpList_load_mid rfl 42 (.tmp 4) rfl (w.heap.size + 1) 0 rfl TT.cells _ (by rw [hW9.out]; exact r9) Tryz.underlying42 rfl (rec_info _) ?_) | (guard_target = wpList _ _ _ (Oper.mk none (Op.store _ (Operand.tmp 2) _) _ _ _ _ :: _) _ _; refine wpList_store_mid rfl 42 (.tmp 2) (.tmp 55) rfl w.heap.size 0 TT.cells.toArray rfl rfl (by rw [hW9.out]; exact HTF.out) (by rw [List.size_toArray]; exact rec_info _) (rec_one _) ?_) | fail)
  rw [hW9.out, hWF.out]
  exact bodyPost_ret (v := .tuple #[.agg TT.cells.toArray, .bool false]) (results_cell_flag Tryz.results105 rfl HLF.out rfl) rfl ⟨recAns_none HX.out TT, HB.out⟩
def GotR (w w' : World) (zs : List Int) (e : Ending) : Prop := ∃ t : RecA, e = .returned (.tuple #[.agg t.cells.toArray, .bool (pairR zs).2]) ∧ Hid (t.v = (pairR zs).1) ∧ t.own w' w.heap.size w'.heap.size ∧ Below w.heap.size w w'
theorem gotR_no {w w' : World} {zs : List Int} (h : pairR zs = (noR, false)) (hb : Below w.heap.size w w') : GotR w w' zs (.returned (.tuple #[.agg zeroR.cells.toArray, .bool false])) :=
 ⟨zeroR, by rw [h], by rw [h]; rfl, own_zeroR _ _ _ (Nat.le_refl _), hb⟩
theorem gotR_yes {w w' : World} {zs : List Int} {t : RecA} {r : RecV} (h : pairR zs = (r, true)) (hv : t.v = r) (ho : t.own w' w.heap.size w'.heap.size) (hb : Below w.heap.size w w') : GotR w w' zs (.returned (.tuple #[.agg t.cells.toArray, .bool true])) :=
 ⟨t, by rw [h], by rw [Hid, h]; exact hv, ho, hb⟩
theorem readR_short {zs : List Int} (hb : Bytes zs) {r : RecV} (h : readR zs = some r) {t : RecA} (hv : t.v = r) : t.short 1099511627776 := by
 obtain ⟨h1, h2, h3⟩ := readR_slots zs hb r h
 have small : ∀ s : SlotV, slotB s = true → s.o.ints.length ≤ 5 ∧ s.o.refs.length ≤ 5 := fun s hs => by
  cases hh : s.has with
  | true => rw [slotB_has hh] at hs; have := okB_bd hs; exact ⟨this.2.1, this.2.2.1⟩
  | false => rw [slotB_not hh hs]; exact ⟨Nat.zero_le _, Nat.zero_le _⟩
 subst hv
 have a1 := small _ h1
 have a2 := small _ h2
 simp only [RecA.v] at a1 a2 h3
 exact ⟨by omega, by omega, by omega⟩
theorem implGetRec_any (a : Option Addr) (c : Nat) (zs : List Int) (w : World) (hg : ErrT w) (hr : Reads w a zs) (hl : zs.length ≤ 1099511627776) (hcap : zs.length ≤ c) :
  Calls Tryz.prog 90 #[.slice a zs.length c] w fun e w' => GotR w w' zs e := by
 obtain ⟨W, hW, bR, hbW, hsW⟩ := boxes1 w [.int .i64 0, .int .i64 0, .int .i64 0, .int .i64 0, .int .i64 0, .bool false, .int .i64 0, .slice none 0 0, .slice none 0 0, .bool false, .int .i64 0, .slice none 0 0, .slice none 0 0, .int .i64 0, .slice none 0 0] 42
 have H0 : Hid (readR zs = none → pairR zs = (noR, false)) := fun h => pairR_none h
 have H1 : Hid (∀ r, readR zs = some r → okR r = false → pairR zs = (noR, false)) := fun r h h1 => pairR_wrong h h1
 have H2 : Hid (∀ r, readR zs = some r → okR r = true → pairR zs = (r, true)) := fun r h h1 => pairR_some hr.1 h h1
 have HSH : Hid (∀ (t : RecA) r, readR zs = some r → t.v = r → t.short 1099511627776) := fun t r h hv => readR_short hr.1 h hv
 have C := readRec_any a c zs W (hg.keep hbW) (hr.below hbW) hl hcap
 have hltR := bR.lt
 clear hsW
 go_enter Tryz.func90, Tryz.ntmps90
 go_wp2_with fail
 rw [hW.out]
 clear hW
 refine C.mono ?_
 clear C
 rintro e w1 ⟨hans, hb1⟩
 have B1 : Below w.heap.size w w1 := hbW.trans (hb1.mono hbW.size)
 have bR1 := bR.below hb1 bR.lt
 have s1 := hb1.size
 clear bR
 cases hrd : readR zs with
 | none =>
  have HP : Hid (pairR zs = (noR, false)) := H0.out hrd
  rw [hrd] at hans
  obtain ⟨t, rfl⟩ := hans
  clear H0 H1 H2 HSH hrd
  obtain ⟨Z, hZ, bZ, hbZ, _⟩ := boxes1 w1 [.int .i64 0, .int .i64 0, .int .i64 0, .int .i64 0, .int .i64 0, .bool false, .int .i64 0, .slice none 0 0, .slice none 0 0, .bool false, .int .i64 0, .slice none 0 0, .slice none 0 0, .int .i64 0, .slice none 0 0] 42
  obtain ⟨w2, hS2, hw2, hz2, HT2, _, bt⟩ := rec_out t [.int .i64 0, .int .i64 0, .int .i64 0, .int .i64 0, .int .i64 0, .bool false, .int .i64 0, .slice none 0 0, .slice none 0 0, .bool false, .int .i64 0, .slice none 0 0, .slice none 0 0, .int .i64 0, .slice none 0 0] rfl bZ
  have hb2 : Below w1.heap.size w1 w2 := hbZ.trans (hw2.below (Nat.le_refl _) (by have := hbZ.size; omega))
  have B2 : Below w.heap.size w w2 := B1.trans (hb2.mono B1.size)
  obtain ⟨WF, hWF, hwF, hsF, HTF, HLF, _⟩ := rec_out zeroR _ rfl (bR1.below hb2 bR1.lt)
  have HE : Hid (GotR w WF zs _) := gotR_no HP.out (B2.trans (hwF.below (Nat.le_refl _) B2.size))
  clear bZ hbZ hw2 hz2 hwF hsF bt bR1
  go_wp2_with (first | (guard_target = wpList _ _ _ (Oper.mk none (Op.store _ (Operand.tmp 4) _) _ _ _ _ :: _) _ _; refine wpList_store_mid rfl 42 (.tmp 4) (.tmp 9) rfl w1.heap.size 0 t.cells.toArray rfl rfl (by rw [hZ.out]; exact HT2.out) (by rw [List.size_toArray]; exact rec_info _) (rec_one _) ?_) | (guard_target = wpList _ _ _ (Oper.mk none (Op.store _ (Operand.tmp 2) _) _ _ _ _ :: _) _ _; refine wpList_store_mid rfl 42 (.tmp 2) (.tmp 18) rfl w.heap.size 0 zeroR.cells.toArray rfl rfl (by rw [hZ.out, hS2.out]; exact HTF.out) (by rw [List.size_toArray]; exact rec_info _) (rec_one _) ?_) | fail)
  rw [hZ.out, hS2.out, hWF.out]
  exact bodyPost_ret (v := .tuple #[.agg zeroR.cells.toArray, .bool false]) (results_cell_flag Tryz.results90 rfl HLF.out rfl) rfl HE.out
 | some r =>
  rw [hrd] at hans
  obtain ⟨t, rfl, hv, ho⟩ := hans
  have HV : Hid (t.v = r) := hv
  have hts := HSH.out t r hrd hv
  clear hv H0 HSH
  obtain ⟨Z, hZ, bZ, hbZ, _⟩ := boxes1 w1 [.int .i64 0, .int .i64 0, .int .i64 0, .int .i64 0, .int .i64 0, .bool false, .int .i64 0, .slice none 0 0, .slice none 0 0, .bool false, .int .i64 0, .slice none 0 0, .slice none 0 0, .int .i64 0, .slice none 0 0] 42
  obtain ⟨w2, hS2, hw2, hz2, HT2, _, bt⟩ := rec_out t [.int .i64 0, .int .i64 0, .int .i64 0, .int .i64 0, .int .i64 0, .bool false, .int .i64 0, .slice none 0 0, .slice none 0 0, .bool false, .int .i64 0, .slice none 0 0, .slice none 0 0, .int .i64 0, .slice none 0 0] rfl bZ
  have hb2 : Below w1.heap.size w1 w2 := hbZ.trans (hw2.below (Nat.le_refl _) (by have := hbZ.size; omega))
  have B2 : Below w.heap.size w w2 := B1.trans (hb2.mono B1.size)
  have ot2 := ho.below hb2
  have bR2 := bR1.below hb2 bR1.lt
  have s2 := hb2.size
  have C2 := implRecOk_any t w2 (hg.keep B2) ot2.reads hts
  rw [HV.out] at C2
  have rt : w2.rangeAt w1.heap.size 0 t.cells := Box.range [] _ [] (by simpa using bt)
  clear bZ hbZ hw2 hz2 bR1 ho
  go_wp2_with (first | (guard_target = wpList _ _ _ (Oper.mk none (Op.store _ (Operand.tmp 4) _) _ _ _ _ :: _) _ _; refine wpList_store_mid rfl 42 (.tmp 4) (.tmp 9) rfl w1.heap.size 0 t.cells.toArray rfl rfl (by rw [hZ.out]; exact HT2.out) (by rw [List.size_toArray]; exact rec_info _) (rec_one _) ?_) | (guard_target = wpList _ _ _ (Oper.mk (some 14) _ _ _ _ _ :: _) _ _; refine wpList_load_mid_if (by rfl) 42 (.tmp 4) rfl w1.heap.size 0 rfl t.cells _ (by rw [hZ.out, hS2.out]; exact rt) Tryz.underlying42 rfl (rec_info _) ?_) | fail)
  rw [hZ.out, hS2.out]
  clear hZ hS2 HT2 rt
  refine C2.mono ?_
  clear C2
  rintro e w3 ⟨rfl, hb3⟩
  have B3 : Below w.heap.size w w3 := B2.trans (hb3.mono B2.size)
  have bR3 := bR2.below hb3 bR2.lt
  have bt3 := bt.below hb3 bt.lt
  have ot3 := ot2.below hb3
  have s3 := hb3.size
  clear bR2 bt ot2
  cases hok : okR r with
  | false =>
   have HP : Hid (pairR zs = (noR, false)) := H1.out r hrd hok
   clear H1 H2 hrd hok
   obtain ⟨WF, hWF, hwF, hsF, HTF, HLF, _⟩ := rec_out zeroR _ rfl bR3
   have HE : Hid (GotR w WF zs _) := gotR_no HP.out (B3.trans (hwF.below (Nat.le_refl _) B3.size))
   clear hwF hsF
   go_wp2_with (first | (guard_target = wpList _ _ _ (Oper.mk none (Op.store _ (Operand.tmp 2) _) _ _ _ _ :: _) _ _; refine wpList_store_mid rfl 42 (.tmp 2) (.tmp 18) rfl w.heap.size 0 zeroR.cells.toArray rfl rfl HTF.out (by rw [List.size_toArray]; exact rec_info _) (rec_one _) ?_) | fail)
   rw [hWF.out]
   exact bodyPost_ret (v := .tuple #[.agg zeroR.cells.toArray, .bool false]) (results_cell_flag Tryz.results90 rfl HLF.out rfl) rfl HE.out
  | true =>
   have HP : Hid (pairR zs = (r, true)) := H2.out r hrd hok
   clear H1 H2 hrd hok
   obtain ⟨WF, hWF, hwF, hsF, HTF, HLF, _⟩ := rec_out t _ rfl bR3
   have HE : Hid (GotR w WF zs _) := gotR_yes HP.out HV.out ((ot3.within hwF (.inr (by omega))).widen (by omega) (by omega) (Nat.le_refl _)) (B3.trans (hwF.below (Nat.le_refl _) B3.size))
   have rt : w3.rangeAt w1.heap.size 0 t.cells := Box.range [] _ [] (by simpa using bt3)
   clear hwF hsF
   go_wp2_with (first | (guard_target = wpList _ _ _ (Oper.mk (some 19) _ _ _ _ _ :: _) _ _; refine wpList_load_mid rfl 42 (.tmp 4) rfl w1.heap.size 0 rfl t.cells _ rt Tryz.underlying42 rfl (rec_info _) ?_) | (guard_target = wpList _ _ _ (Oper.mk none (Op.store _ (Operand.tmp 2) _) _ _ _ _ :: _) _ _; refine wpList_store_mid rfl 42 (.tmp 2) (.tmp 19) rfl w.heap.size 0 t.cells.toArray rfl rfl HTF.out (by rw [List.size_toArray]; exact rec_info _) (rec_one _) ?_) | fail)
   rw [hWF.out]
   exact bodyPost_ret (v := .tuple #[.agg t.cells.toArray, .bool true]) (results_cell_flag Tryz.results90 rfl HLF.out rfl) rfl HE.out
def nextB (zs : List Int) (k : Nat) (p : Int) : Bool := ((unfOf zs p).2.2 == 0) && ((pairR (unfOf zs p).1).2 && ((pairR (unfOf zs p).1).1.lsn == (k : Int) + 1))
def readFrom (zs : List Int) : Nat → List RecV → Int → List RecV × Int
 | 0, rs, p => (rs, p)
 | n + 1, rs, p => if nextB zs rs.length p = true then readFrom zs n (rs ++ [(pairR (unfOf zs p).1).1]) (unfOf zs p).2.1 else (rs, p)
def readLogOf (zs : List Int) : List RecV × Int := readFrom zs 4000 [] 0
theorem readFrom_yes {zs : List Int} {n : Nat} {rs : List RecV} {p : Int} (h : nextB zs rs.length p = true) : readFrom zs (n + 1) rs p = readFrom zs n (rs ++ [(pairR (unfOf zs p).1).1]) (unfOf zs p).2.1 := by rw [readFrom, if_pos h]
theorem readFrom_no {zs : List Int} {n : Nat} {rs : List RecV} {p : Int} (h : nextB zs rs.length p = false) : readFrom zs n rs p = (rs, p) := by
 cases n with
 | zero => rfl
 | succ n => rw [readFrom, if_neg (by rw [h]; decide)]
def leftM (B : Nat) (w : World) : Nat := match w.cell? ⟨B, 0, none⟩ with
 | some (.slice _ n _) => 4000 - n
 | _ => 0
def LogGot (w w' : World) (zs : List Int) (e : Ending) : Prop := ∃ t : LogA, e = .returned (.tuple #[.agg t.cells.toArray, .int .i64 (readLogOf zs).2]) ∧ Hid (t.v = ⟨(readLogOf zs).1, (readLogOf zs).1.length⟩) ∧ t.own w' w.heap.size w'.heap.size ∧ Below w.heap.size w w'
theorem OwnB.cap {w : World} {lo : Nat} {a : Option Addr} {c : Nat} {ys : List Int} (h : OwnB w lo a c ys) : ys.length ≤ c := by
 rcases h.2.2 with ⟨hv, h0⟩ | ⟨g, cap, cur, hv, _, _, h1, _⟩
 ·omega
 ·simp only [Value.slice.injEq] at hv; omega
def framesB (rs : List RecA) : List Int := (rs.map RecA.v).flatMap (fun r => frameOf (putRecOf r))
theorem framesB_next (rs : List RecA) (k : Nat) (h : k < rs.length) : framesB (rs.take (k + 1)) = framesB (rs.take k) ++ frameOf (putRecOf (rs.getD k zeroR).v) := by
 have e : rs.getD k zeroR = rs[k] := by simp [List.getD, h]
 unfold framesB
 rw [List.take_succ_eq_append_getElem h, List.map_append, List.flatMap_append, e]
 simp
theorem frame_len (r : RecV) : (frameOf (putRecOf r)).length ≤ 100100 := by
 have h1 := putRec_len r
 have h2 := (putOf_len ((putRecOf r).length : Int)).2
 have h3 : (four (crcOf (putRecOf r))).length = 4 := rfl
 simp only [frameOf, List.length_append]
 omega
theorem framesB_len (rs : List RecA) (k : Nat) : (framesB (rs.take k)).length ≤ k * 100100 := by
 induction k with
 | zero => simp [framesB]
 | succ k ih =>
  by_cases h : k < rs.length
  ·rw [framesB_next rs k h, List.length_append]
   have := frame_len (rs.getD k zeroR).v
   omega
  ·have e : rs.take (k + 1) = rs.take k := by rw [List.take_of_length_le (by omega), List.take_of_length_le (by omega)]
   rw [e, Nat.add_mul]
   exact Nat.le_trans ih (Nat.le_add_right _ _)
theorem logBytes_no {l : LogA} (h : okLog l.v = false) : logBytesOf l.v = [] := by unfold logBytesOf; rw [if_neg (by rw [h]; decide)]
theorem logBytes_yes {l : LogA} (h : okLog l.v = true) : logBytesOf l.v = framesB l.recs := by unfold logBytesOf; rw [if_pos h]; rfl
theorem ownB_lit {w W : World} (h : w.alloc (.cells #[] 5) = W) : OwnB W w.heap.size (some ⟨w.heap.size, 0, none⟩) 0 [] := by
 subst h
 exact ⟨by simp, World.ownsRow_lit (size := 1) w #[] 0 (Nat.le_refl _) (by simp [maxLen]) rfl⟩
theorem implLogBytes_any (l : LogA) (w : World) (hg : ErrT w) (hr : l.reads w) (hl : l.short 1099511627776) :
  Calls Tryz.prog 8 #[.agg l.cells.toArray] w fun e w' => ∃ a' c' ys, e = .returned (.slice a' ys.length c') ∧ Hid (ys = logBytesOf l.v) ∧ OwnB w' w.heap.size a' c' ys ∧ Below w.heap.size w w' := by
 have HNO : Hid (okLog l.v = false → logBytesOf l.v = []) := fun h => logBytes_no h
 have HYES : Hid (okLog l.v = true → logBytesOf l.v = framesB l.recs ∧ l.recs.length ≤ 4000) := fun h => ⟨logBytes_yes h, by have := (okLog_yes h).1; rw [l.v_len] at this; exact this⟩
 have HS : Hid (∀ k, k < l.recs.length → (l.recs.getD k zeroR).short 1099511627776) := fun k hk => hl.at k hk
 obtain ⟨W, hW, b0, bE, hbW, hsW⟩ := boxes2 w l.cells [] 26 5
 have oE : OwnB W w.heap.size (some ⟨w.heap.size + 1, 0, none⟩) 0 [] := by
  have h1 : (w.alloc (.cells l.cells.toArray 26)).alloc (.cells #[] 5) = W := hW.out
  have h2 := ownB_lit h1
  rw [World.size_alloc] at h2
  exact ⟨h2.1, ownsRow_base h2.2 (fun k hk => by have := (h2.2.lt k hk).1; omega)⟩
 have C1 := implLogOk_any l W (hg.keep hbW) (hr.below hbW) hl
 have HX : Hid (∀ u, Below W.heap.size W u → Box u w.heap.size l.cells 26) := fun u hu => b0.below hu b0.lt
 have HC : Hid (∀ k, k < l.recs.length → ∃ b off, l.a = some ⟨b, off, none⟩ ∧ w.rangeAt b (off + k * 15) (l.recs.getD k zeroR).cells ∧ (l.recs.getD k zeroR).reads w) := fun k hk => by
  obtain ⟨b, off, ha, hc⟩ := hr (by intro e; rw [e] at hk; simp at hk)
  exact ⟨b, off, ha, hc k hk⟩
 have HG : Hid (∀ u, Below w.heap.size w u → ErrT u) := fun u hu => hg.keep hu
 have HI : Hid ((Tryz.prog.info? 42).map (·.size) = some 15) := by rw [Hid]; kernel_rfl
 have hs0 : w.heap.size + 1 < W.heap.size := by omega
 clear hsW bE
 obtain ⟨rs, s, a, c⟩ := l
 simp only [LogA.cells] at *
 have x0 := b0.cell 0 _ rfl
 have x1 := b0.cell 1 _ rfl
 clear b0 hr hl hg
 go_enter Tryz.func8, Tryz.ntmps8
 go_upto_region 2 with fail
 rw [hW.out]
 clear hW
 go_wp2_with fail
 refine C1.mono ?_
 clear C1 x0 x1
 generalize okLog (LogA.v ⟨rs, s, a, c⟩) = R at *
 rintro e w1 ⟨rfl, hb1⟩
 have hs1 := hb1.size
 have o1 : OwnB w1 w.heap.size (some ⟨w.heap.size + 1, 0, none⟩) 0 [] := ⟨oE.1, ownsRow_block oE.2 (fun k hk => hb1.block k (oE.2.lt k hk).2)⟩
 have D1 : Below w.heap.size w w1 := hbW.trans (hb1.mono hbW.size)
 clear oE
 cases R with
 | false =>
  have HV := HNO.out rfl
  go_wp2
  go_ret
  exact ⟨_, _, [], rfl, HV.symm, o1, D1⟩
 | true =>
  obtain ⟨HV, h4⟩ := HYES.out rfl
  have HVV : Hid (logBytesOf (LogA.v ⟨rs, s, a, c⟩) = framesB rs) := HV
  clear HV HNO HYES
  have px0 := (HX.out w1 hb1).cell 0 _ rfl
  go_wp2_with fail
  go_loopw [3, 14] (fun b i wr => ∃ (a' : Option Addr) (c' : Nat) (ys : List Int) (k : Nat), b = .slice a' ys.length c' ∧ i = .int .i64 k ∧ k ≤ rs.length ∧ Hid (ys = framesB (rs.take k)) ∧ OwnB wr w.heap.size a' c' ys ∧ Below w.heap.size w wr ∧ Box wr w.heap.size [.slice a rs.length c, .int .i64 s] 26 ∧ (∀ j, (Value.slice a' ys.length c').ownBlock = some j → w.heap.size < j))
   (fun _ i _ => rs.length - (intOf i).toNat)
  case atStart => exact ⟨some ⟨w.heap.size + 1, 0, none⟩, 0, [], 0, rfl, rfl, Nat.zero_le _, by simp [Hid, framesB], o1, D1, HX.out w1 hb1, fun j hj => by cases hj; exact Nat.lt_succ_self _⟩
  case round =>
   obtain ⟨a', c', ys, k, rfl, rfl, hk, hy, ho, hnx, bx, hrow⟩ := hrel
   have hyl : ys.length ≤ k * 100100 := by rw [hy.out]; exact framesB_len rs k
   clear o1 D1
   clear px0
   by_cases hlt : k < rs.length
   ·obtain ⟨b, off, rfl, hcell, hrd⟩ := HC.out k hlt
    have hbB := rangeR_lt hcell
    have HR : Hid (wr.rangeAt b (off + k * 15) (rs.getD k zeroR).cells) := rangeAt_below hcell hnx hbB
    have hrdr := hrd.below hnx
    have hsh := HS.out k hlt
    have HN : Hid (framesB (rs.take (k + 1)) = framesB (rs.take k) ++ frameOf (putRecOf (rs.getD k zeroR).v)) := framesB_next rs k hlt
    have hpl := putRec_len (rs.getD k zeroR).v
    have hfl := frame_len (rs.getD k zeroR).v
    clear hcell hrd HC HS
    generalize rs.getD k zeroR = z at *
    obtain ⟨W1, hW1, q1, hq1, hqs1⟩ := boxes1 wr [.int .i64 0, .int .i64 0, .int .i64 0, .int .i64 0, .int .i64 0, .bool false, .int .i64 0, .slice none 0 0, .slice none 0 0, .bool false, .int .i64 0, .slice none 0 0, .slice none 0 0, .int .i64 0, .slice none 0 0] 42
    obtain ⟨W2, hW2, hw2, hqs2, HT2, _, q2⟩ := rec_out z _ rfl q1
    have N2 : Below wr.heap.size wr W2 := hq1.trans (hw2.below (Nat.le_refl _) (by omega))
    have R2 : Hid (W2.rangeAt wr.heap.size 0 z.cells) := Box.range [] z.cells [] (by simpa using q2)
    have hOz := rec_one z
    have hnw0 := hnx.size
    have C := implPutRec_any z W2 (HG.out _ (hnx.trans (N2.mono hnw0))) (hrdr.below N2) hsh
    have bx2 := bx.below N2 bx.lt
    have ho2 : OwnB W2 w.heap.size a' c' ys := ⟨ho.1, ownsRow_block ho.2 (fun j hj => N2.block j (ho.2.lt j hj).2)⟩
    have hnx2 : Below w.heap.size w W2 := hnx.trans (N2.mono hnw0)
    clear hqs1 hqs2 q1 q2 hq1 hw2 hrdr hsh bx ho hnx N2
    go_wp2_with (first | (guard_target = wpList _ _ _ (Oper.mk (some 17) _ _ _ _ _ :: _) _ _; refine wpList_load_mid rfl 42 (.tmp 16) rfl b (off + k * 15) rfl z.cells _ HR.out Tryz.underlying42 rfl HI.out ?_) | (guard_target = wpList _ _ _ (Oper.mk none (Op.store _ (Operand.tmp 5) _) _ _ _ _ :: _) _ _; refine wpList_store_mid rfl 42 (.tmp 5) (.tmp 17) rfl wr.heap.size 0 z.cells.toArray rfl rfl (by rw [hW1.out]; exact HT2.out) HI.out hOz ?_) | (guard_target = wpList _ _ _ (Oper.mk (some 19) _ _ _ _ _ :: _) _ _; refine wpList_load_mid rfl 42 (.tmp 5) rfl wr.heap.size 0 rfl z.cells _ (by rw [hW1.out, hW2.out]; exact R2.out) Tryz.underlying42 rfl HI.out ?_) | fail)
    rw [hW1.out, hW2.out]
    clear hW1 hW2 HT2 R2 hOz
    have bx := bx2
    have ho := ho2
    have hnx := hnx2
    clear bx2 ho2 hnx2
    refine C.mono ?_
    clear C HR
    rintro e w2 ⟨a2, c2, y2, rfl, HY2, o2, hb2⟩
    have hs2 := hb2.size
    have hy2l : y2.length ≤ 100000 := by rw [HY2.out]; exact hpl
    have C := implFrame_any a2 c2 y2 w2 o2.reads o2.nocap (by omega)
    go_wp2_with fail
    refine C.mono ?_
    clear C
    rintro e w3 ⟨a3, c3, y3, rfl, hy3, o3, hb3⟩
    have HY3 : Hid (y3 = frameOf (putRecOf z.v)) := by rw [Hid, hy3, HY2.out]
    have hy3l : y3.length ≤ 100100 := by rw [HY3.out]; exact hfl
    clear hy3 HY2 o2
    have hb3' : Below W2.heap.size W2 w3 := hb2.trans (hb3.mono hs2)
    have hs3 := hb3'.size
    have hnw := hnx.size
    have bx3 := bx.below hb3' bx.lt
    have ho3 : OwnB w3 w.heap.size a' c' ys := ⟨ho.1, ownsRow_block ho.2 (fun j hj => hb3'.block j (ho.2.lt j hj).2)⟩
    have D3 : Below w.heap.size w w3 := hnx.trans (hb3'.mono hnw)
    have hA1 : ys.length + y3.length ≤ 70368744177664 := by omega
    clear hb2 hb3 hb3' bx ho hnx
    go_wp2_with (at_builtin; refine append_bytes rfl _ _ rfl w.heap.size a' c' ys rfl ho3 a3 c3 y3 rfl o3.reads o3.nocap hA1 (by omega) ?_)
    intro a4 c4 y4 w4 HY4 o4 g4
    have bx4 := bx3.block (g4.block w.heap.size bx3.lt (fun e => by have := hrow _ e.symm; omega))
    have D4 : Below w.heap.size w w4 := D3.grown g4 (by omega) (fun j hj => by have := hrow j hj; omega)
    have hrow4 : ∀ j, (Value.slice a4 y4.length c4).ownBlock = some j → w.heap.size < j := by
     intro j hj
     have h1 := (o4.2.lt j hj).1
     have h2 : j ≠ w.heap.size := by
      rintro rfl
      obtain ⟨cur, hc⟩ := ownsRow_at o4.2 hj
      have hbx : w4.heap[w.heap.size]? = some (.cells _ 26 (0, 0)) := bx4
      rw [hbx] at hc
      simp only [Option.some.injEq, Obj.cells.injEq] at hc
      exact absurd hc.2.1 (by decide)
     omega
    have HY5 : Hid (y4 = framesB (rs.take (k + 1))) := by rw [Hid, HN.out, HY4.out, hy.out, HY3.out]
    clear o3 HY4 g4 bx3 ho3 D3 HN HY3
    go_wp2_with fail
    go_roundw
    case rel => exact ⟨a4, c4, y4, k + 1, rfl, by go_num, by omega, HY5, o4, D4, bx4, hrow4⟩
    case measure => simp [intOf]; omega
   ·have HE : Hid (ys = logBytesOf (LogA.v ⟨rs, s, a, c⟩)) := by
     have e : k = rs.length := by omega
     rw [Hid, hy.out, HVV.out, e, List.take_length]
    clear HVV
    go_wp2
    go_ret
    exact ⟨a', c', ys, rfl, HE, ho, hnx⟩
theorem groups_take (m : Nat) (hm : m < 2 ^ 64) : ∀ c, c < (groups m).length → lead ((groups m).take c) = ((groups m).take c).length := by
 refine groups_ind (fun m => ∀ c, c < (groups m).length → lead ((groups m).take c) = ((groups m).take c).length) ?_ ?_ m hm
 ·intro m h c hc
  rw [groups_small m h] at hc ⊢
  have : c = 0 := by simp at hc; omega
  subst this
  rfl
 ·intro m h1 h2 h3 c hc
  rw [groups_big m h1 h2] at hc ⊢
  cases c with
  | zero => rfl
  | succ c =>
   simp only [List.take_succ_cons, lead, List.length_cons]
   rw [if_pos (by omega), h3 c (by simpa using hc)]
theorem frame_len4 (y : List Int) : (frameOf y).length = (putOf y.length).length + y.length + 4 := by
 have h4 : (four (crcOf y)).length = 4 := by simp [four, fourTo]
 simp only [frameOf, List.length_append, h4]
theorem frame_at (P T y : List Int) (h : y.length ≤ 1000000) : unfOf (P ++ (frameOf y ++ T)) P.length = (y, (P.length : Int) + (frameOf y).length, 0) := by
 have hc : clampI (y.length : Int) = y.length := by unfold clampI; rw [if_neg (by omega), if_neg (by omega)]
 have h4 : (four (crcOf y)).length = 4 := by simp [four, fourTo]
 have e : P ++ (frameOf y ++ T) = P ++ (putOf y.length ++ (y ++ (four (crcOf y) ++ T))) := by simp [frameOf]
 have hg : getAt (P ++ (frameOf y ++ T)) P.length = some ((y.length : Int), P.length + (putOf y.length).length) := by
  have := back_int P (y ++ (four (crcOf y) ++ T)) (y.length : Int)
  rw [hc] at this
  rw [e]
  exact this
 have hl := frame_len4 y
 have hd : (P ++ (frameOf y ++ T)).drop (P.length + (putOf y.length).length) = y ++ (four (crcOf y) ++ T) := by
  rw [e, ← List.append_assoc, ← List.length_append, List.drop_left]
 have hd2 : (P ++ (frameOf y ++ T)).drop (P.length + (putOf y.length).length + y.length) = four (crcOf y) ++ T := by
  rw [e, ← List.append_assoc, ← List.append_assoc, ← List.length_append, ← List.length_append, List.drop_left]
 rw [unf_good _ _ y.length _ hg (by simp only [List.length_append, hl]; omega) (by rw [hd, hd2, List.take_left, List.take_append_of_le_length (by omega), List.take_of_length_le (by omega)]), hd, List.take_left, hl]
 simp only [Prod.mk.injEq, true_and, and_true]
 omega
theorem scanWhy_ne (zs : List Int) (p : Int) : scanWhy zs p ≠ 0 := by
 unfold scanWhy
 split <;> decide
theorem frame_cut_at (P y : List Int) (c : Nat) (hc : c < (frameOf y).length) (h : y.length ≤ 1000000) : (unfOf (P ++ (frameOf y).take c) P.length).2.2 ≠ 0 := by
 have hcl : clampI (y.length : Int) = y.length := by unfold clampI; rw [if_neg (by omega), if_neg (by omega)]
 have hl := frame_len4 y
 by_cases hp : c < (putOf y.length).length
 ·have e : (frameOf y).take c = (putOf y.length).take c := by
   rw [frameOf, List.append_assoc, List.take_append_of_le_length (by omega)]
  have hg : getAt (P ++ (frameOf y).take c) P.length = none := by
   rw [e, getAt_nat, List.drop_left]
   show Option.map _ (getOf ((groups (zig y.length)).take c)) = _
   rw [getOf_none _ (.inl (groups_take (zig y.length) (zig_lt _) c hp))]
   rfl
  rw [unf_none _ _ hg]
  exact scanWhy_ne _ _
 ·have e : (frameOf y).take c = putOf y.length ++ (y ++ four (crcOf y)).take (c - (putOf y.length).length) := by
   rw [frameOf, List.append_assoc, List.take_append, List.take_of_length_le (by omega)]
  have hg : getAt (P ++ (frameOf y).take c) P.length = some ((y.length : Int), P.length + (putOf y.length).length) := by
   rw [e]
   have := back_int P ((y ++ four (crcOf y)).take (c - (putOf y.length).length)) (y.length : Int)
   rw [hcl] at this
   exact this
  rw [unf_end _ _ y.length _ hg (by simp only [List.length_append, List.length_take]; omega)]
  show (1 : Int) ≠ 0
  decide
theorem none_at (P : List Int) : (unfOf P P.length).2.2 ≠ 0 := by
 have := frame_cut_at P [] 0 (by rw [frame_len4]; omega) (by simp)
 simpa using this
def framesV (rs : List RecV) : List Int := rs.flatMap (fun r => frameOf (putRecOf r))
theorem framesV_app (a b : List RecV) : framesV (a ++ b) = framesV a ++ framesV b := by simp [framesV]
theorem framesV_one (r : RecV) : framesV [r] = frameOf (putRecOf r) := by simp [framesV]
theorem next_at (A : List RecV) (r : RecV) (T : List Int) (hok : okR r = true) (hn : r.lsn = (A.length : Int) + 1) :
  nextB (framesV A ++ (frameOf (putRecOf r) ++ T)) A.length (framesV A).length = true ∧ (pairR (unfOf (framesV A ++ (frameOf (putRecOf r) ++ T)) (framesV A).length).1).1 = r ∧ (unfOf (framesV A ++ (frameOf (putRecOf r) ++ T)) (framesV A).length).2.1 = ((framesV (A ++ [r])).length : Int) := by
 have h := frame_at (framesV A) T (putRecOf r) (by have := putRec_len r; omega)
 have hp := pair_back hok
 refine ⟨?_, ?_, ?_⟩
 ·unfold nextB
  rw [h]
  simp only [hp, hn]
  simp
 ·rw [h, hp]
 ·rw [h, framesV_app, framesV_one, List.length_append]
  simp only
  omega
theorem read_frames (T : List Int) : ∀ (B A : List RecV) (n : Nat), B.length ≤ n → (∀ k, k < B.length → okR (B.getD k noR) = true ∧ (B.getD k noR).lsn = (A.length : Int) + k + 1) →
  (unfOf (framesV (A ++ B) ++ T) (framesV (A ++ B)).length).2.2 ≠ 0 →
  readFrom (framesV (A ++ B) ++ T) n A (framesV A).length = (A ++ B, ((framesV (A ++ B)).length : Int)) := by
 intro B
 induction B with
 | nil =>
  intro A n _ _ hT
  rw [List.append_nil] at hT ⊢
  refine readFrom_no ?_
  unfold nextB
  have : ((unfOf (framesV A ++ T) (framesV A).length).2.2 == 0) = false := by simpa using hT
  rw [this]
  rfl
 | cons r B ih =>
  intro A n hn hB hT
  obtain ⟨m, rfl⟩ : ∃ m, n = m + 1 := ⟨n - 1, by simp at hn; omega⟩
  have h0 := hB 0 (by simp)
  simp only [List.getD_cons_zero] at h0
  have e : framesV (A ++ r :: B) ++ T = framesV A ++ (frameOf (putRecOf r) ++ (framesV B ++ T)) := by
   rw [framesV_app, show r :: B = [r] ++ B from rfl, framesV_app, framesV_one]
   simp
  obtain ⟨g1, g2, g3⟩ := next_at A r (framesV B ++ T) h0.1 (by have := h0.2; simpa using this)
  rw [← e] at g1 g2 g3
  rw [readFrom_yes g1, g2, g3]
  have e2 : A ++ r :: B = (A ++ [r]) ++ B := by simp
  rw [e2] at hT ⊢
  refine ih (A ++ [r]) m (by simp at hn; omega) (fun k hk => ?_) hT
  have h1 := hB (k + 1) (by simpa using hk)
  simp only [List.getD_cons_succ] at h1
  refine ⟨h1.1, ?_⟩
  rw [h1.2]
  simp only [List.length_append, List.length_singleton]
  omega
theorem frames_split (rs : List RecV) : ∀ cut, cut < (framesV rs).length → ∃ j c, j < rs.length ∧ c < (frameOf (putRecOf (rs.getD j noR))).length ∧ (framesV rs).take cut = framesV (rs.take j) ++ (frameOf (putRecOf (rs.getD j noR))).take c ∧ (framesV (rs.take j)).length ≤ cut := by
 induction rs with
 | nil => intro cut h; simp [framesV] at h
 | cons r B ih =>
  intro cut h
  have e : framesV (r :: B) = frameOf (putRecOf r) ++ framesV B := by rw [show r :: B = [r] ++ B from rfl, framesV_app, framesV_one]
  by_cases hc : cut < (frameOf (putRecOf r)).length
  ·refine ⟨0, cut, by simp, by simpa using hc, ?_, by simp [framesV]⟩
   rw [e, List.take_append_of_le_length (by omega)]
   simp [framesV]
  ·rw [e, List.length_append] at h
   obtain ⟨j, c, h1, h2, h3, h4⟩ := ih (cut - (frameOf (putRecOf r)).length) (by omega)
   refine ⟨j + 1, c, by simpa using h1, by simpa using h2, ?_, ?_⟩
   ·rw [e, List.take_append, List.take_of_length_le (by omega), h3]
    simp only [List.take_succ_cons, List.getD_cons_succ]
    rw [show r :: B.take j = [r] ++ B.take j from rfl, framesV_app, framesV_one]
    simp
   ·simp only [List.take_succ_cons]
    rw [show r :: B.take j = [r] ++ B.take j from rfl, framesV_app, framesV_one, List.length_append]
    omega
theorem ok_part {l : LogV} (h : okLog l = true) (j : Nat) : ∀ k, k < (l.recs.take j).length → okR ((l.recs.take j).getD k noR) = true ∧ ((l.recs.take j).getD k noR).lsn = (([] : List RecV).length : Int) + k + 1 := by
 intro k hk
 obtain ⟨_, _, _, h3⟩ := okLog_yes h
 have hk2 : k < j ∧ k < l.recs.length := by simp only [List.length_take] at hk; omega
 have e : (l.recs.take j).getD k noR = l.recs.getD k noR := by simp [List.getD, hk2.1]
 rw [e]
 obtain ⟨g1, g2⟩ := h3 k hk2.2
 refine ⟨g2, ?_⟩
 rw [g1]
 simp
theorem read_whole {l : LogV} (h : okLog l = true) : readLogOf (logBytesOf l) = (l.recs, ((logBytesOf l).length : Int)) := by
 have e : logBytesOf l = framesV l.recs := by rw [logBytesOf, if_pos h]; rfl
 have hp := ok_part h l.recs.length
 rw [List.take_length] at hp
 have := read_frames [] l.recs [] 4000 (okLog_yes h).1 hp (by rw [List.append_nil]; exact none_at _)
 rw [e, readLogOf]
 simpa [framesV] using this
theorem read_cut {l : LogV} (h : okLog l = true) (cut : Nat) (hc : cut < (logBytesOf l).length) : ∃ j, j < l.recs.length ∧ (readLogOf ((logBytesOf l).take cut)).1 = l.recs.take j ∧ (readLogOf ((logBytesOf l).take cut)).2 ≤ cut := by
 have e : logBytesOf l = framesV l.recs := by rw [logBytesOf, if_pos h]; rfl
 rw [e] at hc ⊢
 obtain ⟨j, c, h1, h2, h3, h4⟩ := frames_split l.recs cut hc
 refine ⟨j, h1, ?_⟩
 have hlen := (okLog_yes h).1
 have := read_frames ((frameOf (putRecOf (l.recs.getD j noR))).take c) (l.recs.take j) [] 4000 (by simp only [List.length_take]; omega) (ok_part h j) (by
  rw [List.nil_append]
  exact frame_cut_at _ _ c h2 (by have := putRec_len (l.recs.getD j noR); omega))
 rw [List.nil_append] at this
 rw [h3, readLogOf]
 have e0 : (((framesV []).length : Nat) : Int) = 0 := by simp [framesV]
 rw [e0] at this
 rw [this]
 exact ⟨rfl, by simp only; omega⟩
end Go.Proofs.YtickiokdcbeefaaGreatDoor
namespace Go.Proofs.YtickiokdcbeefaaGreatDoor
open Go.RowKit Go.Shelf
theorem stepIn_value {F : Fence} {n : Nat} {P : Program} {ops : Array Oper} {rest : List Oper} {o : Oper} {a : Act} {w w' : World} {Q : Exit → Act → World → Prop} {v : Value} (hgd : o.guard = none) (hF : ∀ f, F.fn f) (hs : o.semAt F.round a.eval = execOp a.eval o)
  (hrun : (execOp a.eval o).run P w = .ok (.value v) w') (h : wpListIn F n P ops Q rest (a.put o.dst v) w') : wpListIn F n P ops Q (o :: rest) a w :=
 wpListIn_plain hgd fun K hK => ⟨fun f _ => hF f, by rw [hs, hrun, Oper.uponIn_value]; exact hK _ _ h⟩
theorem stepIn_skip {F : Fence} {n : Nat} {P : Program} {ops : Array Oper} {rest : List Oper} {o : Oper} {a : Act} {w w' : World} {Q : Exit → Act → World → Prop} (hgd : o.guard = none) (hF : ∀ f, F.fn f) (hs : o.semAt F.round a.eval = execOp a.eval o)
  (hrun : (execOp a.eval o).run P w = .ok .skip w') (h : wpListIn F n P ops Q rest (a.put o.dst undef) w') : wpListIn F n P ops Q (o :: rest) a w :=
 wpListIn_plain hgd fun K hK => ⟨fun f _ => hF f, by rw [hs, hrun, Oper.uponIn_skip]; exact hK _ _ h⟩
theorem loadIn_mid {F : Fence} {n : Nat} {P : Program} {ops : Array Oper} {rest : List Oper} {op : Oper} {a : Act} {w : World} {Q : Exit → Act → World → Prop} (hgd : op.guard = none) (hF : ∀ f, F.fn f) (hs : op.semAt F.round a.eval = execOp a.eval op) (ty : TypeId) (x : Operand) (ho : op.op = .load ty x)
  (b o : Nat) (hx : a.eval x = .pointer (some ⟨b, o, none⟩)) (cs : List Value) (d : TypeDesc) (hc : w.rangeAt b o cs)
  (hu : P.underlying ty = some d) (hd : d.isRow = true) (hi : (P.info? ty).map (·.size) = some cs.length)
  (h : wpListIn F n P ops Q rest (a.put op.dst (.agg cs.toArray)) w) : wpListIn F n P ops Q (op :: rest) a w := by
 refine stepIn_value hgd hF hs (v := .agg cs.toArray) ?_ h
 unfold execOp
 simp only [ho, hx, Instr.loadAt, Instr.sureAddr, Sem.run_bind, Sem.run_pure, Result.andThen_ok, run_loadVar_mid w b o ty cs d hc hu hd hi]
theorem storeIn_mid {F : Fence} {n : Nat} {P : Program} {ops : Array Oper} {rest : List Oper} {op : Oper} {a : Act} {w : World} {Q : Exit → Act → World → Prop} (hgd : op.guard = none) (hF : ∀ f, F.fn f) (hs : op.semAt F.round a.eval = execOp a.eval op) (ty : TypeId) (x y : Operand) (ho : op.op = .store ty x y)
  (b o : Nat) (cs : Array Value) (hx : a.eval x = .pointer (some ⟨b, o, none⟩)) (hy : a.eval y = .agg cs) (ht : w.there b o cs.size)
  (hi : (P.info? ty).map (·.size) = some cs.size) (h1 : cs.all (·.oneCell') = true)
  (h : wpListIn F n P ops Q rest (a.put op.dst undef) (w.setCells b o cs.toList)) : wpListIn F n P ops Q (op :: rest) a w := by
 refine stepIn_skip hgd hF hs ?_ h
 unfold execOp
 simp only [ho, hx, hy, Sem.run_bind, Sem.run_pure, Result.andThen_ok, run_storeAt_mid w b o ty cs ht hi h1]
theorem rangeFunc_here {n : Nat} {P : Program} {g : Operand} {ps : Array Tmp} {assign body : Code} {Q : Exit → Act → World → Prop} {a : Act} {w : World} {gf : Nat} {lb : Array Value} (hg : a.eval g = .func (.func gf) #[] lb) (eg : ∀ args w, (callFunc gf args).run P w = .ok (.enter gf args) w)
  (h : ∀ (r : Loop) (W1 : World), r.state = .ready → r.pending = none → r.tmps = a.tmps → r.params = ps → r.assign = assign → r.body = body → W1.heap[w.heap.size + 1]? = some (.loop r) → W1.heap[w.heap.size]? = some (.deferred (some [])) → Below w.heap.size w W1 → W1.heap.size = w.heap.size + 2 →
   CallsIn Fence.wide (n - 1) P gf (#[.func (.yield (w.heap.size + 1)) #[] #[]] ++ lb) W1 (rangePost Fence.wide n P (w.heap.size + 1) Q { a with defers := [{ target := .collected w.heap.size, args := #[] }] ++ a.defers })) :
  (Code.rangeFunc g ps assign body).wpIn Fence.wide n P Q a w := by
 refine wpIn_rangeFunc ?_
 intro fn _
 obtain ⟨r, hr⟩ : ∃ r : Loop, ({ state := .ready, pending := none, fn := fn, tmps := a.tmps, params := ps, assign := assign, body := body, defers := w.heap.size } : Loop) = r := ⟨_, rfl⟩
 obtain ⟨W1, hW1⟩ : ∃ W1, (w.alloc (.deferred (some []))).alloc (.loop r) = W1 := ⟨_, rfl⟩
 have hL : W1.heap[w.heap.size + 1]? = some (.loop r) := by
  rw [← hW1]
  have := World.alloc_heap_new (w.alloc (.deferred (some []))) (.loop r)
  rwa [World.size_alloc] at this
 have hD : W1.heap[w.heap.size]? = some (.deferred (some [])) := by
  rw [← hW1]
  exact (Below.heap_alloc _ _ _ (by simp)).trans (World.alloc_heap_new w _)
 have hB : Below w.heap.size w W1 := by
  rw [← hW1]
  exact ((Below.refl _ w).alloc (Nat.le_refl _) _).alloc (by simp) _
 have hS : W1.heap.size = w.heap.size + 2 := by rw [← hW1]; simp
 have hc := h r W1 (by rw [← hr]) (by rw [← hr]) (by rw [← hr]) (by rw [← hr]) (by rw [← hr]) (by rw [← hr]) hL hD hB hS
 refine ⟨w.heap.size + 1, [{ target := .collected w.heap.size, args := #[] }], W1, { target := .fn (.func gf) lb, args := #[.func (.yield (w.heap.size + 1)) #[] #[]] }, W1, gf, #[.func (.yield (w.heap.size + 1)) #[] #[]] ++ lb, W1, ?_, ?_, ?_, ?_, ?_, ?_⟩
 ·rw [← hW1, ← hr]
  exact run_enterLoop_outer fn a.tmps ps assign body
 ·simp only [resolve, hg]
  simp [go_sem]
 ·intro f' _
  trivial
 ·simp [invoke, go_sem, eg]
 ·intro hh
  have hn : Fence.wide.depth.isSome = false := rfl
  rw [hn] at hh
  cases hh
 ·exact hc
theorem within_putObj (w : World) (l : Nat) (o : Obj) : Within l (l + 1) w (w.putObj l o) ∧ (w.putObj l o).heap.size = w.heap.size := by
 refine ⟨⟨rfl, rfl, rfl, by simp [World.putObj], fun k _ hn => World.putObj_heap_other (by omega)⟩, by simp [World.putObj]⟩
theorem yield_here {m : Nat} {P : Program} {l : Nat} {r : Loop} {args : Array Value} {W : World} {R : Ending → World → Prop} (hL : W.heap[l]? = some (.loop r)) (hs : args.size = r.params.size) (hrd : r.state = .ready)
  (h : r.assign.wpIn (Fence.wide.inRound l) m P (Exit.then (fun a1 w1 => w1.heap[l]? = some (.loop r) ∧ ∀ V, V.heap[l]? = some (.loop { r with state := .busy }) → Within l (l + 1) w1 V → V.heap.size = w1.heap.size → r.body.wpIn (Fence.wide.inRound l) m P (roundPost P l R) a1 V) (fun _ _ _ => False))
   { tmps := (r.params.zip args).foldl (fun t (p, v) => t.setIfInBounds p v) r.tmps, defers := [] } W) : YieldAt Fence.wide m P l args W R := by
 refine ⟨r.fn, _, r.assign, r.body, run_yield hL hs, roundIn_of_wpIn trivial (wpIn_mono h ?_)⟩
 intro e a1 w1 hp
 cases e with
 | normal => exact ⟨_, run_beginRound hp.1 hrd, hp.2 _ (World.putObj_heap_same (Array.getElem?_eq_some_iff.1 hp.1).1) (within_putObj w1 l _).1 (within_putObj w1 l _).2⟩
 | exit id => exact hp.elim
 | goto t => exact hp.elim
 | ret => exact hp.elim
 | panic ch => exact hp.elim
 | outgrown => exact hp.elim
theorem end_here {P : Program} {l : Nat} {r : Loop} {V : World} (jump : Option Code) (hL : V.heap[l]? = some (.loop r)) :
  ∃ X, (Instr.endRound l jump).run P V = .ok (.bool jump.isNone) X ∧ X.heap[l]? = some (.loop { r with state := if jump.isNone then .ready else .done, pending := jump }) ∧ Within l (l + 1) V X ∧ X.heap.size = V.heap.size :=
 ⟨_, run_endRound jump hL, World.putObj_heap_same (Array.getElem?_eq_some_iff.1 hL).1, (within_putObj V l _).1, (within_putObj V l _).2⟩
theorem end_break {P : Program} {l : Nat} {r : Loop} {V : World} (c : Code) (hL : V.heap[l]? = some (.loop { r with state := .busy })) :
  ∃ X, (Instr.endRound l (some c)).run P V = .ok (.bool false) X ∧ X.heap[l]? = some (.loop { r with state := .done, pending := some c }) ∧ Within l (l + 1) V X ∧ X.heap.size = V.heap.size :=
 end_here (r := { r with state := .busy }) (some c) hL
theorem end_go {P : Program} {l : Nat} {r : Loop} {V : World} (hst : r.state = .ready) (hpd : r.pending = none) (hL : V.heap[l]? = some (.loop { r with state := .busy })) :
  ∃ X, (Instr.endRound l none).run P V = .ok (.bool true) X ∧ X.heap[l]? = some (.loop r) ∧ Within l (l + 1) V X ∧ X.heap.size = V.heap.size := by
 obtain ⟨X, h1, h2, h3, h4⟩ := end_here (P := P) (r := { r with state := .busy }) none hL
 refine ⟨X, h1, ?_, h3, h4⟩
 rw [h2]
 cases r
 simp only at hst hpd
 subst hst hpd
 rfl
end Go.Proofs.YtickiokdcbeefaaGreatDoor
namespace Go.Proofs.YtickiokdcbeefaaGreatDoor
open Go.RowKit
def frmOf (zs : List Int) (p : Int) : RecV × Int × Bool := if (unfOf zs p).2.2 = 0 then ((pairR (unfOf zs p).1).1, (unfOf zs p).2.1, (pairR (unfOf zs p).1).2) else (noR, p, false)
theorem pairR_off {zs : List Int} (h : (pairR zs).2 = false) : (pairR zs).1 = noR := by
 unfold pairR at h ⊢
 cases hg : getR zs with
 | some x => rw [hg] at h; cases h
 | none => rfl
theorem frm_next (zs : List Int) (k : Nat) (p : Int) : nextB zs k p = ((frmOf zs p).1.lsn == (k : Int) + 1) := by
 unfold nextB frmOf
 by_cases h : (unfOf zs p).2.2 = 0
 ·rw [if_pos h, h]
  cases h2 : (pairR (unfOf zs p).1).2 with
  | true => simp
  | false =>
   rw [pairR_off h2]
   simp only [noR]
   have : ((0 : Int) == (k : Int) + 1) = false := by simp only [beq_eq_false_iff_ne]; omega
   simp [this]
 ·rw [if_neg h]
  have h0 : ((unfOf zs p).2.2 == 0) = false := by simpa using h
  have : ((0 : Int) == (k : Int) + 1) = false := by simp only [beq_eq_false_iff_ne]; omega
  simp [h0, noR, this]
theorem frm_go {zs : List Int} {k : Nat} {p : Int} (h : nextB zs k p = true) : (frmOf zs p).1 = (pairR (unfOf zs p).1).1 ∧ (frmOf zs p).2.1 = (unfOf zs p).2.1 ∧ (frmOf zs p).2.2 = true := by
 unfold nextB at h
 simp only [Bool.and_eq_true, beq_iff_eq] at h
 unfold frmOf
 rw [if_pos h.1]
 exact ⟨rfl, rfl, h.2.1⟩
theorem results_rec {P : Program} {fn : Func} {s s1 s2 : Nat} {ty : TypeId} {tmps : Array Value} {w : World} {v : Value} {ad : Addr} (hf : fn.results = #[.cell s ty, .tmp s1, .tmp s2]) (hl : (loadVar ty ad).run P w = .ok v w) (ht : tmps[s]?.getD undef = .pointer (some ad)) : (results fn tmps).run P w = .ok (.tuple #[v, tmps[s1]?.getD undef, tmps[s2]?.getD undef]) w := by
 unfold results
 rw [hf]
 simp [ht, asAddr, hl]
theorem readFramed_any (a : Option Addr) (c : Nat) (zs : List Int) (p : Int) (w : World) (hg : ErrT w) (hr : Reads w a zs) (hl : zs.length ≤ 1099511627776) (hcap : zs.length ≤ c) :
  Calls Tryz.prog 59 #[.slice a zs.length c, .int .i64 p] w fun e w' => ∃ t : RecA, e = .returned (.tuple #[.agg t.cells.toArray, .int .i64 (frmOf zs p).2.1, .bool (frmOf zs p).2.2]) ∧ Hid (t.v = (frmOf zs p).1) ∧ t.own w' w.heap.size w'.heap.size ∧ Below w.heap.size w w' := by
 obtain ⟨W, hW, b0, hbW, hsW⟩ := boxes1 w [.int .i64 0, .int .i64 0, .int .i64 0, .int .i64 0, .int .i64 0, .bool false, .int .i64 0, .slice none 0 0, .slice none 0 0, .bool false, .int .i64 0, .slice none 0 0, .slice none 0 0, .int .i64 0, .slice none 0 0] 42
 have hs0 := b0.lt
 clear hsW
 have HI : Hid ((Tryz.prog.info? 42).map (·.size) = some 15) := by rw [Hid]; kernel_rfl
 have C := implUnframe_any a c zs p W (hr.below hbW) (by omega) hcap
 have HBy : Hid (((unfOf zs p).1).length ≤ zs.length) := unf_len zs p
 have HNO : Hid (¬ (unfOf zs p).2.2 = 0 → frmOf zs p = (noR, p, false)) := fun h => by unfold frmOf; rw [if_neg h]
 have HYES : Hid ((unfOf zs p).2.2 = 0 → frmOf zs p = ((pairR (unfOf zs p).1).1, (unfOf zs p).2.1, (pairR (unfOf zs p).1).2)) := fun h => by unfold frmOf; rw [if_pos h]
 generalize frmOf zs p = FR at *
 go_enter Tryz.func59, Tryz.ntmps59
 go_wp2_with fail
 rw [hW.out]
 clear hW
 refine C.mono ?_
 clear C
 rintro e w1 ⟨a1, c1, ys, q, code, rfl, HUF, o1, hb1⟩
 have hs1 := hb1.size
 have HU2 : Hid (unfOf zs p = (ys, q, code)) := HUF.out
 rw [HU2.out] at HBy HNO HYES
 simp only at HBy HNO HYES
 have hyl := HBy.out
 have b01 := b0.below hb1 b0.lt
 have D1 : Below w.heap.size w w1 := hbW.trans (hb1.mono hbW.size)
 clear HUF HU2 b0
 by_cases h1 : code = 0
 case neg =>
  have h1b : (code != 0) = true := by simpa using h1
  have HV : Hid (FR = (noR, p, false)) := HNO.out h1
  obtain ⟨WF, hWF, hwF, hsF, HTF, HLF, bF⟩ := rec_out zeroR _ rfl b01
  have hoF : zeroR.own WF w.heap.size WF.heap.size := own_zeroR _ _ _ (Nat.le_refl _)
  have hbF : Below w.heap.size w WF := D1.trans (hwF.below (by omega) (by omega))
  have hOz := rec_one zeroR
  clear hwF hsF bF b01 HNO HYES
  go_wp2_with (first | (guard_target = wpList _ _ _ (Oper.mk none (Op.store _ (Operand.tmp 4) _) _ _ _ _ :: _) _ _; refine wpList_store_mid rfl 42 (.tmp 4) (.tmp 21) rfl w.heap.size 0 zeroR.cells.toArray rfl rfl HTF.out HI.out hOz ?_) | fail)
  have HW : Hid (w1.setCells w.heap.size 0 zeroR.cells.toArray.toList = WF) := hWF.out
  rw [HW.out]
  exact bodyPost_ret (v := .tuple #[.agg zeroR.cells.toArray, .int .i64 p, .bool false]) (results_rec Tryz.results59 HLF.out rfl) rfl ⟨zeroR, by rw [HV.out], by rw [Hid, HV.out]; rfl, hoF, hbF⟩
 case pos =>
  subst h1
  have HV : Hid (FR = ((pairR ys).1, q, (pairR ys).2)) := HYES.out rfl
  have C := implGetRec_any a1 c1 ys w1 (hg.keep D1) o1.reads (by omega) o1.cap
  unfold GotR at C
  generalize (pairR ys).2 = ok at *
  generalize (pairR ys).1 = rv at *
  clear HNO HYES
  go_wp2_with fail
  refine C.mono ?_
  clear C o1
  rintro e w2 ⟨t, rfl, hv, ot, hb2⟩
  have hs2 := hb2.size
  have b02 := b01.below hb2 b01.lt
  have D2 : Below w.heap.size w w2 := D1.trans (hb2.mono D1.size)
  obtain ⟨W3, hW3, z3, hb3, hs3⟩ := boxes1 w2 [.int .i64 0, .int .i64 0, .int .i64 0, .int .i64 0, .int .i64 0, .bool false, .int .i64 0, .slice none 0 0, .slice none 0 0, .bool false, .int .i64 0, .slice none 0 0, .slice none 0 0, .int .i64 0, .slice none 0 0] 42
  obtain ⟨W4, hW4, hw4, hs4, HT4, _, z4⟩ := rec_out t _ rfl z3
  have N4 : Below w2.heap.size w2 W4 := hb3.trans (hw4.below (Nat.le_refl _) (by omega))
  have b04 := b02.below N4 b02.lt
  have ot4 := ot.below N4
  have D4 : Below w.heap.size w W4 := D2.trans (N4.mono D2.size)
  have R4 : Hid (W4.rangeAt w2.heap.size 0 t.cells) := Box.range [] t.cells [] (by simpa using z4)
  obtain ⟨WF, hWF, hwF, hsF, HTF, HLF, bF⟩ := rec_out t _ rfl b04
  have hs4' := N4.size
  have hoF : t.own WF w.heap.size WF.heap.size := (ot4.within hwF (.inr (by omega))).widen (by omega) (by omega) (Nat.le_refl _)
  have hbF : Below w.heap.size w WF := D4.trans (hwF.below (by omega) (by omega))
  have hOt := rec_one t
  have HVT : Hid (t.v = rv) := hv.out
  clear hwF hsF bF z3 z4 hb3 hw4 hs3 hs4 hv ot ot4 b01 b02 b04 N4
  go_wp2_with (first | (guard_target = wpList _ _ _ (Oper.mk none (Op.store _ (Operand.tmp 10) _) _ _ _ _ :: _) _ _; refine wpList_store_mid rfl 42 (.tmp 10) (.tmp 26) rfl w2.heap.size 0 t.cells.toArray rfl rfl (by rw [hW3.out]; exact HT4.out) HI.out hOt ?_) | (guard_target = wpList _ _ _ (Oper.mk (some 28) _ _ _ _ _ :: _) _ _; refine wpList_load_mid rfl 42 (.tmp 10) rfl w2.heap.size 0 rfl t.cells _ (by rw [hW3.out, hW4.out]; exact R4.out) Tryz.underlying42 rfl HI.out ?_) | (guard_target = wpList _ _ _ (Oper.mk none (Op.store _ (Operand.tmp 4) _) _ _ _ _ :: _) _ _; refine wpList_store_mid rfl 42 (.tmp 4) (.tmp 28) rfl w.heap.size 0 t.cells.toArray rfl rfl (by rw [hW3.out, hW4.out]; exact HTF.out) HI.out hOt ?_) | fail)
  rw [hW3.out, hW4.out, hWF.out]
  exact bodyPost_ret (v := .tuple #[.agg t.cells.toArray, .int .i64 q, .bool ok]) (results_rec Tryz.results59 HLF.out rfl) rfl ⟨t, by rw [HV.out], by rw [Hid, HV.out]; exact HVT.out, hoF, hbF⟩
end Go.Proofs.YtickiokdcbeefaaGreatDoor
namespace Go.Proofs.YtickiokdcbeefaaGreatDoor
open Go.RowKit Go.Shelf
theorem build_recIn {F : Fence} {n : Nat} {w : World} {ops : Array Oper} {rest : List Oper} {dst : Option Nat} {ty : TypeId} {pos : String} {aft : Array Edge} {act : Act} {Q : Exit → Act → World → Prop} (hF : ∀ f, F.fn f) (x : Operand)
  (hs : Oper.semAt F.round act.eval { dst := dst, op := .buildSlice 24 1 #[(0, x)], type := ty, pos := pos, after := aft, guard := none } = execOp act.eval { dst := dst, op := .buildSlice 24 1 #[(0, x)], type := ty, pos := pos, after := aft, guard := none })
  (q : RecA) (hx : act.eval x = .agg q.cells.toArray)
  (h : wpListIn F n Tryz.prog ops Q rest (act.put dst (.slice (some ⟨w.heap.size, 0, none⟩) 1 1)) (w.alloc (.cells q.cells.toArray 42))) :
  wpListIn F n Tryz.prog ops Q ({ dst := dst, op := .buildSlice 24 1 #[(0, x)], type := ty, pos := pos, after := aft, guard := none } :: rest) act w := by
 refine stepIn_value rfl hF hs (v := .slice (some ⟨w.heap.size, 0, none⟩) 1 1) ?_ h
 unfold execOp
 simp only [List.map_toArray, List.map_cons, List.map_nil, hx]
 go_simp
 simp only [cellsR_len, lit_rec, not_true_eq_false, Nat.lt_irrefl, or_self, if_false]
 go_simp
theorem append_recIn {F : Fence} {n : Nat} {w : World} {ops : Array Oper} {rest : List Oper} {o : Oper} {act : Act} {Q : Exit → Act → World → Prop} (hgd : o.guard = none) (hF : ∀ f, F.fn f) (hsm : o.semAt F.round act.eval = execOp act.eval o) (s x : Operand)
  (ho : o.op = .call { callee := .builtin .append, args := #[s, x], argTypes := #[24, 24] })
  (lo hi : Nat) (a : Option Addr) (c : Nat) (rs : List RecA) (hs : act.eval s = .slice a rs.length c) (hown : OwnRs w lo hi a c rs)
  (b off : Nat) (sc : Nat) (q : RecA) (hx : act.eval x = .slice (some ⟨b, off, none⟩) 1 sc) (hr : w.rangeAt b off q.cells) (l u : Nat) (hq : q.own w l u) (hl : hi ≤ l) (hu : u ≤ w.heap.size)
  (hb : rs.length + 1 ≤ 68719476736) (hlo : lo ≤ hi)
  (h : ∀ a' c' w', OwnRs w' lo w'.heap.size a' c' (rs ++ [q]) → w.grownBy w' (Value.slice a rs.length c).ownBlock → wpListIn F n Tryz.prog ops Q rest (act.put o.dst (.slice a' (rs ++ [q]).length c')) w') :
  wpListIn F n Tryz.prog ops Q (o :: rest) act w := by
 obtain ⟨a', c', w', hrun, h2, h3⟩ := run_append_rec (w := w) o.type lo hi a c rs hown b off sc q hr l u hq hl hu hb hlo
 refine stepIn_value hgd hF hsm ?_ (h a' c' w' h2 h3)
 unfold execOp
 simp only [ho, resolve, invoke, builtin, Sem.run_bind, Sem.run_pure, Result.andThen_ok, List.map_toArray, List.map_cons, List.map_nil, hs, hx, hrun]
end Go.Proofs.YtickiokdcbeefaaGreatDoor
namespace Go.Proofs.YtickiokdcbeefaaGreatDoor
open Go.RowKit Go.Shelf
attribute [local go_sem] Oper.semAt_some
theorem framed_in (m L B3 : Nat) (a : Option Addr) (c : Nat) (zs : List Int) (hl : zs.length ≤ 1099511627776) (hcap : zs.length ≤ c) (M : World → Nat) (J : List RecA → Int → Nat → World → Prop) (Jx : World → Prop)
  (hJ : ∀ ts p h W, J ts p h W → Box W B3 [.slice a zs.length c] 22 ∧ ErrT W ∧ Reads W a zs ∧ M W = 4000 - ts.length ∧ h ≤ W.heap.size)
  (hJb : ∀ ts p h W W', J ts p h W → Below W.heap.size W W' → J ts p h W')
  (hY : ∀ ts p h (t : RecA) W l u, J ts p h W → t.v = (frmOf zs p).1 → t.own W l u → h ≤ l → u ≤ W.heap.size → YieldAt Fence.wide m Tryz.prog L #[.agg t.cells.toArray, .int .i64 (frmOf zs p).2.1] W fun e W' =>
   (e = .returned (.bool true) ∧ (frmOf zs p).2.2 = true ∧ ts.length < 4000 ∧ J (ts ++ [t]) (frmOf zs p).2.1 W'.heap.size W') ∨ (e = .returned (.bool false) ∧ Jx W'))
  (W : World) (h0 : J [] 0 W.heap.size W) :
  CallsIn Fence.wide (m + 1) Tryz.prog 58 #[.func (.yield L) #[] #[], .pointer (some ⟨B3, 0, none⟩)] W fun e W' => (∃ v, e = .returned v) ∧ Jx W' := by
 have HI : Hid ((Tryz.prog.info? 42).map (·.size) = some 15) := by rw [Hid]; kernel_rfl
 refine callsIn_of_wp Tryz.func58 rfl trivial ?_ rfl
 simp only [Tryz.ntmps58, List.size_toArray, List.length_cons, List.length_nil, Nat.reduceAdd, Nat.reduceSub, Array.replicate_succ, Array.replicate_zero, List.push_toArray, List.append_toArray, List.nil_append, List.cons_append]
 gi_wp2
 gi_loopw [3, 4] (fun v g wr => ∃ (ts : List RecA) (p : Int) (h : Nat), v = .int .i64 p ∧ g = .bool true ∧ J ts p h wr) (fun _ _ wr => M wr)
 case atStart => exact ⟨[], 0, _, rfl, rfl, h0⟩
 case round =>
  obtain ⟨ts, p, h, rfl, rfl, hj⟩ := hrel
  obtain ⟨bx, hg, hrd, hM, hh⟩ := hJ ts p h wr hj
  obtain ⟨W1, hW1, z1, hb1, hs1⟩ := boxes1 wr [.int .i64 0, .int .i64 0, .int .i64 0, .int .i64 0, .int .i64 0, .bool false, .int .i64 0, .slice none 0 0, .slice none 0 0, .bool false, .int .i64 0, .slice none 0 0, .slice none 0 0, .int .i64 0, .slice none 0 0] 42
  have hlt1 := z1.lt
  have hs1' := hb1.size
  clear hs1
  have bx1 := bx.below hb1 bx.lt
  have C := readFramed_any a c zs p W1 (hg.keep hb1) (hrd.below hb1) hl hcap
  have x0 := bx1.cell 0 _ rfl
  gi_upto_region 3 with fail
  rw [hW1.out]
  clear hW1
  gi_wp2_with fail
  refine ⟨trivial, ?_⟩
  gi_at_call 59
  refine (callsIn_wide.2 C).mono ?_
  clear C x0
  rintro e w2 ⟨t, rfl, hv, ot, hb2⟩
  have hs2 := hb2.size
  have z2 := z1.below hb2 z1.lt
  have bx2 := bx1.below hb2 bx1.lt
  obtain ⟨W3, hW3, hw3, hs3, HT3, _, z3⟩ := rec_out t _ rfl z2
  have hs3a := Nat.le_of_eq hs3
  have hs3b := Nat.le_of_eq hs3.symm
  clear hs3
  have R3 : Hid (W3.rangeAt wr.heap.size 0 t.cells) := Box.range [] t.cells [] (by simpa using z3)
  have ot3 : t.own W3 W1.heap.size w2.heap.size := ot.within hw3 (.inr (by omega))
  have B3' : Below wr.heap.size wr W3 := (hb1.trans (hb2.mono hs1')).trans (hw3.below (Nat.le_refl _) (by omega))
  have hj3 := hJb ts p h wr W3 hj B3'
  have hOt := rec_one t
  obtain ⟨fn, tmps, assign, body, hy, hR⟩ := hY ts p h t W3 W1.heap.size w2.heap.size hj3 hv.out ot3 (by omega) (by omega)
  have HN : Hid (∀ W' : World, J (ts ++ [t]) (frmOf zs p).2.1 W'.heap.size W' → M W' = 4000 - (ts.length + 1)) := fun W' hh => by have := (hJ _ _ _ _ hh).2.2.2.1; simpa using this
  clear hj hj3 bx bx1 bx2 z1 z2 z3 hb1 hb2 hw3 ot ot3 B3' hv hg hrd
  generalize (frmOf zs p).2.1 = q at *
  generalize (frmOf zs p).2.2 = ok at *
  gi_upto_region 4 with (first | (guard_target = wpListIn _ _ _ _ _ (Oper.mk none (Op.store _ (Operand.tmp 5) _) _ _ _ _ :: _) _ _; refine storeIn_mid rfl (fun _ => trivial) rfl 42 (.tmp 5) (.tmp 11) rfl wr.heap.size 0 t.cells.toArray rfl rfl HT3.out HI.out hOt ?_) | fail)
  rw [hW3.out]
  clear hW3 HT3 hOt
  gi_wp2_with (first | (guard_target = wpListIn _ _ _ _ _ (Oper.mk (some 15) _ _ _ _ _ :: _) _ _; refine loadIn_mid rfl (fun _ => trivial) rfl 42 (.tmp 5) rfl wr.heap.size 0 rfl t.cells _ R3.out Tryz.underlying42 rfl HI.out ?_) | fail)
  refine hR.mono ?_
  rintro e W4 (⟨rfl, rfl, hlt, hj4⟩ | ⟨rfl, hx4⟩)
  ·have HMM : Hid (M W4 = 4000 - (ts.length + 1)) := HN.out W4 hj4
   have HMW : Hid (M wr = 4000 - ts.length) := hM
   clear hM
   gi_wp2
   go_roundw
   case rel => exact ⟨ts ++ [t], q, _, rfl, rfl, hj4⟩
   case measure => rw [HMM.out, HMW.out]; omega
  ·gi_wp2
   exact bodyPost_ret (results_none rfl _ _ _) rfl ⟨⟨_, rfl⟩, hx4⟩
end Go.Proofs.YtickiokdcbeefaaGreatDoor