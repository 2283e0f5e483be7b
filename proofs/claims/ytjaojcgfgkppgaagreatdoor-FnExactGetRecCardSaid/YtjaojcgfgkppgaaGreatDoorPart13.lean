/- Several texts in one, in their order. -/
import Derived.Test.YtjaojcgfgkppgaaGreatDoorPart7
import Derived.Test.YtjaojcgfgkppgaaGreatDoorPart12
import Derived.Deep.QuietTactic
import Derived.BigQuiet
import Derived.Test.YtjaojcgfgkppgaaGreatDoorPart5
import Derived.Test.YtjaojcgfgkppgaaGreatDoorPart10
import Derived.Test.YtjaojcgfgkppgaaGreatDoorPart1
import Derived.Test.YtjaojcgfgkppgaaGreatDoorPart8
import Derived.Deep.RegionHeld3
import Derived.Test.YtjaojcgfgkppgaaGreatDoorPart6
import Derived.Lib.ConvBytes
import Derived.ProofKit
import Derived.OpenShut
import Derived.ChangeOld
import Derived.Test.YtjaojcgfgkppgaaGreatDoorPart3
import Derived.ChangeArms
/- The walk of impl.readLive. -/
namespace Go.Proofs.YtjaojcgfgkppgaaGreatDoor
open Go.RowKit

def LiveAns (x : Option (LiveV × Nat)) (e : Ending) : Prop := match x with
  | some (t, q) => e = .returned (.tuple #[.agg t.cells.toArray, .int .i64 (q : Nat), .bool true])
  | none => e = .returned (.tuple #[.agg zeroL.cells.toArray, .int .i64 0, .bool false])
theorem liveAns_none {x : Option (LiveV × Nat)} (h : x = none) : LiveAns x (.returned (.tuple #[.agg #[.int .i64 0, .int .i64 0, .bool false], .int .i64 0, .bool false])) := by subst h; rfl
theorem liveAns_some {x : Option (LiveV × Nat)} {t : LiveV} {q : Nat} (h : x = some (t, q)) : LiveAns x (.returned (.tuple #[.agg #[.int .i64 t.tx, .int .i64 t.last, .bool t.aborts], .int .i64 (q : Nat), .bool true])) := by subst h; rfl
theorem three_set {w : World} {C D : Nat} {tC tD : TypeId} {u v f : Int} {b : Bool} (hC : Box w C [.int .i64 u, .int .i64 v, .bool b] tC) (hD : Box w D [.int .i64 f] tD) (hne : ¬ (C = D)) (l : List Int) (hl : l.length ≤ 3) :
    ∃ x y z : Int, Box (setAll w ([(C, 0), (C, 1), (D, 0)].take l.length) l) C [.int .i64 x, .int .i64 y, .bool b] tC ∧ Box (setAll w ([(C, 0), (C, 1), (D, 0)].take l.length) l) D [.int .i64 z] tD := by
  have hne' : ¬ (D = C) := fun e => hne e.symm
  match l, hl with
  | [], _ => exact ⟨u, v, f, hC, hD⟩
  | [a], _ => exact ⟨a, v, f, hC.set 0 (.int .i64 a), hD.other hne'⟩
  | [a, c], _ => exact ⟨a, c, f, (hC.set 0 (.int .i64 a)).set 1 (.int .i64 c), (hD.other hne').other hne'⟩
  | [a, c, g], _ => exact ⟨a, c, g, ((hC.set 0 (.int .i64 a)).set 1 (.int .i64 c)).other hne, ((hD.other hne').other hne').set 0 (.int .i64 g)⟩
theorem three_all {w : World} {C D : Nat} {tC tD : TypeId} {u v f : Int} {b : Bool} (hC : Box w C [.int .i64 u, .int .i64 v, .bool b] tC) (hD : Box w D [.int .i64 f] tD) (hne : ¬ (C = D)) (x y z : Int) :
    Box (setAll w [(C, 0), (C, 1), (D, 0)] [x, y, z]) C [.int .i64 x, .int .i64 y, .bool b] tC ∧ Box (setAll w [(C, 0), (C, 1), (D, 0)] [x, y, z]) D [.int .i64 z] tD := by
  have hne' : ¬ (D = C) := fun e => hne e.symm
  exact ⟨((hC.set 0 (.int .i64 x)).set 1 (.int .i64 y)).other hne, ((hD.other hne').other hne').set 0 (.int .i64 z)⟩
theorem liveAt_no {zs : List Int} {p : Nat} (h : numsAt zs 3 p = none) : liveAt zs p = none := by unfold liveAt; rw [h]
theorem liveAt_of {zs : List Int} {p q : Nat} {a b f : Int} (h : numsAt zs 3 p = some ([a, b, f], q)) : liveAt zs p = if f = 0 then some (⟨a, b, false⟩, q) else if f = 1 then some (⟨a, b, true⟩, q) else none := by unfold liveAt; rw [h]

set_option maxHeartbeats 4000000 in
set_option maxRecDepth 100000 in
theorem readLive_any (a : Option Addr) (c : Nat) (zs : List Int) (p : Nat) (w : World) (hr : Reads w a zs) (hl : zs.length ≤ 70368744177664) (hcap : zs.length ≤ c) :
    Calls Tryz.prog 83 #[.slice a zs.length c, .int .i64 (p : Int)] w fun e w' => LiveAns (liveAt zs p) e ∧ Below w.heap.size w w' := by
  obtain ⟨W, hW, bR, bC, bD, hbW, hsW⟩ := boxes3 w [.int .i64 0, .int .i64 0, .bool false] [.int .i64 0, .int .i64 0, .bool false] [.int .i64 0] 66 66 3
  obtain ⟨W2, hW2, bP, hbW2, hsW2⟩ := boxes1 W [.pointer (some ⟨w.heap.size + 1, 0, none⟩), .pointer (some ⟨w.heap.size + 1, 1, none⟩), .pointer (some ⟨w.heap.size + 1 + 1, 0, none⟩)] 101
  have bR2 := bR.below hbW2 bR.lt
  have bC2 := bC.below hbW2 bC.lt
  have bD2 := bD.below hbW2 bD.lt
  have hltD := bD.lt
  have hltP := bP.lt
  have B2 : Below w.heap.size w W2 := hbW.trans (hbW2.mono hbW.size)
  have HNO : Hid (numsAt zs 3 p = none → liveAt zs p = none) := fun h => liveAt_no h
  have HSO : Hid (∀ x y f q, numsAt zs 3 p = some ([x, y, f], q) → liveAt zs p = if f = 0 then some (⟨x, y, false⟩, q) else if f = 1 then some (⟨x, y, true⟩, q) else none) := fun x y f q h => liveAt_of h
  have hrl : ∀ u, Within (w.heap.size + 1) (w.heap.size + 3) W2 u → Reads u a zs := fun u hu => hr.below (B2.trans (hu.below (by omega) B2.size))
  have hP3 : W.heap.size = w.heap.size + 1 + 1 + 1 := by omega
  rw [hP3] at bP hltP
  have CI := readInts_any a c zs p (w.heap.size + 1 + 1 + 1) 3 (w.heap.size + 1) (w.heap.size + 3) [(w.heap.size + 1, 0), (w.heap.size + 1, 1), (w.heap.size + 1 + 1, 0)] W2 hrl hl hcap (by simp) 101 bP (by omega) (by
    intro x hx
    simp only [List.mem_cons, List.not_mem_nil, or_false] at hx
    rcases hx with rfl | rfl | rfl
    · exact ⟨⟨by omega, by omega⟩, by rw [bC2.cell 0 _ rfl]; rfl, bC2.frozen 0⟩
    · exact ⟨⟨by omega, by omega⟩, by rw [bC2.cell 1 _ rfl]; rfl, bC2.frozen 1⟩
    · exact ⟨⟨by omega, by omega⟩, by rw [bD2.cell 0 _ rfl]; rfl, bD2.frozen 0⟩)
  have HT : Hid (∀ l : List Int, l.length ≤ 3 → _) := fun l h => three_set bC2 bD2 (by omega) l h
  have HT3 : Hid (∀ x y z : Int, _) := fun x y z => three_all bC2 bD2 (by omega) x y z
  simp only [List.length_cons, List.length_nil, Nat.zero_add, Nat.reduceAdd] at CI
  generalize liveAt zs p = X at *
  clear hP3 hsW hsW2 bC bD bC2 bD2 bR bP
  go_enter Tryz.func83, Tryz.ntmps83
  go_wp2_with fail
  rw [hW.out, hW2.out]
  clear hW hW2
  refine CI.mono ?_
  clear CI
  rintro e w3 ⟨hans, hw3⟩
  have bR3 := bR2.within hw3 (by omega)
  have B3 : Below w.heap.size w w3 := B2.trans (hw3.below (by omega) (by omega))
  have s3 := hw3.size
  cases hn : numsAt zs 3 p with
  | none =>
    have HX : Hid (X = none) := HNO.out hn
    rw [hn] at hans
    clear HT3
    obtain ⟨rfl, l, hll, hwe⟩ := hans
    obtain ⟨x, y, z, bC3, bD3⟩ := HT.out l hll
    have hwe' : w3 = setAll W2 ([(w.heap.size + 1, 0), (w.heap.size + 1, 1), (w.heap.size + 1 + 1, 0)].take l.length) l := hwe
    rw [← hwe'] at bC3 bD3
    clear hwe hwe' HNO HSO HT hn hw3
    have d0 := bD3.cell 0 _ rfl
    have c2 := bC3.cell 2 _ rfl
    have f2 := bC3.frozen 2
    obtain ⟨W4, hW4, bC4, hw4, hs4⟩ := box_set bC3 2 (.bool (z == 1))
    have d4 := (bD3.within hw4 (by omega)).cell 0 _ rfl
    simp only [List.set] at bC4
    have c24 := bC4.cell 2 _ rfl
    have bR4 := bR3.within hw4 (by omega)
    have B4 : Below w.heap.size w W4 := B3.trans (hw4.below (by omega) (by omega))
    clear bC3 bD3 bC4 bR3 hw4 bR2
    go_wp2_with fail
    rw [hW4.out]
    clear d0 c2 f2 hW4
    go_quiet (fail)
    have bRq : Box (W4.drewN nq) w.heap.size [.int .i64 0, .int .i64 0, .bool false] 66 := bR4.drewN nq
    have Bq : Below w.heap.size w (W4.drewN nq) := below_drewN B4 nq
    obtain ⟨r0, r1, r2, q0, q1, q2⟩ := bRq.three
    generalize W4.drewN nq = W5 at *
    obtain ⟨WF, hWF, bF, hwF, hsF⟩ := box3_fill bRq (.int .i64 0) (.int .i64 0) (.bool false)
    have HB : Hid (Below w.heap.size w WF) := Bq.trans (hwF.below (Nat.le_refl _) Bq.size)
    obtain ⟨g0, g1, g2, _⟩ := bF.three
    clear hwF
    go_wp2_with fail
    rw [hWF.out]
    exact bodyPost_ret (v := .tuple #[.agg #[.int .i64 0, .int .i64 0, .bool false], .int .i64 0, .bool false]) (by simp [results, Tryz.results83, go_sem, g0, g1, g2]) rfl ⟨liveAns_none HX.out, HB.out⟩
  | some g =>
    obtain ⟨l, q⟩ := g
    rw [hn] at hans
    obtain ⟨rfl, hwe, hll⟩ := hans
    have hll' : l.length = 3 := hll
    match l, hll' with
    | [x, y, f], _ =>
    have HX : Hid (X = _) := HSO.out x y f q hn
    obtain ⟨bC3, bD3⟩ := HT3.out x y f
    have hwe' : w3 = setAll W2 [(w.heap.size + 1, 0), (w.heap.size + 1, 1), (w.heap.size + 1 + 1, 0)] [x, y, f] := hwe
    rw [← hwe'] at bC3 bD3
    clear hwe hwe' HNO HSO HT HT3 hn hw3 hll
    by_cases h0 : f = 0
    case pos =>
      subst h0
      replace HX : Hid (X = some (⟨x, y, false⟩, q)) := by rw [Hid, HX.out]; simp
      have d0 := bD3.cell 0 _ rfl
      have c2 := bC3.cell 2 _ rfl
      have f2 := bC3.frozen 2
      obtain ⟨W4, hW4, bC4, hw4, hs4⟩ := box_set bC3 2 (.bool false)
      have d4 := (bD3.within hw4 (by omega)).cell 0 _ rfl
      simp only [List.set] at bC4
      obtain ⟨c04, c14, c24, _⟩ := bC4.three
      have bR4 := bR3.within hw4 (by omega)
      have B4 : Below w.heap.size w W4 := B3.trans (hw4.below (by omega) (by omega))
      have HBC : Hid (Box W4 (w.heap.size + 1) _ _) := bC4
      clear bC3 bD3 bC4 bR3 hw4 bR2
      go_wp2_with fail
      rw [hW4.out]
      clear d0 c2 f2 hW4
      go_quiet ((go_at_call 112; exact Calls.quiet_of_same (flagInt_any _ _)))
      have bRq : Box (W4.drewN nq) w.heap.size [.int .i64 0, .int .i64 0, .bool false] 66 := bR4.drewN nq
      have bCq := HBC.out.drewN nq
      have Bq : Below w.heap.size w (W4.drewN nq) := below_drewN B4 nq
      clear HBC d4 c04 c14 c24 bR4 B4
      obtain ⟨r0, r1, r2, q0, q1, q2⟩ := bRq.three
      obtain ⟨k0, k1, k2, _⟩ := bCq.three
      generalize W4.drewN nq = W5 at *
      obtain ⟨WF, hWF, bF, hwF, hsF⟩ := box3_fill bRq (.int .i64 x) (.int .i64 y) (.bool false)
      have HB : Hid (Below w.heap.size w WF) := Bq.trans (hwF.below (Nat.le_refl _) Bq.size)
      obtain ⟨g0, g1, g2, _⟩ := bF.three
      clear hwF bCq
      go_wp2_with fail
      rw [hWF.out]
      exact bodyPost_ret (v := .tuple #[.agg #[.int .i64 x, .int .i64 y, .bool false], .int .i64 (q : Nat), .bool true]) (by simp [results, Tryz.results83, go_sem, g0, g1, g2]) rfl ⟨liveAns_some (t := ⟨x, y, false⟩) HX.out, HB.out⟩
    case neg =>
    by_cases h1 : f = 1
    case pos =>
      subst h1
      replace HX : Hid (X = some (⟨x, y, true⟩, q)) := by rw [Hid, HX.out]; simp
      have d0 := bD3.cell 0 _ rfl
      have c2 := bC3.cell 2 _ rfl
      have f2 := bC3.frozen 2
      obtain ⟨W4, hW4, bC4, hw4, hs4⟩ := box_set bC3 2 (.bool true)
      have d4 := (bD3.within hw4 (by omega)).cell 0 _ rfl
      simp only [List.set] at bC4
      obtain ⟨c04, c14, c24, _⟩ := bC4.three
      have bR4 := bR3.within hw4 (by omega)
      have B4 : Below w.heap.size w W4 := B3.trans (hw4.below (by omega) (by omega))
      have HBC : Hid (Box W4 (w.heap.size + 1) _ _) := bC4
      clear bC3 bD3 bC4 bR3 hw4 bR2
      go_wp2_with fail
      rw [hW4.out]
      clear d0 c2 f2 hW4
      go_quiet ((go_at_call 112; exact Calls.quiet_of_same (flagInt_any _ _)))
      have bRq : Box (W4.drewN nq) w.heap.size [.int .i64 0, .int .i64 0, .bool false] 66 := bR4.drewN nq
      have bCq := HBC.out.drewN nq
      have Bq : Below w.heap.size w (W4.drewN nq) := below_drewN B4 nq
      clear HBC d4 c04 c14 c24 bR4 B4
      obtain ⟨r0, r1, r2, q0, q1, q2⟩ := bRq.three
      obtain ⟨k0, k1, k2, _⟩ := bCq.three
      generalize W4.drewN nq = W5 at *
      obtain ⟨WF, hWF, bF, hwF, hsF⟩ := box3_fill bRq (.int .i64 x) (.int .i64 y) (.bool true)
      have HB : Hid (Below w.heap.size w WF) := Bq.trans (hwF.below (Nat.le_refl _) Bq.size)
      obtain ⟨g0, g1, g2, _⟩ := bF.three
      clear hwF bCq
      go_wp2_with fail
      rw [hWF.out]
      exact bodyPost_ret (v := .tuple #[.agg #[.int .i64 x, .int .i64 y, .bool true], .int .i64 (q : Nat), .bool true]) (by simp [results, Tryz.results83, go_sem, g0, g1, g2]) rfl ⟨liveAns_some (t := ⟨x, y, true⟩) HX.out, HB.out⟩
    case neg =>
      replace HX : Hid (X = none) := by rw [Hid, HX.out]; simp [h0, h1]
      have e1 : (f == 1) = false := by simpa using h1
      have e0 : (f == 0) = false := by simpa using h0
      have d0 := bD3.cell 0 _ rfl
      have c2 := bC3.cell 2 _ rfl
      have f2 := bC3.frozen 2
      obtain ⟨W4, hW4, bC4, hw4, hs4⟩ := box_set bC3 2 (.bool false)
      have d4 := (bD3.within hw4 (by omega)).cell 0 _ rfl
      simp only [List.set] at bC4
      obtain ⟨c04, c14, c24, _⟩ := bC4.three
      have bR4 := bR3.within hw4 (by omega)
      have B4 : Below w.heap.size w W4 := B3.trans (hw4.below (by omega) (by omega))
      have HBC : Hid (Box W4 (w.heap.size + 1) _ _) := bC4
      clear bC3 bD3 bC4 bR3 hw4 bR2
      go_wp2_with fail
      rw [hW4.out]
      clear d0 c2 f2 hW4
      go_quiet ((go_at_call 112; exact Calls.quiet_of_same (flagInt_any _ _)))
      have bRq : Box (W4.drewN nq) w.heap.size [.int .i64 0, .int .i64 0, .bool false] 66 := bR4.drewN nq
      have bCq := HBC.out.drewN nq
      have Bq : Below w.heap.size w (W4.drewN nq) := below_drewN B4 nq
      clear HBC d4 c04 c14 c24 bR4 B4
      obtain ⟨r0, r1, r2, q0, q1, q2⟩ := bRq.three
      obtain ⟨k0, k1, k2, _⟩ := bCq.three
      generalize W4.drewN nq = W5 at *
      obtain ⟨WF, hWF, bF, hwF, hsF⟩ := box3_fill bRq (.int .i64 0) (.int .i64 0) (.bool false)
      have HB : Hid (Below w.heap.size w WF) := Bq.trans (hwF.below (Nat.le_refl _) Bq.size)
      obtain ⟨g0, g1, g2, _⟩ := bF.three
      clear hwF bCq
      go_wp2_with fail
      rw [hWF.out]
      exact bodyPost_ret (v := .tuple #[.agg #[.int .i64 0, .int .i64 0, .bool false], .int .i64 0, .bool false]) (by simp [results, Tryz.results83, go_sem, g0, g1, g2]) rfl ⟨liveAns_none HX.out, HB.out⟩
end Go.Proofs.YtjaojcgfgkppgaaGreatDoor

/- The walk of impl.readLives. -/
namespace Go.Proofs.YtjaojcgfgkppgaaGreatDoor
open Go.RowKit

def onToL (L : List LiveV) : Option (List LiveV × Nat) → Option (List LiveV × Nat)
  | some (l, q) => some (L ++ l, q)
  | none => none
theorem onToL_nil (x : Option (List LiveV × Nat)) : onToL [] x = x := by cases x <;> rfl
theorem onToL_step (zs : List Int) (L : List LiveV) (n p q : Nat) (t : LiveV) (h : liveAt zs p = some (t, q)) : onToL L (livesAt zs (n + 1) p) = onToL (L ++ [t]) (livesAt zs n q) := by
  rw [livesAt, h]
  simp only
  cases livesAt zs n q with
  | none => rfl
  | some y => simp [onToL]
theorem onToL_stop (zs : List Int) (L : List LiveV) (n p : Nat) (h : liveAt zs p = none) : onToL L (livesAt zs (n + 1) p) = none := by rw [livesAt, h]; rfl
def rowLs (L : List LiveV) (n : Nat) : List LiveV := L ++ List.replicate (n - L.length) zeroL
theorem rowLs_len (L : List LiveV) (n : Nat) (h : L.length ≤ n) : (rowLs L n).length = n := by simp [rowLs]; omega
theorem rowLs_nil (n : Nat) : rowLs [] n = List.replicate n zeroL := by simp [rowLs]
theorem rowLs_all (L : List LiveV) : rowLs L L.length = L := by simp [rowLs]
theorem rowLs_set (L : List LiveV) (n : Nat) (t : LiveV) (h : L.length < n) : (rowLs L n).set L.length t = rowLs (L ++ [t]) n := by
  unfold rowLs
  rw [List.set_append_right _ _ (Nat.le_refl _), Nat.sub_self, show n - L.length = (n - (L ++ [t]).length) + 1 by simp; omega, List.replicate_succ, List.set_cons_zero]
  simp
def LivesAns (w' : World) (lo : Nat) (x : Option (List LiveV × Nat)) (e : Ending) : Prop := match x with
  | some (l, q) => ∃ a' c', e = .returned (.tuple #[.slice a' l.length c', .int .i64 (q : Nat), .bool true]) ∧ OwnL w' lo w'.heap.size a' c' l
  | none => e = .returned (.tuple #[.slice none 0 0, .int .i64 0, .bool false])
theorem livesAns_none {w' : World} {lo : Nat} {x : Option (List LiveV × Nat)} (h : x = none) : LivesAns w' lo x (.returned (.tuple #[.slice none 0 0, .int .i64 0, .bool false])) := by subst h; rfl
theorem livesAns_some {w' : World} {lo : Nat} {x : Option (List LiveV × Nat)} {l : List LiveV} {q n : Nat} (h : x = some (l, q)) (a' : Option Addr) (c' : Nat) (hn : n = l.length) (ho : OwnL w' lo w'.heap.size a' c' l) : LivesAns w' lo x (.returned (.tuple #[.slice a' n c', .int .i64 (q : Nat), .bool true])) := by subst h; subst hn; exact ⟨a', c', rfl, ho⟩
theorem countAt_none {zs : List Int} {p : Nat} (h : getAt zs (p : Int) = none) : countAt zs p = none := by unfold countAt; rw [h]
theorem countAt_bad {zs : List Int} {p q : Nat} {n : Int} (h : getAt zs (p : Int) = some (n, q)) (hn : n < 0 ∨ 20 < n) : countAt zs p = none := by unfold countAt; rw [h]; simp only; rw [if_neg (by omega)]
theorem countAt_good {zs : List Int} {p q m : Nat} (h : getAt zs (p : Int) = some ((m : Int), q)) (hm : m ≤ 20) : countAt zs p = livesAt zs m q := by unfold countAt; rw [h]; simp only; rw [if_pos (by omega), Int.toNat_natCast]

set_option maxHeartbeats 4000000 in
set_option maxRecDepth 100000 in
theorem readLives_any (a : Option Addr) (c : Nat) (zs : List Int) (p : Nat) (w : World) (hr : Reads w a zs) (hl : zs.length ≤ 70368744177664) (hcap : zs.length ≤ c) :
    Calls Tryz.prog 61 #[.slice a zs.length c, .int .i64 (p : Int)] w fun e w' => LivesAns w' w.heap.size (countAt zs p) e ∧ Below w.heap.size w w' := by
  obtain ⟨i0, hi, hz0, hz1, hz2⟩ := info_parts Tryz.infoLive
  have C := implGetInt_any a c zs (p : Int) w hr hl hcap
  cases hg : getAt zs (p : Int) with
  | none =>
    have HX : Hid (_ = _) := countAt_none hg
    generalize countAt zs p = X at *
    rw [hg] at C
    simp only [triple] at C
    go_enter Tryz.func61, Tryz.ntmps61
    go_wp2_with fail
    refine C.mono ?_
    rintro e u ⟨rfl, hu⟩
    rw [hu]
    clear hu u
    go_wp2
    go_ret3
    exact ⟨livesAns_none HX.out, Below.refl _ _⟩
  | some g =>
    obtain ⟨n, q⟩ := g
    rw [hg] at C
    simp only [triple] at C
    by_cases hneg : n < 0
    · have HX : Hid (_ = _) := countAt_bad hg (.inl hneg)
      generalize countAt zs p = X at *
      go_enter Tryz.func61, Tryz.ntmps61
      go_wp2_with fail
      refine C.mono ?_
      rintro e u ⟨rfl, hu⟩
      rw [hu]
      clear hu u
      go_wp2
      go_ret3
      exact ⟨livesAns_none HX.out, Below.refl _ _⟩
    by_cases hbig : 20 < n
    · have HX : Hid (_ = _) := countAt_bad hg (.inr hbig)
      generalize countAt zs p = X at *
      go_enter Tryz.func61, Tryz.ntmps61
      go_wp2_with fail
      refine C.mono ?_
      rintro e u ⟨rfl, hu⟩
      rw [hu]
      clear hu u
      go_wp2
      go_ret3
      exact ⟨livesAns_none HX.out, Below.refl _ _⟩
    obtain ⟨m, rfl⟩ : ∃ m : Nat, n = (m : Int) := ⟨n.toNat, by omega⟩
    have hm : m ≤ 20 := by omega
    have HX : Hid (_ = _) := countAt_good hg hm
    generalize countAt zs p = X at *
    clear hg
    go_enter Tryz.func61, Tryz.ntmps61
    go_wp2_with fail
    refine C.mono ?_
    clear C
    rintro e u ⟨rfl, hu⟩
    rw [hu]
    clear hu u
    go_wp2_with (at_make; refine wpList_make_full _ rfl _ _ 28 rfl w.heap.size 66 i0 (.agg #[.int .i64 0, .int .i64 0, .bool false]) 3 Tryz.underlying28 hi hz0 hz1 _ _ _ _ m rfl rfl rfl rfl (by rw [hz2]; omega) (by simp [maxLen]; omega) (Nat.le_refl _) ?_)
    intro w0 hown0 hgrow0
    have hown1 : w0.ownsRow w.heap.size 66 3 (.slice (some ⟨w.heap.size, 0, none⟩) m m) m (cellsL (rowLs [] m)) := by
      rw [rowLs_nil, ← made_live]
      exact hown0
    have hb0 : Below w.heap.size w w0 := (Below.refl _ _).grown hgrow0 (Nat.le_refl _) (fun k h => by cases h)
    clear hown0 hgrow0
    go_wp2
    go_loopw [1, 32] (fun t i wr => ∃ (k q2 : Nat) (L : List LiveV), k ≤ m ∧ i = .int .i64 k ∧ t = .int .i64 q2 ∧ Hid (L.length = k ∧ X = onToL L (livesAt zs (m - k) q2)) ∧ wr.ownsRow w.heap.size 66 3 (.slice (some ⟨w.heap.size, 0, none⟩) m m) m (cellsL (rowLs L m)) ∧ Below w.heap.size w wr)
      (fun _ i _ => m - (intOf i).toNat)
    case atStart => exact ⟨0, q, [], Nat.zero_le _, rfl, rfl, ⟨rfl, by rw [onToL_nil]; exact HX.out⟩, hown1, hb0⟩
    case round =>
      obtain ⟨k, q2, L, hk, rfl, rfl, hL, hown, hnx⟩ := hrel
      clear hown1 hb0
      by_cases hlt : k < m
      · have hp : (rowLs L m).length = m := rowLs_len L m (by rw [hL.out.1]; exact hk)
        have C := readLive_any a c zs q2 wr (hr.below hnx) hl hcap
        have HRK : Hid (m - k = (m - (k + 1)) + 1) := by rw [Hid]; omega
        have HSET : Hid (∀ t, (rowLs L m).set k t = rowLs (L ++ [t]) m) := fun t => by have := rowLs_set L m t (by rw [hL.out.1]; exact hlt); rw [hL.out.1] at this; exact this
        have hi0 : (0 : Int) ≤ (k : Int) := by omega
        have hi4 : (k : Int) < (m : Int) := by omega
        cases hlv : liveAt zs q2 with
        | none =>
          rw [hlv] at C
          simp only [LiveAns, LiveV.cells, zeroL] at C
          have HE : Hid (X = none) := by rw [Hid, hL.out.2, HRK.out]; exact onToL_stop zs L _ q2 hlv
          go_wp2_with fail
          refine C.mono ?_
          clear C
          rintro e w1 ⟨rfl, hb1⟩
          have hownA := ownsRow_block hown (fun j hj => hb1.block j (hown.lt j hj).2)
          obtain ⟨x0, x1, x2, hfz⟩ := row_live hownA hp k hlt
          have f0 := hfz (k * 3)
          have f1 := hfz (k * 3 + 1)
          have f2 := hfz (k * 3 + 2)
          obtain ⟨W2, hW2, ho2, hg2⟩ := row_store hownA hp k hlt zeroL
          have hB2 : Below w.heap.size w W2 := (hnx.trans (hb1.mono hnx.size)).grown hg2 (by have := hnx.size; have := hb1.size; omega) (fun j hj => by cases hj; omega)
          simp only [zeroL] at hW2
          clear ho2 hg2 hfz hownA hown hb1 hnx HSET
          generalize (rowLs L m).getD k zeroL = old at *
          go_wp2_with fail
          rw [hW2.out]
          go_wp2
          go_ret3
          exact ⟨livesAns_none HE.out, hB2⟩
        | some g =>
          obtain ⟨z, q3⟩ := g
          rw [hlv] at C
          simp only [LiveAns, LiveV.cells] at C
          have HE : Hid (X = onToL (L ++ [z]) (livesAt zs (m - (k + 1)) q3)) := by rw [Hid, hL.out.2, HRK.out]; exact onToL_step zs L _ q2 q3 z hlv
          go_wp2_with fail
          refine C.mono ?_
          clear C
          rintro e w1 ⟨rfl, hb1⟩
          have hownA := ownsRow_block hown (fun j hj => hb1.block j (hown.lt j hj).2)
          obtain ⟨x0, x1, x2, hfz⟩ := row_live hownA hp k hlt
          have f0 := hfz (k * 3)
          have f1 := hfz (k * 3 + 1)
          have f2 := hfz (k * 3 + 2)
          obtain ⟨W2, hW2, ho2, hg2⟩ := row_store hownA hp k hlt z
          rw [HSET.out z] at ho2
          have hB2 : Below w.heap.size w W2 := (hnx.trans (hb1.mono hnx.size)).grown hg2 (by have := hnx.size; have := hb1.size; omega) (fun j hj => by cases hj; omega)
          have HH : Hid (_ ∧ _) := ⟨ho2, hB2⟩
          have HLL : Hid ((L ++ [z]).length = k + 1) := by simp [Hid, hL.out.1]
          clear ho2 hB2 hg2 hfz hownA hown hb1 hnx HSET
          generalize (rowLs L m).getD k zeroL = old at *
          go_wp2_with fail
          rw [hW2.out]
          go_roundw
          case rel => exact ⟨k + 1, q3, L ++ [z], by omega, by go_num, rfl, ⟨HLL.out, HE.out⟩, HH.out.1, HH.out.2⟩
          case measure => simp [intOf]; omega
      · obtain rfl : k = m := by omega
        have HO : Hid (wr.ownsRow w.heap.size 66 3 (.slice (some ⟨w.heap.size, 0, none⟩) L.length k) L.length (cellsL L)) := by
          have e := hL.out.1
          rw [← e, rowLs_all] at hown
          rw [Hid, ← e]
          exact hown
        have HE : Hid (X = some (L, q2)) := by rw [Hid, hL.out.2, Nat.sub_self]; simp [livesAt, onToL]
        have HKL : Hid (k = L.length) := hL.out.1.symm
        go_wp2
        go_ret3
        exact ⟨livesAns_some HE.out _ _ HKL.out ⟨HO.out, Nat.le_refl _, fun j hj => (HO.out.lt j hj).2⟩, hnx⟩
end Go.Proofs.YtjaojcgfgkppgaaGreatDoor

/- The walk of impl.readParts. -/
namespace Go.Proofs.YtjaojcgfgkppgaaGreatDoor
open Go.RowKit

/-- What readParts answers. -/
def PartsAns (w' : World) (lo : Nat) (x : Option (List Int × Nat)) (e : Ending) : Prop := match x with
  | some (l, q) => ∃ a' c', e = .returned (.tuple #[.slice a' l.length c', .int .i64 (q : Nat), .nilIface]) ∧ OwnI w' lo w'.heap.size a' c' l
  | none => ∃ s, e = .returned (.tuple #[.slice none 0 0, .int .i64 0, .iface 165 (.agg #[.string s])])
theorem partsAns_none {w' : World} {lo : Nat} {x : Option (List Int × Nat)} (h : x = none) (s : ByteArray) : PartsAns w' lo x (.returned (.tuple #[.slice none 0 0, .int .i64 0, .iface 165 (.agg #[.string s])])) := by
  subst h; exact ⟨s, rfl⟩
theorem partsAns_some {w' : World} {lo : Nat} {x : Option (List Int × Nat)} {l : List Int} {q : Nat} (h : x = some (l, q)) (a' : Option Addr) (c' n : Nat) (hn : n = l.length) (ho : OwnI w' lo w'.heap.size a' c' l) : PartsAns w' lo x (.returned (.tuple #[.slice a' n c', .int .i64 (q : Nat), .nilIface])) := by
  subst h; subst hn; exact ⟨a', c', rfl, ho⟩

theorem partsAt_none {zs : List Int} {p : Nat} (h : getAt zs (p : Int) = none) : partsAt zs p = none := by unfold partsAt; rw [h]
theorem partsAt_bad {zs : List Int} {p q : Nat} {n : Int} (h : getAt zs (p : Int) = some (n, q)) (hn : n < 0 ∨ 5 < n) : partsAt zs p = none := by
  unfold partsAt; rw [h]; simp only; rw [if_neg (by omega)]
theorem partsAt_good {zs : List Int} {p q m : Nat} (h : getAt zs (p : Int) = some ((m : Int), q)) (hm : m ≤ 5) : partsAt zs p = numsAt zs m q := by
  unfold partsAt; rw [h]; simp only; rw [if_pos (by omega), Int.toNat_natCast]

set_option maxHeartbeats 2000000 in
set_option maxRecDepth 100000 in
theorem readParts_any (a : Option Addr) (c : Nat) (zs : List Int) (p : Nat) (w : World) (hr : Reads w a zs) (hl : zs.length ≤ 70368744177664) (hcap : zs.length ≤ c) :
    Calls Tryz.prog 121 #[.slice a zs.length c, .int .i64 p] w fun e w' => PartsAns w' w.heap.size (partsAt zs p) e ∧ Below w.heap.size w w' := by
  cases hg : getAt zs (p : Int) with
  | none =>
    have HX : Hid (_ = _) := partsAt_none hg
    have HG : Hid (_ = _) := hg
    clear hg
    generalize partsAt zs p = X at *
    go_enter Tryz.func121, Tryz.ntmps121
    go_wp2_with fail
    refine (implGetInt_any a c zs p w hr hl hcap).mono ?_
    rintro e w' ⟨rfl, rfl⟩
    rw [HG.out]
    simp only [triple]
    go_wp2
    go_ret3
    exact ⟨partsAns_none HX.out _, Below.refl _ _⟩
  | some t =>
    obtain ⟨n, q⟩ := t
    by_cases hn0 : n < 0
    · have HX : Hid (_ = _) := partsAt_bad hg (.inl hn0)
      have HG : Hid (_ = _) := hg
      clear hg
      generalize partsAt zs p = X at *
      go_enter Tryz.func121, Tryz.ntmps121
      go_wp2_with fail
      refine (implGetInt_any a c zs p w hr hl hcap).mono ?_
      rintro e w' ⟨rfl, rfl⟩
      rw [HG.out]
      simp only [triple]
      go_wp2
      go_ret3
      exact ⟨partsAns_none HX.out _, Below.refl _ _⟩
    by_cases hn5 : 5 < n
    · have HX : Hid (_ = _) := partsAt_bad hg (.inr hn5)
      have HG : Hid (_ = _) := hg
      clear hg
      generalize partsAt zs p = X at *
      go_enter Tryz.func121, Tryz.ntmps121
      go_wp2_with fail
      refine (implGetInt_any a c zs p w hr hl hcap).mono ?_
      rintro e w' ⟨rfl, rfl⟩
      rw [HG.out]
      simp only [triple]
      go_wp2
      go_ret3
      exact ⟨partsAns_none HX.out _, Below.refl _ _⟩
    obtain ⟨m, rfl⟩ : ∃ m : Nat, n = (m : Int) := ⟨n.toNat, by omega⟩
    have hm5 : m ≤ 5 := by omega
    have HX : Hid (onTo [] (numsAt zs (m - 0) q) = partsAt zs p) := by rw [Hid, partsAt_good hg hm5, onTo_nil]; rfl
    have HG : Hid (_ = _) := hg
    clear hg
    generalize partsAt zs p = X at *
    obtain ⟨i0, hi, hz0, hz1, hz2⟩ := info_parts Tryz.infoInt
    go_enter Tryz.func121, Tryz.ntmps121
    go_wp2_with fail
    refine (implGetInt_any a c zs p w hr hl hcap).mono ?_
    rintro e w' ⟨rfl, rfl⟩
    rw [HG.out]
    simp only [triple]
    go_wp2_with (at_make; refine wpList_make_full _ rfl _ _ 23 rfl w'.heap.size 3 i0 (.int .i64 0) 1 Tryz.underlying23 hi hz0 hz1 _ _ _ _ m rfl rfl rfl rfl (by rw [hz2]; omega) (by simp [maxLen]; omega) (Nat.le_refl _) ?_)
    intro w0 hown0 hgrow0
    have hown1 : w0.ownsRow w'.heap.size 3 1 (.slice (some ⟨w'.heap.size, 0, none⟩) m m) m ((rowI [] m).map (Value.int .i64)) := by
      rw [rowI_nil, List.map_replicate]
      simpa [Value.cells, toList_madeCells_one] using hown0
    have hb0 : Below w'.heap.size w' w0 := (Below.refl _ _).grown hgrow0 (Nat.le_refl _) (fun k h => by cases h)
    clear hown0 hgrow0
    go_wp2
    go_loopw [1, 34] (fun at_ i wr => ∃ (L : List Int) (k r : Nat), Hid (L.length = k) ∧ k ≤ m ∧ i = .int .i64 k ∧ at_ = .int .i64 r ∧ Hid (onTo L (numsAt zs (m - k) r) = X) ∧ Hid (wr.ownsRow w'.heap.size 3 1 (.slice (some ⟨w'.heap.size, 0, none⟩) m m) m ((rowI L m).map (Value.int .i64))) ∧ Below w'.heap.size w' wr)
      (fun _ i _ => m - (intOf i).toNat)
    case atStart => exact ⟨[], 0, q, rfl, Nat.zero_le _, rfl, rfl, HX, hown1, hb0⟩
    case round =>
      obtain ⟨L, k, r, hL, hk, rfl, rfl, hX, hownH, hnx⟩ := hrel
      clear hown1 hb0 HX
      by_cases hlt : k < m
      · have hown := hownH.out
        have hfz := hown.frozenAt k
        obtain ⟨u, hct⟩ := own_cell hown k hlt
        cases hg : getAt zs (r : Int) with
        | none =>
          have HG2 : Hid (_ = _) := hg
          have HXN : Hid (X = none) := by
            have e : m - k = (m - k - 1) + 1 := by omega
            rw [Hid, ← hX.out, e, onTo_stop zs L _ r hg]
          have hbS : Below w'.heap.size w' (wr.setCell ⟨w'.heap.size, k, none⟩ (.int .i64 0)) := hnx.setCell (Nat.le_refl _) _
          have HBS : Hid (_) := hbS
          clear hg hown hbS
          go_wp2_with fail
          refine (implGetInt_any a c zs r wr (hr.below hnx) hl hcap).mono ?_
          rintro e w2 ⟨rfl, rfl⟩
          rw [HG2.out]
          simp only [triple]
          go_wp2
          go_ret3
          exact ⟨partsAns_none HXN.out _, HBS.out⟩
        | some t =>
          obtain ⟨z, r2⟩ := t
          have HG2 : Hid (_ = _) := hg
          have HXS : Hid (onTo (L ++ [z]) (numsAt zs (m - (k + 1)) r2) = X) := by
            have e : m - k = (m - (k + 1)) + 1 := by omega
            rw [Hid, ← hX.out, e, onTo_step zs L _ r r2 z hg]
          have HLS : Hid ((L ++ [z]).length = k + 1) := by rw [Hid, List.length_append, hL.out]; rfl
          have HS : Hid ((wr.setCell ⟨w'.heap.size, k, none⟩ (.int .i64 z)).ownsRow w'.heap.size 3 1 (.slice (some ⟨w'.heap.size, 0, none⟩) m m) m ((rowI (L ++ [z]) m).map (Value.int .i64))) := by
            have h1 := (hown.stored k (.int .i64 z)).1
            have h2 := rowI_set_map L m z (by rw [hL.out]; exact hlt)
            rw [hL.out] at h2
            rw [h2] at h1
            exact h1
          have HN : Hid (Below w'.heap.size w' (wr.setCell ⟨w'.heap.size, k, none⟩ (.int .i64 z))) := hnx.setCell (Nat.le_refl _) _
          clear hg hown
          go_wp2_with fail
          refine (implGetInt_any a c zs r wr (hr.below hnx) hl hcap).mono ?_
          rintro e w2 ⟨rfl, rfl⟩
          rw [HG2.out]
          simp only [triple]
          go_wp2
          go_roundw
          case rel => exact ⟨L ++ [z], k + 1, r2, HLS, by omega, by go_num, rfl, HXS, HS, HN.out⟩
          case measure => simp [intOf]; omega
      · obtain rfl : k = m := by omega
        have HXS : Hid (X = some (L, r)) := by rw [Hid, ← hX.out, Nat.sub_self, numsAt]; simp [onTo]
        have HO : Hid (OwnI wr w'.heap.size wr.heap.size (some ⟨w'.heap.size, 0, none⟩) k L) := by
          have h1 := hownH.out
          have e : rowI L k = L := by rw [← hL.out]; exact rowI_all L
          rw [e] at h1
          refine ⟨?_, Nat.le_refl _, ?_⟩
          · rw [hL.out]; exact h1
          · intro j hj; rw [hL.out] at hj; exact (h1.lt j hj).2
        go_wp2
        go_ret3
        exact ⟨partsAns_some HXS.out _ _ _ hL.out.symm HO.out, hnx⟩
end Go.Proofs.YtjaojcgfgkppgaaGreatDoor

/- The walk of impl.foundObj. -/
namespace Go.Proofs.YtjaojcgfgkppgaaGreatDoor
open Go.RowKit

set_option maxHeartbeats 1000000 in
set_option maxRecDepth 100000 in
theorem foundObj_ok (k : Int) (aI : Option Addr) (nI cI : Nat) (aR : Option Addr) (nR cR : Nat) (w : World) : Calls Tryz.prog 110 #[.agg #[.int .i64 k, .slice aI nI cI, .slice aR nR cR], .nilIface] w fun e w' => e = .returned (.tuple #[.agg #[.int .i64 k, .slice aI nI cI, .slice aR nR cR], .bool true]) ∧ Below w.heap.size w w' := by
  obtain ⟨W, hW, b0, b1, hbW, hsW⟩ := boxes2 w [.int .i64 k, .slice aI nI cI, .slice aR nR cR] [.int .i64 0, .slice none 0 0, .slice none 0 0] 25 25
  go_enter Tryz.func110, Tryz.ntmps110
  go_wp2_with fail
  rw [hW.out]
  refine (isNo_nil W).mono ?_
  rintro e w1 ⟨rfl, hb1⟩
  have B1 : Below w.heap.size w w1 := hbW.trans (hb1.mono hbW.size)
  obtain ⟨x0, x1, x2, _, _, _⟩ := (b0.below hb1 b0.lt).three
  have bR := b1.below hb1 b1.lt
  obtain ⟨y0, y1, y2, f0, f1, f2⟩ := bR.three
  obtain ⟨WF, hWF, bF, hwF, _⟩ := box3_fill bR (.int .i64 k) (.slice aI nI cI) (.slice aR nR cR)
  have HB : Hid (Below w.heap.size w WF) := B1.trans (hwF.below (by omega) (by have := hb1.size; omega))
  clear hwF hb1 B1
  go_wp2
  rw [hWF.out]
  obtain ⟨q0, q1, q2, _, _, _⟩ := bF.three
  exact bodyPost_ret (v := .tuple #[.agg #[.int .i64 k, .slice aI nI cI, .slice aR nR cR], .bool true]) (by simp [results, Tryz.results110, go_sem, q0, q1, q2]) rfl ⟨rfl, HB.out⟩

set_option maxHeartbeats 1000000 in
set_option maxRecDepth 100000 in
theorem foundObj_no (k : Int) (aI : Option Addr) (nI cI : Nat) (aR : Option Addr) (nR cR : Nat) (s : ByteArray) (w : World) (hg : ErrT w) : Calls Tryz.prog 110 #[.agg #[.int .i64 k, .slice aI nI cI, .slice aR nR cR], .iface 165 (.agg #[.string s])] w fun e w' => e = .returned (.tuple #[.agg #[.int .i64 0, .slice none 0 0, .slice none 0 0], .bool false]) ∧ Below w.heap.size w w' := by
  obtain ⟨W, hW, b0, b1, hbW, hsW⟩ := boxes2 w [.int .i64 k, .slice aI nI cI, .slice aR nR cR] [.int .i64 0, .slice none 0 0, .slice none 0 0] 25 25
  go_enter Tryz.func110, Tryz.ntmps110
  go_wp2_with fail
  rw [hW.out]
  refine (isNo_hit s W (hg.keep hbW)).mono ?_
  rintro e w1 ⟨rfl, hb1⟩
  have B1 : Below w.heap.size w w1 := hbW.trans (hb1.mono hbW.size)
  have bR := b1.below hb1 b1.lt
  obtain ⟨y0, y1, y2, f0, f1, f2⟩ := bR.three
  obtain ⟨WF, hWF, bF, hwF, _⟩ := box3_fill bR (.int .i64 0) (.slice none 0 0) (.slice none 0 0)
  have HB : Hid (Below w.heap.size w WF) := B1.trans (hwF.below (by omega) (by have := hb1.size; omega))
  clear hwF hb1 B1
  go_wp2
  rw [hWF.out]
  obtain ⟨q0, q1, q2, _, _, _⟩ := bF.three
  exact bodyPost_ret (v := .tuple #[.agg #[.int .i64 0, .slice none 0 0, .slice none 0 0], .bool false]) (by simp [results, Tryz.results110, go_sem, q0, q1, q2]) rfl ⟨rfl, HB.out⟩
end Go.Proofs.YtjaojcgfgkppgaaGreatDoor

/- The walks of impl.readObj and impl.GetObj. -/
namespace Go.Proofs.YtjaojcgfgkppgaaGreatDoor
open Go.RowKit

/-- What readObj answers. -/
def ReadAns (w' : World) (lo : Nat) (x : Option ObjV) (e : Ending) : Prop := match x with
  | some o => ∃ aI cI aR cR ev, e = .returned (.tuple #[.agg #[.int .i64 o.kind, .slice aI o.ints.length cI, .slice aR o.refs.length cR], ev]) ∧ IsErr (okB o) (.returned ev) ∧ OwnO w' lo w'.heap.size aI cI aR cR o
  | none => ∃ s, e = .returned (.tuple #[.agg #[.int .i64 0, .slice none 0 0, .slice none 0 0], .iface 165 (.agg #[.string s])])
theorem readAns_none {w' : World} {lo : Nat} {x : Option ObjV} (h : x = none) (s : ByteArray) : ReadAns w' lo x (.returned (.tuple #[.agg #[.int .i64 0, .slice none 0 0, .slice none 0 0], .iface 165 (.agg #[.string s])])) := by
  subst h; exact ⟨s, rfl⟩
theorem readAns_some {w' : World} {lo : Nat} {x : Option ObjV} {o : ObjV} (h : x = some o) {aI : Option Addr} {cI : Nat} {aR : Option Addr} {cR : Nat} {ev : Value} (he : IsErr (okB o) (.returned ev)) (ho : OwnO w' lo w'.heap.size aI cI aR cR o) : ReadAns w' lo x (.returned (.tuple #[.agg #[.int .i64 o.kind, .slice aI o.ints.length cI, .slice aR o.refs.length cR], ev])) := by
  subst h; exact ⟨aI, cI, aR, cR, ev, rfl, he, ho⟩
theorem isErr_ret {ok : Bool} {e : Ending} (h : IsErr ok e) : ∃ ev, e = .returned ev := by
  rcases h with ⟨_, rfl⟩ | ⟨_, s, rfl⟩
  · exact ⟨_, rfl⟩
  · exact ⟨_, rfl⟩

theorem readAll_none0 {zs : List Int} (h : getAt zs 0 = none) : readAll zs = none := by unfold readAll; rw [h]
theorem readAll_none1 {zs : List Int} {k : Int} {p : Nat} (h : getAt zs 0 = some (k, p)) (h1 : partsAt zs p = none) : readAll zs = none := by unfold readAll; rw [h]; simp only; rw [h1]
theorem readAll_none2 {zs : List Int} {k : Int} {p q : Nat} {is : List Int} (h : getAt zs 0 = some (k, p)) (h1 : partsAt zs p = some (is, q)) (h2 : partsAt zs q = none) : readAll zs = none := by
  unfold readAll; rw [h]; simp only; rw [h1]; simp only; rw [h2]
theorem readAll_at {zs : List Int} {k : Int} {p q r : Nat} {is rs : List Int} (h : getAt zs 0 = some (k, p)) (h1 : partsAt zs p = some (is, q)) (h2 : partsAt zs q = some (rs, r)) : readAll zs = if r = zs.length then some ⟨k, is, rs⟩ else none := by
  unfold readAll; rw [h]; simp only; rw [h1]; simp only; rw [h2]

set_option maxHeartbeats 4000000 in
set_option maxRecDepth 100000 in
theorem readObj_any (a : Option Addr) (c : Nat) (zs : List Int) (w : World) (hr : Reads w a zs) (hl : zs.length ≤ 70368744177664) (hcap : zs.length ≤ c) :
    Calls Tryz.prog 111 #[.slice a zs.length c] w fun e w' => ReadAns w' w.heap.size (readAll zs) e ∧ Below w.heap.size w w' := by
  generalize hXX : readAll zs = X
  have HXX : Hid (readAll zs = X) := hXX
  clear hXX
  obtain ⟨W, hW, b0, hbW, hsW⟩ := boxes1 w [.int .i64 0, .slice none 0 0, .slice none 0 0] 25
  obtain ⟨x0, x1, x2, f0, f1, f2⟩ := b0.three
  have hrW := hr.below hbW
  have hblt := b0.lt
  cases hg : getAt zs 0 with
  | none =>
    have HX : Hid (X = none) := HXX.out ▸ readAll_none0 hg
    have HG : Hid (_ = _) := hg
    clear hg
    obtain ⟨WF, hWF, bF, hwF, _⟩ := box3_fill b0 (.int .i64 0) (.slice none 0 0) (.slice none 0 0)
    have HB : Hid (Below w.heap.size w WF) := hbW.trans (hwF.below (by omega) (by omega))
    clear hwF
    go_enter Tryz.func111, Tryz.ntmps111
    go_wp2_with fail
    rw [hW.out]
    refine (implGetInt_any a c zs 0 W hrW hl hcap).mono ?_
    rintro e w' ⟨rfl, rfl⟩
    rw [HG.out]
    simp only [triple]
    go_wp2
    rw [hWF.out]
    obtain ⟨q0, q1, q2, _, _, _⟩ := bF.three
    exact bodyPost_ret (v := .tuple #[.agg #[.int .i64 0, .slice none 0 0, .slice none 0 0], .iface 165 (.agg #[.string _])]) (by simp [results, Tryz.results111, go_sem, q0, q1, q2]; rfl) rfl ⟨readAns_none HX.out _, HB.out⟩
  | some t =>
  obtain ⟨k, p⟩ := t
  have HG : Hid (_ = _) := hg
  go_enter Tryz.func111, Tryz.ntmps111
  go_wp2_with fail
  rw [hW.out]
  refine (implGetInt_any a c zs 0 W hrW hl hcap).mono ?_
  rintro e w' ⟨rfl, rfl⟩
  rw [HG.out]
  simp only [triple]
  go_wp2_with fail
  refine (readParts_any a c zs p w' hrW hl hcap).mono ?_
  rintro e w1 ⟨hans, hb1⟩
  have B1 : Below w.heap.size w w1 := hbW.trans (hb1.mono hbW.size)
  have b1 := b0.below hb1 b0.lt
  obtain ⟨y0, y1, y2, e0, e1, e2⟩ := b1.three
  have hs1 := hb1.size
  cases hp : partsAt zs p with
  | none =>
    rw [hp] at hans
    obtain ⟨s, rfl⟩ := hans
    have HX : Hid (X = none) := HXX.out ▸ readAll_none1 hg hp
    clear hg hp
    obtain ⟨WF, hWF, bF, hwF, _⟩ := box3_fill b1 (.int .i64 0) (.slice none 0 0) (.slice none 0 0)
    have HB : Hid (Below w.heap.size w WF) := B1.trans (hwF.below (by omega) (by omega))
    clear hwF
    go_wp2
    rw [hWF.out]
    obtain ⟨q0, q1, q2, _, _, _⟩ := bF.three
    exact bodyPost_ret (v := .tuple #[.agg #[.int .i64 0, .slice none 0 0, .slice none 0 0], .iface 165 (.agg #[.string s])]) (by simp [results, Tryz.results111, go_sem, q0, q1, q2]) rfl ⟨readAns_none HX.out _, HB.out⟩
  | some t =>
  obtain ⟨is, q⟩ := t
  rw [hp] at hans
  obtain ⟨aI, cI, rfl, hoI⟩ := hans
  have hq5 := (partsAt_canon zs hr.1 p is q hp).1
  go_wp2_with fail
  refine (readParts_any a c zs q w1 (hr.below B1) hl hcap).mono ?_
  rintro e w2 ⟨hans, hb2⟩
  have B2 : Below w.heap.size w w2 := B1.trans (hb2.mono B1.size)
  have b2 := b1.below hb2 b1.lt
  obtain ⟨z0, z1, z2, g0, g1, g2⟩ := b2.three
  have hs2 := hb2.size
  have hoI2 := hoI.below hb2
  clear y0 y1 y2 e0 e1 e2 x0 x1 x2 f0 f1 f2
  cases hp2 : partsAt zs q with
  | none =>
    rw [hp2] at hans
    obtain ⟨s, rfl⟩ := hans
    have HX : Hid (X = none) := HXX.out ▸ readAll_none2 hg hp hp2
    clear hg hp hp2
    obtain ⟨WF, hWF, bF, hwF, _⟩ := box3_fill b2 (.int .i64 0) (.slice none 0 0) (.slice none 0 0)
    have HB : Hid (Below w.heap.size w WF) := B2.trans (hwF.below (by omega) (by omega))
    clear hwF
    go_wp2
    rw [hWF.out]
    obtain ⟨q0, q1, q2, _, _, _⟩ := bF.three
    exact bodyPost_ret (v := .tuple #[.agg #[.int .i64 0, .slice none 0 0, .slice none 0 0], .iface 165 (.agg #[.string s])]) (by simp [results, Tryz.results111, go_sem, q0, q1, q2]) rfl ⟨readAns_none HX.out _, HB.out⟩
  | some t =>
  obtain ⟨rs, r⟩ := t
  rw [hp2] at hans
  obtain ⟨aR, cR, rfl, hoR⟩ := hans
  have hr5 := (partsAt_canon zs hr.1 q rs r hp2).1
  have hX := readAll_at hg hp hp2
  clear hg hp hp2
  by_cases hrl : r = zs.length
  case neg =>
    have HX : Hid (X = none) := by rw [Hid, ← HXX.out, hX, if_neg hrl]
    have hrb : ((r : Int) == (zs.length : Int)) = false := by simp; omega
    clear hX hrl
    obtain ⟨WF, hWF, bF, hwF, _⟩ := box3_fill b2 (.int .i64 0) (.slice none 0 0) (.slice none 0 0)
    have HB : Hid (Below w.heap.size w WF) := B2.trans (hwF.below (by omega) (by omega))
    clear hwF
    go_wp2
    rw [hWF.out]
    obtain ⟨q0, q1, q2, _, _, _⟩ := bF.three
    exact bodyPost_ret (v := .tuple #[.agg #[.int .i64 0, .slice none 0 0, .slice none 0 0], .iface 165 (.agg #[.string _])]) (by simp [results, Tryz.results111, go_sem, q0, q1, q2]; rfl) rfl ⟨readAns_none HX.out _, HB.out⟩
  case pos =>
  have HX : Hid (X = some ⟨k, is, rs⟩) := by rw [Hid, ← HXX.out, hX, if_pos hrl]
  have hrb : ((r : Int) == (zs.length : Int)) = true := by simp; omega
  clear hX hrl
  obtain ⟨W3, hW3, b3, hbW3, hsW3⟩ := boxes1 w2 [.int .i64 k, .slice aI is.length cI, .slice aR rs.length cR] 25
  have hO3 : OwnO W3 w'.heap.size w2.heap.size aI cI aR cR ⟨k, is, rs⟩ := ⟨(hoI2.below hbW3).widen (Nat.le_refl _) (by omega) (by omega), (hoR.below hbW3).widen (by omega) (by omega) (by omega), fun j hj hj' => by have := (hoI.lt j hj).2; have := (hoR.lt j hj').1; omega⟩
  have b2' := b2.below hbW3 b2.lt
  have hkeep : ∀ w'', Below W3.heap.size W3 w'' → Box w'' w2.heap.size [.int .i64 k, .slice aI is.length cI, .slice aR rs.length cR] 25 ∧ Box w'' w.heap.size [.int .i64 0, .slice none 0 0, .slice none 0 0] 25 :=
    fun w'' hh => ⟨b3.below hh b3.lt, b2'.below hh b2'.lt⟩
  have B3 : Below w.heap.size w W3 := B2.trans (hbW3.mono B2.size)
  go_wp2_with fail
  rw [hW3.out]
  have hk0 := hkeep W3 (Below.refl _ _)
  have hcells : ∀ w'', Below W3.heap.size W3 w'' → (w''.cell? ⟨w2.heap.size, 0, none⟩ = some (.int .i64 k) ∧ w''.cell? ⟨w2.heap.size, 1, none⟩ = some (.slice aI is.length cI) ∧ w''.cell? ⟨w2.heap.size, 2, none⟩ = some (.slice aR rs.length cR)) ∧ (w''.cell? ⟨w.heap.size, 0, none⟩ = some (.int .i64 0) ∧ w''.cell? ⟨w.heap.size, 1, none⟩ = some (.slice none 0 0) ∧ w''.cell? ⟨w.heap.size, 2, none⟩ = some (.slice none 0 0)) ∧ (w''.frozen? ⟨w.heap.size, 0, none⟩ = false ∧ w''.frozen? ⟨w.heap.size, 1, none⟩ = false ∧ w''.frozen? ⟨w.heap.size, 2, none⟩ = false) := by
    intro w'' hh
    obtain ⟨ba, bb⟩ := hkeep w'' hh
    exact ⟨⟨ba.cell 0 _ rfl, ba.cell 1 _ rfl, ba.cell 2 _ rfl⟩, ⟨bb.cell 0 _ rfl, bb.cell 1 _ rfl, bb.cell 2 _ rfl⟩, bb.frozen 0, bb.frozen 1, bb.frozen 2⟩
  have hh := hcells W3 (Below.refl _ _)
  clear hk0
  have hne : w.heap.size < w2.heap.size := by omega
  have hne' : ¬ (w2.heap.size = w.heap.size) := by omega
  go_region_held3 (fun w'' => w''.cell? ⟨w2.heap.size, 0, none⟩ = some (.int .i64 k) ∧ w''.cell? ⟨w2.heap.size, 1, none⟩ = some (.slice aI is.length cI) ∧ w''.cell? ⟨w2.heap.size, 2, none⟩ = some (.slice aR rs.length cR))
    (first | exact (hcells _ hw5).1 | exact ⟨((((hkeep _ hw5).1.other hne').other hne').other hne').cell 0 _ rfl, ((((hkeep _ hw5).1.other hne').other hne').other hne').cell 1 _ rfl, ((((hkeep _ hw5).1.other hne').other hne').other hne').cell 2 _ rfl⟩ | go_keep)
    (first | (go_at_call 115; refine (checkObj_any ⟨k, is, rs⟩ aI cI aR cR _ hO3.reads.drew (by simp only; omega) (by simp only; omega)).mono ?_; rintro e w5 ⟨hie, hb5⟩; obtain ⟨ev, rfl⟩ := isErr_ret hie; have hw5 : Below W3.heap.size W3 w5 := (Below.refl _ _).drew.trans hb5; obtain ⟨⟨m0, m1, m2⟩, ⟨y0, y1, y2⟩, e0, e1, e2⟩ := hcells _ hw5))
  obtain ⟨WF, hWF, bF, hwF, hsF⟩ := box3_fill (hkeep _ hw5).2 (.int .i64 k) (.slice aI is.length cI) (.slice aR rs.length cR)
  rw [hWF.out]
  go_wp2
  obtain ⟨q0, q1, q2, _, _, _⟩ := bF.three
  have hs5 := hw5.size
  have hOF : OwnO WF w'.heap.size w2.heap.size aI cI aR cR ⟨k, is, rs⟩ := (hO3.below hw5).within hwF (.inr (by omega))
  exact bodyPost_ret (v := .tuple #[.agg #[.int .i64 k, .slice aI is.length cI, .slice aR rs.length cR], ev]) (by simp [results, Tryz.results111, go_sem, q0, q1, q2]) rfl ⟨readAns_some HX.out hie (hOF.widen (by omega) (by omega) (Nat.le_refl _)), (B3.trans (hw5.mono B3.size)).trans (hwF.below (Nat.le_refl _) (by omega))⟩

set_option maxHeartbeats 4000000 in
set_option maxRecDepth 100000 in
theorem implGetObj_any (a : Option Addr) (c : Nat) (zs : List Int) (w : World) (hg : ErrT w) (hr : Reads w a zs) (hl : zs.length ≤ 70368744177664) (hcap : zs.length ≤ c) :
    Calls Tryz.prog 82 #[.slice a zs.length c] w fun e w' => ∃ aI cI aR cR o ok, e = .returned (.tuple #[.agg #[.int .i64 o.kind, .slice aI o.ints.length cI, .slice aR o.refs.length cR], .bool ok]) ∧ Hid (getPair zs = (o, ok)) ∧ OwnO w' w.heap.size w'.heap.size aI cI aR cR o ∧ Below w.heap.size w w' := by
  have HN : Hid (readAll zs = none → getPair zs = (noO, false)) := getPair_none zs
  have HBD : Hid (∀ o, readAll zs = some o → okB o = false → getPair zs = (noO, false)) := fun o => getPair_bad zs o
  have HGD : Hid (∀ o, readAll zs = some o → okB o = true → getPair zs = (o, true)) := fun o => getPair_some zs hr.1 o
  generalize getPair zs = PR at *
  obtain ⟨W, hW, b0, hbW, hsW⟩ := boxes1 w [.int .i64 0, .slice none 0 0, .slice none 0 0] 25
  go_enter Tryz.func82, Tryz.ntmps82
  go_wp2_with fail
  rw [hW.out]
  refine (readObj_any a c zs W (hr.below hbW) hl hcap).mono ?_
  rintro e w1 ⟨hans, hb1⟩
  have B1 : Below w.heap.size w w1 := hbW.trans (hb1.mono hbW.size)
  have b1 := b0.below hb1 b0.lt
  have hs1 := hb1.size
  cases hx : readAll zs with
  | none =>
    have HP : Hid (_ = _) := HN.out hx
    rw [hx] at hans
    obtain ⟨s, rfl⟩ := hans
    clear hx
    go_wp2_with fail
    refine (foundObj_no 0 none 0 0 none 0 0 s w1 (hg.keep B1)).mono ?_
    rintro e w2 ⟨rfl, hb2⟩
    have B2 : Below w.heap.size w w2 := B1.trans (hb2.mono B1.size)
    have b2 := b1.below hb2 b1.lt
    have hs2 := hb2.size
    obtain ⟨y0, y1, y2, f0, f1, f2⟩ := b2.three
    obtain ⟨WF, hWF, bF, hwF, _⟩ := box3_fill b2 (.int .i64 0) (.slice none 0 0) (.slice none 0 0)
    have HB : Hid (Below w.heap.size w WF) := B2.trans (hwF.below (by omega) (by omega))
    clear hwF
    go_wp2
    rw [hWF.out]
    obtain ⟨q0, q1, q2, _, _, _⟩ := bF.three
    exact bodyPost_ret (v := .tuple #[.agg #[.int .i64 0, .slice none 0 0, .slice none 0 0], .bool false]) (by simp [results, Tryz.results82, go_sem, q0, q1, q2]) rfl ⟨none, 0, none, 0, noO, false, rfl, HP.out, ⟨ownI_nil _ _ _ (Nat.le_refl _), ownI_nil _ _ _ (Nat.le_refl _), fun k hk => by cases hk⟩, HB.out⟩
  | some o =>
    rw [hx] at hans
    obtain ⟨aI, cI, aR, cR, ev, rfl, hie, ho⟩ := hans
    rcases hie with ⟨hok, hev⟩ | ⟨hok, s, hev⟩
    · obtain rfl : ev = .nilIface := by simpa using hev
      have HP : Hid (_ = _) := HGD.out o hx hok
      clear hx hok hev
      go_wp2_with fail
      refine (foundObj_ok o.kind aI o.ints.length cI aR o.refs.length cR w1).mono ?_
      rintro e w2 ⟨rfl, hb2⟩
      have B2 : Below w.heap.size w w2 := B1.trans (hb2.mono B1.size)
      have b2 := b1.below hb2 b1.lt
      have hs2 := hb2.size
      obtain ⟨y0, y1, y2, f0, f1, f2⟩ := b2.three
      obtain ⟨WF, hWF, bF, hwF, hsF⟩ := box3_fill b2 (.int .i64 o.kind) (.slice aI o.ints.length cI) (.slice aR o.refs.length cR)
      have HB : Hid (Below w.heap.size w WF) := B2.trans (hwF.below (by omega) (by omega))
      have HO : Hid (OwnO WF w.heap.size WF.heap.size aI cI aR cR o) := ((ho.below hb2).within hwF (.inr (by omega))).widen (by omega) (by omega) (Nat.le_refl _)
      clear hwF
      go_wp2
      rw [hWF.out]
      obtain ⟨q0, q1, q2, _, _, _⟩ := bF.three
      exact bodyPost_ret (v := .tuple #[.agg #[.int .i64 o.kind, .slice aI o.ints.length cI, .slice aR o.refs.length cR], .bool true]) (by simp [results, Tryz.results82, go_sem, q0, q1, q2]) rfl ⟨aI, cI, aR, cR, o, true, rfl, HP.out, HO.out, HB.out⟩
    · obtain rfl : ev = _ := by simpa using hev
      have HP : Hid (_ = _) := HBD.out o hx hok
      clear hx hok hev
      go_wp2_with fail
      refine (foundObj_no o.kind aI o.ints.length cI aR o.refs.length cR s w1 (hg.keep B1)).mono ?_
      rintro e w2 ⟨rfl, hb2⟩
      have B2 : Below w.heap.size w w2 := B1.trans (hb2.mono B1.size)
      have b2 := b1.below hb2 b1.lt
      have hs2 := hb2.size
      obtain ⟨y0, y1, y2, f0, f1, f2⟩ := b2.three
      obtain ⟨WF, hWF, bF, hwF, _⟩ := box3_fill b2 (.int .i64 0) (.slice none 0 0) (.slice none 0 0)
      have HB : Hid (Below w.heap.size w WF) := B2.trans (hwF.below (by omega) (by omega))
      clear hwF
      go_wp2
      rw [hWF.out]
      obtain ⟨q0, q1, q2, _, _, _⟩ := bF.three
      exact bodyPost_ret (v := .tuple #[.agg #[.int .i64 0, .slice none 0 0, .slice none 0 0], .bool false]) (by simp [results, Tryz.results82, go_sem, q0, q1, q2]) rfl ⟨none, 0, none, 0, noO, false, rfl, HP.out, ⟨ownI_nil _ _ _ (Nat.le_refl _), ownI_nil _ _ _ (Nat.le_refl _), fun k hk => by cases hk⟩, HB.out⟩
end Go.Proofs.YtjaojcgfgkppgaaGreatDoor

/- The walk of impl.readSlot. -/
namespace Go.Proofs.YtjaojcgfgkppgaaGreatDoor
open Go.RowKit

theorem strOf_data (sub : List Int) (j : Nat) (hb : Bytes sub) (h : j < sub.length) : (((strOf sub).data.toList.getD j 0).toNat : Int) = sub.getD j 0 := by
  have hz := hb (sub.getD j 0) (by simp [List.getD, h])
  have e : (strOf sub).data.toList.getD j 0 = UInt8.ofNat (sub.getD j 0).toNat := by
    unfold strOf
    simp [List.getD, h]
  rw [e]
  generalize sub.getD j 0 = z at *
  have : (UInt8.ofNat z.toNat).toNat = z.toNat := by simp; omega
  rw [this]
  omega
theorem strOf_len (sub : List Int) : (strOf sub).size = sub.length := by simp [strOf, ByteArray.size]

/-- The bytes of a text, in a row of their own. -/
theorem bytes_of_text (w : World) (sub : List Int) (hb : Bytes sub) :
    ∃ W c, (convert 9 22 (.string (strOf sub))).run Tryz.prog w = .ok (.slice (some ⟨w.heap.size, 0, none⟩) sub.length c) W ∧ Reads W (some ⟨w.heap.size, 0, none⟩) sub ∧ sub.length ≤ c ∧ Below w.heap.size w W := by
  have h := Lib.run_convert_string_bytes (P := Tryz.prog) w 9 22 5 (strOf sub) Tryz.underlying9 Tryz.underlying22 Tryz.underlying5
  rw [strOf_len] at h
  refine ⟨_, _, h, ⟨hb, fun hne => ⟨w.heap.size, 0, rfl, fun i hi => ?_⟩⟩, ?_, ?_⟩
  · rw [Nat.zero_add, Lib.bytesWorld_cell w 5 (strOf sub) i (by rw [strOf_len]; exact hi), strOf_data sub i hb hi]
  · exact grownCap_ge _ _ _ _
  · exact ⟨rfl, rfl, rfl, by rw [Lib.bytesWorld_size]; omega, fun k hk => Lib.bytesWorld_at_old w _ _ k hk⟩

/-- What readSlot answers. -/
def SlotAns (w' : World) (lo : Nat) (x : Option (SlotV × Nat)) (e : Ending) : Prop := match x with
  | some (s, q) => ∃ t : SlotA, e = .returned (.tuple #[.agg t.cells.toArray, .int .i64 (q : Nat), .bool true]) ∧ t.v = s ∧ t.own w' lo w'.heap.size
  | none => e = .returned (.tuple #[.agg zeroS.cells.toArray, .int .i64 0, .bool false])
theorem slotAns_none {w' : World} {lo : Nat} {x : Option (SlotV × Nat)} (h : x = none) : SlotAns w' lo x (.returned (.tuple #[.agg #[.bool false, .int .i64 0, .slice none 0 0, .slice none 0 0], .int .i64 0, .bool false])) := by subst h; rfl
theorem slotAns_some {w' : World} {lo : Nat} {x : Option (SlotV × Nat)} {s : SlotV} {q : Nat} (h : x = some (s, q)) (t : SlotA) (hv : t.v = s) (ho : t.own w' lo w'.heap.size) : SlotAns w' lo x (.returned (.tuple #[.agg t.cells.toArray, .int .i64 (q : Nat), .bool true])) := by subst h; exact ⟨t, rfl, hv, ho⟩

theorem slotAt_none {zs : List Int} {p : Nat} (h : getAt zs (p : Int) = none) : slotAt zs p = none := by unfold slotAt; rw [h]
theorem slotAt_out {zs : List Int} {p q : Nat} {n : Int} (h : getAt zs (p : Int) = some (n, q)) (hn : n < 0 ∨ (zs.length : Int) - (q : Int) < n) : slotAt zs p = none := by unfold slotAt; rw [h]; simp only; rw [if_pos hn]
theorem slotAt_zero {zs : List Int} {p q : Nat} (h : getAt zs (p : Int) = some (0, q)) (hq : q ≤ zs.length) : slotAt zs p = some (noS, q) := by unfold slotAt; rw [h]; simp only; rw [if_neg (by omega), if_pos trivial]
theorem slotAt_in {zs : List Int} {p q m : Nat} (h : getAt zs (p : Int) = some ((m : Int), q)) (hm : 0 < m) (hq : q + m ≤ zs.length) : slotAt zs p = if (getPair ((zs.drop q).take m)).2 then some (⟨true, (getPair ((zs.drop q).take m)).1⟩, q + m) else none := by
  unfold slotAt; rw [h]; simp only [Int.toNat_natCast]; rw [if_neg (by omega), if_neg (by omega)]
theorem text_bad {zs : List Int} {p : Nat} (h : getAt zs (p : Int) = none ∨ ∃ n q, getAt zs (p : Int) = some (n, q) ∧ (n < 0 ∨ (zs.length : Int) - (q : Int) < n)) : textOf zs (p : Int) = .tuple #[.string ⟨#[]⟩, .int .i64 0, .bool false] := by
  unfold textOf
  rcases h with h | ⟨n, q, h, hn⟩
  · rw [h]
  · rw [h]; simp only; rw [if_neg (by omega)]
theorem text_in {zs : List Int} {p q m : Nat} (h : getAt zs (p : Int) = some ((m : Int), q)) (hq : q + m ≤ zs.length) : textOf zs (p : Int) = .tuple #[.string (strOf ((zs.drop q).take m)), .int .i64 ((q + m : Nat) : Int), .bool true] := by
  unfold textOf; rw [h]; simp only [Int.toNat_natCast]; rw [if_pos (by omega)]
  rfl

set_option maxHeartbeats 4000000 in
set_option maxRecDepth 100000 in
theorem readSlot_any (a : Option Addr) (c : Nat) (zs : List Int) (p : Nat) (w : World) (hg : ErrT w) (hr : Reads w a zs) (hl : zs.length ≤ 1099511627776) (hcap : zs.length ≤ c) :
    Calls Tryz.prog 60 #[.slice a zs.length c, .int .i64 (p : Int)] w fun e w' => SlotAns w' w.heap.size (slotAt zs p) e ∧ Below w.heap.size w w' := by
  obtain ⟨W, hW, b0, hbW, hsW⟩ := boxes1 w [.bool false, .int .i64 0, .slice none 0 0, .slice none 0 0] 27
  have CT := implGetText_any a c zs (p : Int) W (hr.below hbW) (by omega) hcap
  obtain ⟨x0, x1, x2, x3, f0, f1, f2, f3⟩ := b0.four
  have hby : Bytes zs := hr.1
  by_cases hbad : getAt zs (p : Int) = none ∨ ∃ n q, getAt zs (p : Int) = some (n, q) ∧ (n < 0 ∨ (zs.length : Int) - (q : Int) < n)
  · have HX : Hid (slotAt zs p = none) := by rcases hbad with h | ⟨n, q, h, hn⟩; exact slotAt_none h; exact slotAt_out h hn
    rw [text_bad hbad] at CT
    generalize slotAt zs p = X at *
    obtain ⟨WF, hWF, bF, hwF, hsF⟩ := box4_fill b0 (.bool false) (.int .i64 0) (.slice none 0 0) (.slice none 0 0)
    have HB : Hid (Below w.heap.size w WF) := hbW.trans (hwF.below (Nat.le_refl _) (by omega))
    clear hwF hbad
    go_enter Tryz.func60, Tryz.ntmps60
    go_wp2_with fail
    rw [hW.out]
    refine CT.mono ?_
    clear CT
    rintro e w1 ⟨rfl, rfl⟩
    go_wp2
    rw [hWF.out]
    obtain ⟨q0, q1, q2, q3, _⟩ := bF.four
    exact bodyPost_ret (v := .tuple #[.agg #[.bool false, .int .i64 0, .slice none 0 0, .slice none 0 0], .int .i64 0, .bool false]) (by simp [results, Tryz.results60, go_sem, q0, q1, q2, q3]) rfl ⟨slotAns_none HX.out, HB.out⟩
  obtain ⟨n, q, hgt, hn⟩ : ∃ n q, getAt zs (p : Int) = some (n, q) ∧ ¬ (n < 0 ∨ (zs.length : Int) - (q : Int) < n) := by
    cases h : getAt zs (p : Int) with
    | none => exact absurd (.inl h) hbad
    | some r => exact ⟨r.1, r.2, rfl, fun hn => hbad (.inr ⟨r.1, r.2, h, hn⟩)⟩
  obtain ⟨m, rfl⟩ : ∃ m : Nat, n = (m : Int) := ⟨n.toNat, by omega⟩
  have hqm : q + m ≤ zs.length := by omega
  rw [text_in hgt hqm] at CT
  by_cases hm : m = 0
  · subst hm
    have HX : Hid (slotAt zs p = some (noS, q)) := slotAt_zero hgt (by omega)
    generalize slotAt zs p = X at *
    have hse : strOf ((zs.drop q).take 0) = ⟨#[]⟩ := by simp [strOf]
    rw [hse] at CT
    simp only [Nat.add_zero] at CT
    obtain ⟨WF, hWF, bF, hwF, hsF⟩ := box4_fill b0 (.bool false) (.int .i64 0) (.slice none 0 0) (.slice none 0 0)
    have HB : Hid (Below w.heap.size w WF) := hbW.trans (hwF.below (Nat.le_refl _) (by omega))
    clear hwF hbad hse hgt hn
    go_enter Tryz.func60, Tryz.ntmps60
    go_wp2_with fail
    rw [hW.out]
    refine CT.mono ?_
    clear CT
    rintro e w1 ⟨rfl, rfl⟩
    go_wp2
    rw [hWF.out]
    obtain ⟨q0, q1, q2, q3, _⟩ := bF.four
    exact bodyPost_ret (v := .tuple #[.agg #[.bool false, .int .i64 0, .slice none 0 0, .slice none 0 0], .int .i64 (q : Nat), .bool true]) (by simp [results, Tryz.results60, go_sem, q0, q1, q2, q3]) rfl ⟨slotAns_some HX.out zeroS rfl (own_zero _ _ _ (Nat.le_refl _)), HB.out⟩
  have HX : Hid (_ = _) := slotAt_in hgt (by omega) hqm
  have hsb : Bytes ((zs.drop q).take m) := fun z hz => hby z (List.mem_of_mem_drop (List.mem_of_mem_take hz))
  have hsl : ((zs.drop q).take m).length = m := by rw [List.length_take, List.length_drop]; omega
  generalize slotAt zs p = X at *
  generalize (zs.drop q).take m = sub at *
  have HSL : Hid (_ = _) := hsl
  have hsub1 : 1 ≤ sub.length := by omega
  have hsub2 : sub.length ≤ 1099511627776 := by omega
  obtain ⟨WC, cc, hcv, hrC, hcc, hbC⟩ := bytes_of_text W sub hsb
  have hne : (strOf sub).toList.isEmpty = false := by
    have h1 : (strOf sub).toList.length = sub.length := by rw [ByteArray.toList_eq]; simp [strOf]
    cases h2 : (strOf sub).toList with
    | nil => rw [h2] at h1; simp only [List.length_nil] at h1; omega
    | cons x r => rfl
  have hsC := hbC.size
  have CG := implGetObj_any (some ⟨W.heap.size, 0, none⟩) cc sub WC ((hg.keep hbW).keep hbC) hrC (by omega) hcc
  have b0C := b0.below hbC b0.lt
  clear hbad hgt hn hsl hby
  generalize strOf sub = str at *
  go_enter Tryz.func60, Tryz.ntmps60
  go_wp2_with fail
  rw [hW.out]
  refine CT.mono ?_
  clear CT
  rintro e w1 ⟨rfl, rfl⟩
  go_wp2_with fail
  have hWe : w1.heap.size = w.heap.size + 1 := hsW
  rw [hWe] at CG
  refine CG.mono ?_
  clear CG hcv
  rintro e w2 ⟨aI, cI, aR, cR, o, ok, rfl, HGP, ho2, hb2⟩
  rw [HGP.out] at HX
  simp only at HX
  have hs2 := hb2.size
  have B2 : Below w.heap.size w w2 := (hbW.trans (hbC.mono (by omega))).trans (hb2.mono (by omega))
  have b02 := b0C.below hb2 b0C.lt
  obtain ⟨W3, hW3, b3, hb3, hs3⟩ := boxes1 w2 [.int .i64 o.kind, .slice aI o.ints.length cI, .slice aR o.refs.length cR] 25
  have b03 := b02.below hb3 b02.lt
  have ho3 := ho2.below hb3
  have B3 : Below w.heap.size w W3 := B2.trans (hb3.mono (by omega))
  have hlt3 := b03.lt
  obtain ⟨x0, x1, x2, x3, f0, f1, f2, f3⟩ := b03.four
  clear b02 b0C ho2 hb2 hbC hb3
  cases ok with
  | false =>
    have HXN : Hid (X = none) := by rw [Hid, HX.out]; simp
    obtain ⟨WF, hWF, bF, hwF, hsF⟩ := box4_fill b03 (.bool false) (.int .i64 0) (.slice none 0 0) (.slice none 0 0)
    have HB : Hid (Below w.heap.size w WF) := B3.trans (hwF.below (Nat.le_refl _) (by omega))
    have W3e := hW3.out
    rw [← W3e] at x0 x1 x2 x3 f0 f1 f2 f3 hWF
    clear hwF hW3 b03 W3e b3
    go_wp2
    rw [hWF.out]
    obtain ⟨q0, q1, q2, q3, _⟩ := bF.four
    exact bodyPost_ret (v := .tuple #[.agg #[.bool false, .int .i64 0, .slice none 0 0, .slice none 0 0], .int .i64 0, .bool false]) (by simp [results, Tryz.results60, go_sem, q0, q1, q2, q3]) rfl ⟨slotAns_none HXN.out, HB.out⟩
  | true =>
    have HXS : Hid (X = some (⟨true, o⟩, q + m)) := by rw [Hid, HX.out]; simp
    obtain ⟨WF, hWF, bF, hwF, hsF⟩ := box4_fill b03 (.bool true) (.int .i64 o.kind) (.slice aI o.ints.length cI) (.slice aR o.refs.length cR)
    have HB : Hid (Below w.heap.size w WF) := B3.trans (hwF.below (Nat.le_refl _) (by omega))
    have HOF : Hid (OwnO WF w.heap.size WF.heap.size aI cI aR cR o) := (ho3.within hwF (.inr (by omega))).widen (by omega) (by omega) (Nat.le_refl _)
    obtain ⟨z0, z1, z2, _, _, _⟩ := b3.three
    have W3e := hW3.out
    rw [← W3e] at x0 x1 x2 x3 f0 f1 f2 f3 hWF z0 z1 z2
    clear hwF hW3 b03 W3e b3 ho3
    go_wp2
    rw [hWF.out]
    obtain ⟨q0, q1, q2, q3, _⟩ := bF.four
    exact bodyPost_ret (v := .tuple #[.agg #[.bool true, .int .i64 o.kind, .slice aI o.ints.length cI, .slice aR o.refs.length cR], .int .i64 ((q + m : Nat) : Int), .bool true]) (by simp [results, Tryz.results60, go_sem, q0, q1, q2, q3]) rfl ⟨slotAns_some HXS.out ⟨⟨true, o⟩, aI, cI, aR, cR⟩ rfl HOF.out, HB.out⟩
end Go.Proofs.YtjaojcgfgkppgaaGreatDoor

/- What came in, read: a slice of numbers, an object. -/
namespace Go.Proofs.YtjaojcgfgkppgaaGreatDoor
open Go.ChangeShapes Go.WideShapes Go.ChangeAt Go.RowKit

def InI64 (z : Int) : Prop := -9223372036854775808 ≤ z ∧ z ≤ 9223372036854775807
theorem wf_i64 {z : Int} (h : (Lit.int .i64 z).wf = true) : InI64 z := by
  simp [Lit.wf, IntKind.min, IntKind.max, IntKind.signed, IntKind.bits] at h
  unfold InI64; omega

theorem some_at {α : Type} (xs : List α) (i : Nat) (h : i < xs.length) : ∃ y, xs[i]? = some y := ⟨_, List.getElem?_eq_getElem h⟩

section
variable {H : Type} {enc : TypeId × Value → H} {w : World} {base : Nat} {spare : Nat → Bool} {held : Bool}

theorem trod_ints {fuel : Nat} {cs : List Value} {x : DataW H × List MemPlace} (h : DataW.trod enc Tryz.prog w base spare held fuel 23 cs = some x) :
    ∃ (a : Option Addr) (c : Nat) (ns : List Int), cs = [.slice a ns.length c] ∧ ReadsI w a ns ∧ (a = none → c = 0) ∧ ns.length ≤ maxLen ∧ ∀ z ∈ ns, InI64 z := by
  rcases open_ints Tryz.underlying23 Tryz.underlying3 (by kernel_rfl) h with ⟨rfl, _⟩ | ⟨a, len, cap, zs, rfl, _, hl, hm, hz, _, hcell, hwf⟩
  · exact ⟨none, 0, [], rfl, fun h => absurd rfl h, fun _ => rfl, by simp, by simp⟩
  · have hlz : len ≤ zs.length := by rw [hz]; split <;> omega
    refine ⟨some a, cap, zs.take len, by simp; omega, ?_, (fun h => by cases h), by simp; omega, fun z hzz => wf_i64 (hwf z (List.mem_of_mem_take hzz))⟩
    intro hne
    have hpos := List.length_pos_iff.2 hne
    simp at hpos
    obtain ⟨b, off, spot⟩ := a
    have hc0 := hcell 0 (by omega)
    have hspot : spot = none := by simpa [Addr.add] using World.cell?_spot hc0
    subst hspot
    refine ⟨b, off, rfl, fun i hi => ?_⟩
    have hi' : i < len := by simp at hi; omega
    have := hcell i (by omega)
    have e : (List.take len zs).getD i 0 = zs.getD i 0 := by simp [List.getD, hi']
    rw [e, ← Addr_add]
    exact this

theorem trod_num {fuel : Nat} {cs : List Value} {x : DataW H × List MemPlace} (h : DataW.trod enc Tryz.prog w base spare held fuel 3 cs = some x) : ∃ n : Int, cs = [.int .i64 n] ∧ InI64 n := by
  obtain ⟨n, rfl, _, hw⟩ := DataW.trod_int Tryz.underlying3 h
  exact ⟨n, rfl, wf_i64 hw⟩

theorem Tryz.cellsI : Tryz.prog.cellsOf 3 = 1 := by kernel_rfl
theorem Tryz.cellsIs : Tryz.prog.cellsOf 23 = 1 := by kernel_rfl
theorem Tryz.cellsO : Tryz.prog.cellsOf 39 = 3 := by kernel_rfl

set_option maxRecDepth 100000 in
theorem trod_obj {fuel : Nat} {cs : List Value} {x : DataW H × List MemPlace} (h : DataW.trod enc Tryz.prog w base spare held fuel 39 cs = some x) :
    ∃ (o : ObjV) (aI : Option Addr) (cI : Nat) (aR : Option Addr) (cR : Nat), cs = [.int .i64 o.kind, .slice aI o.ints.length cI, .slice aR o.refs.length cR] ∧ ReadsO w aI cI aR cR o ∧ o.ints.length ≤ maxLen ∧ o.refs.length ≤ maxLen ∧ InI64 o.kind ∧ (∀ z ∈ o.ints, InI64 z) ∧ (∀ z ∈ o.refs, InI64 z) := by
  obtain ⟨xs, n, _, _, hlen, hxl, hf⟩ := DataW.trod_struct Tryz.underlying39 h
  rw [Tryz.cellsO] at hlen
  match cs, hlen with
  | [v0, v1, v2], _ =>
    have f0 := hf 0 _ rfl
    have f1 := hf 1 _ rfl
    have f2 := hf 2 _ rfl
    obtain ⟨y0, hx0⟩ := some_at xs 0 (by rw [hxl]; decide)
    obtain ⟨y1, hx1⟩ := some_at xs 1 (by rw [hxl]; decide)
    obtain ⟨y2, hx2⟩ := some_at xs 2 (by rw [hxl]; decide)
    rw [hx0] at f0
    rw [hx1] at f1
    rw [hx2] at f2
    simp only [List.getElem_toArray, List.getElem_cons_zero, List.getElem_cons_succ, Tryz.cellsI, Tryz.cellsIs, List.drop, List.take] at f0 f1 f2
    obtain ⟨k, e0, wk⟩ := trod_num f0
    obtain ⟨aI, cI, ints, e1, hI, nI, lI, wI⟩ := trod_ints f1
    obtain ⟨aR, cR, refs, e2, hR, nR, lR, wR⟩ := trod_ints f2
    simp only [List.cons.injEq, and_true] at e0 e1 e2
    subst e0 e1 e2
    exact ⟨⟨k, ints, refs⟩, aI, cI, aR, cR, rfl, ⟨hI, hR, nI, nR⟩, lI, lR, wk, wI, wR⟩

set_option maxRecDepth 100000 in
/-- An object that came in as an argument. -/
theorem open_obj {b0 : Nat} {v : Value} {d : DataW H} {ps : List MemPlace} (hval : Value.okWide Tryz.prog w .any b0 39 v) (h : DataW.Trod enc Tryz.prog w base spare held 39 v d ps) :
    ∃ (o : ObjV) (aI : Option Addr) (cI : Nat) (aR : Option Addr) (cR : Nat), v = .agg #[.int .i64 o.kind, .slice aI o.ints.length cI, .slice aR o.refs.length cR] ∧ ReadsO w aI cI aR cR o ∧ o.ints.length ≤ maxLen ∧ o.refs.length ≤ maxLen ∧ InI64 o.kind ∧ (∀ z ∈ o.ints, InI64 z) ∧ (∀ z ∈ o.refs, InI64 z) := by
  obtain ⟨cs, rfl, hcs⟩ := okWide_struct Tryz.underlying39 hval
  obtain ⟨fuel, hf⟩ := h
  have e : (Value.agg cs).cells.toList = cs.toList := rfl
  rw [e] at hf
  obtain ⟨o, aI, cI, aR, cR, hc, rest⟩ := trod_obj hf
  refine ⟨o, aI, cI, aR, cR, ?_, rest⟩
  congr 1
  apply Array.toList_inj.1
  rw [hc]
end
end Go.Proofs.YtjaojcgfgkppgaaGreatDoor

/- What came in, read: a slot, a page. -/
namespace Go.Proofs.YtjaojcgfgkppgaaGreatDoor
open Go.ChangeShapes Go.WideShapes Go.ChangeAt Go.RowKit

/-- A slot as it came in: its lists are read, its numbers are 64-bit numbers. -/
structure InSlot (w : World) (s : SlotA) : Prop where
  reads : s.reads w
  lI : s.v.o.ints.length ≤ maxLen
  lR : s.v.o.refs.length ≤ maxLen
  kind : InI64 s.v.o.kind
  ints : ∀ z ∈ s.v.o.ints, InI64 z
  refs : ∀ z ∈ s.v.o.refs, InI64 z

section
variable {H : Type} {enc : TypeId × Value → H} {w : World} {base : Nat} {spare : Nat → Bool} {held : Bool}

theorem Tryz.cellsB : Tryz.prog.cellsOf 4 = 1 := by kernel_rfl
theorem Tryz.cellsSl : Tryz.prog.cellsOf 41 = 4 := by kernel_rfl
theorem Tryz.cellsSl4 : Tryz.prog.cellsOf 42 = 16 := by kernel_rfl
theorem Tryz.cellsPg : Tryz.prog.cellsOf 44 = 17 := by kernel_rfl

set_option maxRecDepth 100000 in
theorem trod_slot {fuel : Nat} {cs : List Value} {x : DataW H × List MemPlace} (h : DataW.trod enc Tryz.prog w base spare held fuel 41 cs = some x) :
    ∃ s : SlotA, cs = s.cells ∧ InSlot w s := by
  obtain ⟨xs, n, _, _, hlen, hxl, hf⟩ := DataW.trod_struct Tryz.underlying41 h
  rw [Tryz.cellsSl] at hlen
  match cs, hlen with
  | [v0, v1, v2, v3], _ =>
    have f0 := hf 0 _ rfl
    have f1 := hf 1 _ rfl
    obtain ⟨y0, hx0⟩ := some_at xs 0 (by rw [hxl]; decide)
    obtain ⟨y1, hx1⟩ := some_at xs 1 (by rw [hxl]; decide)
    rw [hx0] at f0
    rw [hx1] at f1
    simp only [List.getElem_toArray, List.getElem_cons_zero, List.getElem_cons_succ, Tryz.cellsB, Tryz.cellsO, List.drop, List.take] at f0 f1
    obtain ⟨b, e0, _⟩ := DataW.trod_bool Tryz.underlying4 f0
    obtain ⟨o, aI, cI, aR, cR, e1, hr, lI, lR, wk, wI, wR⟩ := trod_obj f1
    simp only [List.cons.injEq, and_true] at e0 e1
    obtain ⟨rfl, rfl, rfl⟩ := e1
    subst e0
    exact ⟨⟨⟨b, o⟩, aI, cI, aR, cR⟩, rfl, hr, lI, lR, wk, wI, wR⟩

theorem four_of (cs : List Value) (h : cs.length = 16) (f : ∀ i, i < 4 → ∃ s : SlotA, (cs.drop (i * 4)).take 4 = s.cells ∧ InSlot w s) : ∃ ss : List SlotA, ss.length = 4 ∧ cs = cellsS ss ∧ ∀ s ∈ ss, InSlot w s := by
  obtain ⟨s0, e0, h0⟩ := f 0 (by omega)
  obtain ⟨s1, e1, h1⟩ := f 1 (by omega)
  obtain ⟨s2, e2, h2⟩ := f 2 (by omega)
  obtain ⟨s3, e3, h3⟩ := f 3 (by omega)
  refine ⟨[s0, s1, s2, s3], rfl, ?_, ?_⟩
  · simp only [cellsS, List.flatMap_cons, List.flatMap_nil, List.append_nil, ← e0, ← e1, ← e2, ← e3]
    simp only [Nat.zero_mul, Nat.one_mul, List.drop_zero]
    have d : ∀ (l : List Value) (k : Nat), l.drop k = (l.drop k).take 4 ++ l.drop (k + 4) := fun l k => by rw [← List.drop_drop, List.take_append_drop]
    have a0 := d cs 0
    have a1 := d cs 4
    have a2 := d cs 8
    have a3 := d cs 12
    rw [List.drop_zero] at a0
    have a4 : cs.drop (12 + 4) = [] := List.drop_eq_nil_of_le (by omega)
    rw [a4, List.append_nil] at a3
    simp only [show 0 + 4 = 4 from rfl, show 4 + 4 = 8 from rfl, show 8 + 4 = 12 from rfl, show 2 * 4 = 8 from rfl, show 3 * 4 = 12 from rfl] at *
    conv => lhs; rw [a0, a1, a2, a3]
  · intro s hs
    simp only [List.mem_cons, List.not_mem_nil, or_false] at hs
    rcases hs with rfl | rfl | rfl | rfl <;> assumption

set_option maxRecDepth 100000 in
theorem trod_page {fuel : Nat} {cs : List Value} {x : DataW H × List MemPlace} (h : DataW.trod enc Tryz.prog w base spare held fuel 44 cs = some x) :
    ∃ p : PageA, cs = p.cells ∧ p.ss.length = 4 ∧ InI64 p.lsn ∧ ∀ s ∈ p.ss, InSlot w s := by
  obtain ⟨xs, n, _, _, hlen, hxl, hf⟩ := DataW.trod_struct Tryz.underlying44 h
  rw [Tryz.cellsPg] at hlen
  obtain ⟨v0, r, rfl⟩ : ∃ v0 r, cs = v0 :: r := by
    cases cs with
    | nil => simp at hlen
    | cons v r => exact ⟨v, r, rfl⟩
  have hr16 : r.length = 16 := by simpa using hlen
  have f0 := hf 0 _ rfl
  have f1 := hf 1 _ rfl
  obtain ⟨y0, hx0⟩ := some_at xs 0 (by rw [hxl]; decide)
  obtain ⟨y1, hx1⟩ := some_at xs 1 (by rw [hxl]; decide)
  rw [hx0] at f0
  rw [hx1] at f1
  simp only [List.getElem_toArray, List.getElem_cons_zero, List.getElem_cons_succ, Tryz.cellsI, Tryz.cellsSl4, List.drop_zero, List.drop_succ_cons, List.take_succ_cons, List.take_zero] at f0 f1
  rw [List.take_of_length_le (by omega)] at f1
  obtain ⟨k, e0, wk⟩ := trod_num f0
  obtain ⟨ys, m, _, _, _, hyl, hg⟩ := DataW.trod_array Tryz.underlying42 f1
  obtain ⟨ss, h4, e1, hs⟩ := four_of (w := w) r hr16 (fun i hi => by
    have g := hg i hi
    obtain ⟨y, hy⟩ := some_at ys i (by omega)
    rw [hy, Tryz.cellsSl] at g
    exact trod_slot g)
  simp only [List.cons.injEq, and_true] at e0
  subst e0 e1
  exact ⟨⟨k, ss⟩, rfl, h4, wk, hs⟩

set_option maxRecDepth 100000 in
/-- A page that came in as an argument. -/
theorem open_page {b0 : Nat} {v : Value} {d : DataW H} {ps : List MemPlace} (hval : Value.okWide Tryz.prog w .any b0 44 v) (h : DataW.Trod enc Tryz.prog w base spare held 44 v d ps) :
    ∃ p : PageA, v = .agg p.cells.toArray ∧ p.ss.length = 4 ∧ InI64 p.lsn ∧ ∀ s ∈ p.ss, InSlot w s := by
  obtain ⟨cs, rfl, hcs⟩ := okWide_struct Tryz.underlying44 hval
  obtain ⟨fuel, hf⟩ := h
  have e : (Value.agg cs).cells.toList = cs.toList := rfl
  rw [e] at hf
  obtain ⟨p, hc, rest⟩ := trod_page hf
  refine ⟨p, ?_, rest⟩
  congr 1
  apply Array.toList_inj.1
  rw [hc]

set_option maxRecDepth 100000 in
/-- A slot that came in as an argument. -/
theorem open_slot {b0 : Nat} {v : Value} {d : DataW H} {ps : List MemPlace} (hval : Value.okWide Tryz.prog w .any b0 41 v) (h : DataW.Trod enc Tryz.prog w base spare held 41 v d ps) :
    ∃ s : SlotA, v = .agg s.cells.toArray ∧ InSlot w s := by
  obtain ⟨cs, rfl, hcs⟩ := okWide_struct Tryz.underlying41 hval
  obtain ⟨fuel, hf⟩ := h
  have e : (Value.agg cs).cells.toList = cs.toList := rfl
  rw [e] at hf
  obtain ⟨s, hc, rest⟩ := trod_slot hf
  refine ⟨s, ?_, rest⟩
  congr 1
  apply Array.toList_inj.1
  rw [hc]
end
end Go.Proofs.YtjaojcgfgkppgaaGreatDoor

/- What came in, read: a record. -/
namespace Go.Proofs.YtjaojcgfgkppgaaGreatDoor
open Go.ChangeShapes Go.WideShapes Go.ChangeAt Go.RowKit

/-- A record as it came in: its lists are read, its numbers are 64-bit numbers. -/
structure InRec (w : World) (r : RecA) : Prop where
  bf : InSlot w r.bf
  af : InSlot w r.af
  txs : ReadsL w r.aL r.txs
  lT : r.txs.length ≤ maxLen
  nums : InI64 r.lsn ∧ InI64 r.tx ∧ InI64 r.prev ∧ InI64 r.kind ∧ InI64 r.oid ∧ InI64 r.next
theorem InRec.reads {w : World} {r : RecA} (h : InRec w r) : r.reads w := ⟨h.bf.reads, h.af.reads, h.txs⟩

section
variable {H : Type} {enc : TypeId × Value → H} {w : World} {base : Nat} {spare : Nat → Bool} {held : Bool}

theorem Tryz.cellsLv : Tryz.prog.cellsOf 115 = 3 := by kernel_rfl
theorem Tryz.cellsLvs : Tryz.prog.cellsOf 45 = 1 := by kernel_rfl
theorem Tryz.cellsRc : Tryz.prog.cellsOf 47 = 15 := by kernel_rfl

set_option maxRecDepth 100000 in
theorem trod_live {fuel : Nat} {cs : List Value} {x : DataW H × List MemPlace} (h : DataW.trod enc Tryz.prog w base spare held fuel 115 cs = some x) : ∃ t : LiveV, cs = t.cells := by
  obtain ⟨xs, n, _, _, hlen, hxl, hf⟩ := DataW.trod_struct Tryz.underlying115 h
  rw [Tryz.cellsLv] at hlen
  match cs, hlen with
  | [v0, v1, v2], _ =>
    have f0 := hf 0 _ rfl
    have f1 := hf 1 _ rfl
    have f2 := hf 2 _ rfl
    obtain ⟨y0, hx0⟩ := some_at xs 0 (by rw [hxl]; decide)
    obtain ⟨y1, hx1⟩ := some_at xs 1 (by rw [hxl]; decide)
    obtain ⟨y2, hx2⟩ := some_at xs 2 (by rw [hxl]; decide)
    rw [hx0] at f0
    rw [hx1] at f1
    rw [hx2] at f2
    simp only [List.getElem_toArray, List.getElem_cons_zero, List.getElem_cons_succ, Tryz.cellsB, Tryz.cellsI, List.drop, List.take] at f0 f1 f2
    obtain ⟨a, e0, _⟩ := trod_num f0
    obtain ⟨b, e1, _⟩ := trod_num f1
    obtain ⟨c, e2, _⟩ := DataW.trod_bool Tryz.underlying4 f2
    simp only [List.cons.injEq, and_true] at e0 e1 e2
    subst e0 e1 e2
    exact ⟨⟨a, b, c⟩, rfl⟩

set_option maxRecDepth 100000 in
theorem trod_lives {fuel : Nat} {cs : List Value} {x : DataW H × List MemPlace} (h : DataW.trod enc Tryz.prog w base spare held fuel 45 cs = some x) :
    ∃ (a : Option Addr) (c : Nat) (ls : List LiveV), cs = [.slice a ls.length c] ∧ ReadsL w a ls ∧ ls.length ≤ maxLen := by
  rcases DataW.trod_slice Tryz.underlying45 h with ⟨rfl, _⟩ | ⟨a, len, cap, elems, rest, n, _, rfl, _, _, hl, hm, hlen, hel, _, _⟩
  · exact ⟨none, 0, [], rfl, ReadsL.nil _ _, by simp⟩
  rw [Tryz.cellsLv] at hel
  have each : ∀ i, i < len → ∃ t : LiveV, w.cells? base (a.add (i * 3)) 3 = some t.cells := by
    intro i hi
    have hy := hel i hi
    rw [List.getElem?_eq_getElem (by omega : i < elems.length), Option.bind_eq_some_iff] at hy
    obtain ⟨cs', hcs, hy'⟩ := hy
    obtain ⟨t, e⟩ := trod_live hy'
    exact ⟨t, by rw [hcs, e]⟩
  obtain ⟨f, hf⟩ : ∃ f : Nat → LiveV, ∀ i, i < len → w.cells? base (a.add (i * 3)) 3 = some (f i).cells := by
    refine ⟨fun i => if h : i < len then (each i h).choose else zeroL, fun i hi => ?_⟩
    simp only [dif_pos hi]
    exact (each i hi).choose_spec
  refine ⟨some a, cap, (List.range len).map f, by simp, ?_, by simp; omega⟩
  intro hne
  have hpos := List.length_pos_iff.2 hne
  simp only [List.length_map, List.length_range] at hpos ⊢
  obtain ⟨b, off, spot⟩ := a
  have c0 := (World.cells?_some (hf 0 hpos)).2.2 0 (by decide)
  have hspot : spot = none := by simpa [Addr.add] using World.cell?_spot c0
  subst hspot
  refine ⟨b, off, rfl, fun k hk => ?_⟩
  have e : ((List.range len).map f).getD k zeroL = f k := by simp [List.getD, hk]
  rw [e]
  have hc := (World.cells?_some (hf k hk)).2.2
  have d0 := hc 0 (by decide)
  have d1 := hc 1 (by decide)
  have d2 := hc 2 (by decide)
  simp only [Addr_add, LiveV.cells] at d0 d1 d2
  exact ⟨by simpa using d0, by simpa using d1, by simpa using d2⟩

set_option maxRecDepth 100000 in
theorem trod_rec {fuel : Nat} {cs : List Value} {x : DataW H × List MemPlace} (h : DataW.trod enc Tryz.prog w base spare held fuel 47 cs = some x) :
    ∃ r : RecA, cs = r.cells ∧ InRec w r := by
  obtain ⟨xs, n, _, _, hlen, hxl, hf⟩ := DataW.trod_struct Tryz.underlying47 h
  rw [Tryz.cellsRc] at hlen
  match cs, hlen with
  | [v0, v1, v2, v3, v4, v5, v6, v7, v8, v9, v10, v11, v12, v13, v14], _ =>
    have f0 := hf 0 _ rfl
    have f1 := hf 1 _ rfl
    have f2 := hf 2 _ rfl
    have f3 := hf 3 _ rfl
    have f4 := hf 4 _ rfl
    have f5 := hf 5 _ rfl
    have f6 := hf 6 _ rfl
    have f7 := hf 7 _ rfl
    have f8 := hf 8 _ rfl
    obtain ⟨y0, hx0⟩ := some_at xs 0 (by rw [hxl]; decide)
    rw [hx0] at f0
    obtain ⟨y1, hx1⟩ := some_at xs 1 (by rw [hxl]; decide)
    rw [hx1] at f1
    obtain ⟨y2, hx2⟩ := some_at xs 2 (by rw [hxl]; decide)
    rw [hx2] at f2
    obtain ⟨y3, hx3⟩ := some_at xs 3 (by rw [hxl]; decide)
    rw [hx3] at f3
    obtain ⟨y4, hx4⟩ := some_at xs 4 (by rw [hxl]; decide)
    rw [hx4] at f4
    obtain ⟨y5, hx5⟩ := some_at xs 5 (by rw [hxl]; decide)
    rw [hx5] at f5
    obtain ⟨y6, hx6⟩ := some_at xs 6 (by rw [hxl]; decide)
    rw [hx6] at f6
    obtain ⟨y7, hx7⟩ := some_at xs 7 (by rw [hxl]; decide)
    rw [hx7] at f7
    obtain ⟨y8, hx8⟩ := some_at xs 8 (by rw [hxl]; decide)
    rw [hx8] at f8
    simp only [List.getElem_toArray, List.getElem_cons_zero, List.getElem_cons_succ, Tryz.cellsI, Tryz.cellsSl, Tryz.cellsLvs, List.drop, List.take] at f0 f1 f2 f3 f4 f5 f6 f7 f8
    obtain ⟨n0, e0, w0⟩ := trod_num f0
    obtain ⟨n1, e1, w1⟩ := trod_num f1
    obtain ⟨n2, e2, w2⟩ := trod_num f2
    obtain ⟨n3, e3, w3⟩ := trod_num f3
    obtain ⟨n4, e4, w4⟩ := trod_num f4
    obtain ⟨n5, e5, w5⟩ := trod_num f7
    obtain ⟨s, e6, hs⟩ := trod_slot f5
    obtain ⟨u, e7, hu⟩ := trod_slot f6
    obtain ⟨aL, cL, ls, e8, hL, lL⟩ := trod_lives f8
    simp only [SlotA.cells, List.cons.injEq, and_true] at e0 e1 e2 e3 e4 e5 e6 e7 e8
    obtain ⟨g0, g1, g2, g3⟩ := e6
    obtain ⟨k0, k1, k2, k3⟩ := e7
    subst e0 e1 e2 e3 e4 e5 e8 g0 g1 g2 g3 k0 k1 k2 k3
    exact ⟨⟨n0, n1, n2, n3, n4, s, u, n5, ls, aL, cL⟩, rfl, hs, hu, hL, lL, w0, w1, w2, w3, w4, w5⟩

set_option maxRecDepth 100000 in
/-- A record that came in as an argument. -/
theorem open_rec {b0 : Nat} {v : Value} {d : DataW H} {ps : List MemPlace} (hval : Value.okWide Tryz.prog w .any b0 47 v) (h : DataW.Trod enc Tryz.prog w base spare held 47 v d ps) :
    ∃ r : RecA, v = .agg r.cells.toArray ∧ InRec w r := by
  obtain ⟨cs, rfl, hcs⟩ := okWide_struct Tryz.underlying47 hval
  obtain ⟨fuel, hf⟩ := h
  have e : (Value.agg cs).cells.toList = cs.toList := rfl
  rw [e] at hf
  obtain ⟨r, hc, rest⟩ := trod_rec hf
  refine ⟨r, ?_, rest⟩
  congr 1
  apply Array.toList_inj.1
  rw [hc]
end
end Go.Proofs.YtjaojcgfgkppgaaGreatDoor

/- What the laws of records share. -/
namespace Go.Proofs.YtjaojcgfgkppgaaGreatDoor
open Go.RowKit

def zeroR : RecA := ⟨0, 0, 0, 0, 0, zeroS, zeroS, 0, [], none, 0⟩
theorem short_of {r t : RecA} {m : Nat} (h : t.v = r.v) (hl : r.short m) : t.short m := by
  simp only [RecA.v, RecV.mk.injEq] at h
  obtain ⟨_, _, _, _, _, h1, h2, _, h3⟩ := h
  exact ⟨by rw [h1]; exact hl.bf, by rw [h2]; exact hl.af, by rw [h3]; exact hl.txs⟩
theorem short_wide {r : RecA} (hl : r.short 1048576) : r.short 1099511627776 := ⟨by have := hl.bf; omega, by have := hl.af; omega, by have := hl.txs; omega⟩
theorem InRec.short {w : World} {r : RecA} (h : InRec w r) : r.short 9223372036854775807 := by
  have h1 := h.bf.lI
  have h2 := h.bf.lR
  have h3 := h.af.lI
  have h4 := h.af.lR
  have h5 := h.lT
  simp only [maxLen] at h1 h2 h3 h4 h5
  exact ⟨by omega, by omega, by omega⟩
theorem RecA.own.blocks_lt {w : World} {lo hi : Nat} {r : RecA} (h : r.own w lo hi) : ∀ k ∈ r.blocks, lo ≤ k ∧ k < hi := by
  intro k hk
  simp only [RecA.blocks, List.mem_append, Option.mem_toList] at hk
  rcases hk with h1 | h1 | h1
  · exact SlotA.blocks_lt h.bf k h1
  · exact SlotA.blocks_lt h.af k h1
  · exact h.txs.lt k h1
theorem toRec_law (r : RecA) (w : World) (hr : r.reads w) (hl : r.short 1048576) :
    Calls Tryz.prog 17 #[.agg r.cells.toArray] w fun e w' => ∃ t : RecA, e = .returned (.agg t.cells.toArray) ∧ Hid (t.v = r.v) ∧ t.own w' w.heap.size w'.heap.size ∧ Below w.heap.size w w' :=
  toRec_own r w hr (short_wide hl).bf (short_wide hl).af (short_wide hl).txs
theorem putRec_len (r : RecV) : (putRecOf r).length ≤ 100000 := by
  unfold putRecOf
  split
  · rename_i h
    have h0 := okR_txs h
    have h1 := flatN_len (headR r)
    have h2 := putSlot_len r.bf
    have h3 := putSlot_len r.af
    have h4 := (putOf_len (r.txs.length : Int)).2
    have h5 := flatL_len r.txs
    have h6 : (headR r).length = 6 := rfl
    simp only [bodyR, List.length_append]
    omega
  · simp
end Go.Proofs.YtjaojcgfgkppgaaGreatDoor
