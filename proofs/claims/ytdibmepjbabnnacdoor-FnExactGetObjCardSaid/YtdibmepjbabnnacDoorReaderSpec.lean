/- The walks of spec.l2Next and spec.l2List: a reader over bytes. -/
import Derived.Test.YtdibmepjbabnnacDoorInts
import Derived.Test.YtdibmepjbabnnacDoorBox
import Derived.Test.YtdibmepjbabnnacDoorSpecGet
import Derived.Deep.QuietTactic
import Derived.BigQuiet
namespace Go.Proofs.YtdibmepjbabnnacDoor
open Go.RowKit

/-- What the next number is, and where the reader is behind it: a place, and whether it is bad. -/
def nextOf (zs : List Int) (s : Int × Bool) : Int × (Int × Bool) := match s.2, getAt zs s.1 with
  | false, some r => (r.1, ((r.2 : Int), false))
  | _, _ => (0, (s.1, true))
/-- k more numbers, as long as it is not bad. -/
def numsOf (zs : List Int) : Nat → List Int → Int × Bool → List Int × (Int × Bool)
  | 0, l, s => (l, s)
  | k + 1, l, s => if s.2 then (l, s) else numsOf zs k (l ++ [(nextOf zs s).1]) (nextOf zs s).2
def badIf (b : Bool) (s : Int × Bool) : Int × Bool := (s.1, s.2 || b)
def listOf (zs : List Int) (most : Int) (s : Int × Bool) : List Int × (Int × Bool) :=
  numsOf zs (nextOf zs s).1.toNat [] (badIf (!inB (nextOf zs s).1 0 most) (nextOf zs s).2)

/-- A reader over the bytes zs, at a slice a, lies in block B. -/
def RdAt (w : World) (B : Nat) (a : Option Addr) (c : Nat) (zs : List Int) (s : Int × Bool) : Prop := Box w B [.slice a zs.length c, .int .i64 s.1, .bool s.2] 43

theorem nextOf_bad (zs : List Int) (p : Int) : nextOf zs (p, true) = (0, (p, true)) := by simp [nextOf]
theorem nextOf_none (zs : List Int) (p : Int) (h : getAt zs p = none) : nextOf zs (p, false) = (0, (p, true)) := by simp [nextOf, h]
theorem nextOf_some (zs : List Int) (p n : Int) (k : Nat) (h : getAt zs p = some (n, k)) : nextOf zs (p, false) = (n, ((k : Int), false)) := by simp [nextOf, h]

theorem next_ret {w' : World} {B : Nat} {a : Option Addr} {c : Nat} {zs : List Int} {s : Int × Bool} {n p : Int} {b : Bool} (h : nextOf zs s = (n, (p, b))) (hb : Box w' B [.slice a zs.length c, .int .i64 p, .bool b] 43) :
    Ending.returned (.int .i64 n) = .returned (.int .i64 (nextOf zs s).1) ∧ RdAt w' B a c zs (nextOf zs s).2 := by rw [h]; exact ⟨rfl, hb⟩

set_option maxHeartbeats 1000000 in
set_option maxRecDepth 100000 in
theorem l2Next_any (B : Nat) (a : Option Addr) (c : Nat) (zs : List Int) (s : Int × Bool) (w : World) (hb : RdAt w B a c zs s) (hr : Reads w a zs) (hl : zs.length ≤ 70368744177664) :
    Calls Tryd.prog 20 #[.pointer (some ⟨B, 0, none⟩)] w fun e w' => (e = .returned (.int .i64 (nextOf zs s).1) ∧ RdAt w' B a c zs (nextOf zs s).2) ∧ Within B (B + 1) w w' := by
  obtain ⟨p, bad⟩ := s
  unfold RdAt at hb
  simp only at hb
  have x0 := hb.cell 0 _ rfl
  have x1 := hb.cell 1 _ rfl
  have x2 := hb.cell 2 _ rfl
  have f1 := hb.frozen 1
  have f2 := hb.frozen 2
  have hget := fun n => specGetInt_any a c zs p (w.drewN n) (hr.below (below_drewN (Below.refl _ _) n)) hl
  cases bad with
  | true =>
    have HN : Hid (_ = _) := nextOf_bad zs p
    cases hg : getAt zs p with
    | none =>
      rw [hg] at hget
      clear hg
      simp only [triple] at hget
      go_enter Tryd.func20, Tryd.ntmps20
      go_wp2
      go_quiet (first | (go_at_call 41; refine Calls.quiet_of_same (hget _)))
      have bS := (hb.drewN nq).set 2 (.bool true)
      simp only [List.set] at bS
      go_wp2
      go_ret
      exact ⟨next_ret HN.out bS, (Within.of_below (below_drewN (Below.refl _ _) nq)).trans (within_set _ B 2 _ (by omega))⟩
    | some r =>
      obtain ⟨n, k⟩ := r
      rw [hg] at hget
      clear hg
      simp only [triple] at hget
      go_enter Tryd.func20, Tryd.ntmps20
      go_wp2
      go_quiet (first | (go_at_call 41; refine Calls.quiet_of_same (hget _)))
      have bS := (hb.drewN nq).set 2 (.bool true)
      simp only [List.set] at bS
      go_wp2
      go_ret
      exact ⟨next_ret HN.out bS, (Within.of_below (below_drewN (Below.refl _ _) nq)).trans (within_set _ B 2 _ (by omega))⟩
  | false =>
    cases hg : getAt zs p with
    | none =>
      have HN : Hid (_ = _) := nextOf_none zs p hg
      rw [hg] at hget
      clear hg
      simp only [triple] at hget
      go_enter Tryd.func20, Tryd.ntmps20
      go_wp2
      go_quiet (first | (go_at_call 41; refine Calls.quiet_of_same (hget _)))
      have bS := (hb.drewN nq).set 2 (.bool true)
      simp only [List.set] at bS
      go_wp2
      go_ret
      exact ⟨next_ret HN.out bS, (Within.of_below (below_drewN (Below.refl _ _) nq)).trans (within_set _ B 2 _ (by omega))⟩
    | some r =>
      obtain ⟨n, k⟩ := r
      have HN : Hid (_ = _) := nextOf_some zs p n k hg
      rw [hg] at hget
      clear hg
      simp only [triple] at hget
      go_enter Tryd.func20, Tryd.ntmps20
      go_wp2
      go_quiet (first | (go_at_call 41; refine Calls.quiet_of_same (hget _)))
      have bS := (hb.drewN nq).set 1 (.int .i64 (k : Int))
      simp only [List.set] at bS
      go_wp2
      go_ret
      exact ⟨next_ret HN.out bS, (Within.of_below (below_drewN (Below.refl _ _) nq)).trans (within_set _ B 1 _ (by omega))⟩

theorem numsOf_bad (zs : List Int) (k : Nat) (l : List Int) (p : Int) : numsOf zs k l (p, true) = (l, (p, true)) := by cases k <;> simp [numsOf]
theorem numsOf_zero (zs : List Int) (l : List Int) (s : Int × Bool) : numsOf zs 0 l s = (l, s) := rfl
theorem numsOf_step (zs : List Int) (k : Nat) (l : List Int) (p : Int) : numsOf zs (k + 1) l (p, false) = numsOf zs k (l ++ [(nextOf zs (p, false)).1]) (nextOf zs (p, false)).2 := by simp [numsOf]

set_option maxHeartbeats 1000000 in
set_option maxRecDepth 100000 in
theorem l2List_any (B : Nat) (a : Option Addr) (c : Nat) (zs : List Int) (s : Int × Bool) (most : Int) (w : World) (hb : RdAt w B a c zs s) (hr : Reads w a zs) (hl : zs.length ≤ 70368744177664) (hm : most ≤ 1000) (hBr : zs ≠ [] → ∀ b off, a = some ⟨b, off, none⟩ → b ≠ B) :
    Calls Tryd.prog 21 #[.pointer (some ⟨B, 0, none⟩), .int .i64 most] w fun e w' => ∃ a' c' L, e = .returned (.slice a' L.length c') ∧ L.length ≤ 1000 ∧ Hid (L = (listOf zs most s).1) ∧ RdAt w' B a c zs (listOf zs most s).2 ∧ OwnI w' w.heap.size w'.heap.size a' c' L ∧ Within B (B + 1) w w' := by
  have HLO : Hid (listOf zs most s = numsOf zs (nextOf zs s).1.toNat [] (badIf (!inB (nextOf zs s).1 0 most) (nextOf zs s).2)) := rfl
  have hBlt := Box.lt hb
  have hkr : ∀ w', Within B (B + 1) w w' → Reads w' a zs := by
    intro w' hw
    refine ⟨hr.1, fun e => ?_⟩
    obtain ⟨b, off, ha, hc⟩ := hr.2 e
    refine ⟨b, off, ha, fun i hi => ?_⟩
    have hlt := block_lt (hc i hi)
    have hne := hBr e b off ha
    have := World.cell?_of_block (w := w) (w' := w') (a := ⟨b, off + i, none⟩) (hw.block b hlt (by omega))
    rw [this]
    exact hc i hi
  generalize hX : listOf zs most s = X at *
  clear hX
  go_enter Tryd.func21, Tryd.ntmps21
  go_wp2_with fail
  refine (l2Next_any B a c zs s w hb hr hl).mono ?_
  rintro e w1 ⟨⟨rfl, hb1⟩, hw1⟩
  generalize nextOf zs s = Y at *
  obtain ⟨n, p, bad⟩ := Y
  simp only [badIf] at *
  cases hin : inB n 0 most with
  | false =>
    have HI : Hid (_ = _) := hin
    have HX : Hid (X = ([], (p, true))) := by
      rw [Hid, HLO.out, hin]
      simp [numsOf_bad]
    clear hin
    have b1 : Box w1 B [.slice a zs.length c, .int .i64 p, .bool bad] 43 := hb1
    have f2 := b1.frozen 2
    have x2 := b1.cell 2 _ rfl
    have bS := b1.set 2 (.bool true)
    simp only [List.set] at bS
    have bT := bS.alloc (.cells #[] 3)
    have y2 := bT.cell 2 _ rfl
    have hwS : Within B (B + 1) w1 (w1.setCell ⟨B, 2, none⟩ (.bool true)) := within_set _ B 2 _ (by omega)
    have hlo := ownI_lit0 (w1.setCell ⟨B, 2, none⟩ (.bool true))
    have HH : Hid (Box ((w1.setCell ⟨B, 2, none⟩ (.bool true)).alloc (.cells #[] 3)) B [.slice a zs.length c, .int .i64 p, .bool true] 43 ∧ OwnI ((w1.setCell ⟨B, 2, none⟩ (.bool true)).alloc (.cells #[] 3)) w.heap.size ((w1.setCell ⟨B, 2, none⟩ (.bool true)).alloc (.cells #[] 3)).heap.size (some ⟨w1.heap.size, 0, none⟩) 0 [] ∧ Within B (B + 1) w ((w1.setCell ⟨B, 2, none⟩ (.bool true)).alloc (.cells #[] 3))) := by
      refine ⟨bT, ?_, (hw1.trans hwS).trans (Within.of_below ((Below.refl _ _).alloc (Nat.le_refl _) _))⟩
      have := hlo.widen (lo' := w.heap.size) (hi' := ((w1.setCell ⟨B, 2, none⟩ (.bool true)).alloc (.cells #[] 3)).heap.size) (by have := hw1.size; simp; omega) (by simp) (Nat.le_refl _)
      simpa using this
    clear bS bT hlo hwS
    go_wp2_with fail
    refine (l1In_any _ _ _ _).mono ?_
    rintro e w' ⟨rfl, rfl⟩
    rw [HI.out]
    go_wp2
    by_cases hn : 0 < n
    · refine wp_loop_rounds 1 ?_
      rw [rounds_succ]
      go_wp2
      go_ret
      obtain ⟨h1, h2, h3⟩ := HH.out
      exact ⟨_, 0, [], rfl, by simp, by rw [Hid, HX.out], by rw [HX.out]; exact h1, h2, h3⟩
    · have hd : decide ((0 : Int) < n) = false := decide_eq_false hn
      refine wp_loop_rounds 1 ?_
      rw [rounds_succ]
      go_wp2
      go_ret
      obtain ⟨h1, h2, h3⟩ := HH.out
      exact ⟨_, 0, [], rfl, by simp, by rw [Hid, HX.out], by rw [HX.out]; exact h1, h2, h3⟩
  | true =>
    have HI : Hid (_ = _) := hin
    have hnb : 0 ≤ n ∧ n ≤ most := by simpa [inB] using hin
    obtain ⟨N, rfl⟩ := Int.eq_ofNat_of_zero_le hnb.1
    have HX : Hid (X = numsOf zs N [] (p, bad)) := by
      rw [Hid, HLO.out, hin]
      simp
    clear hin HLO
    have hlo := (ownI_lit0 w1)
    go_wp2_with fail
    refine (l1In_any _ _ _ _).mono ?_
    rintro e w' ⟨rfl, rfl⟩
    rw [HI.out]
    go_wp2
    go_loopw [6, 7] (fun out i wr => ∃ (a' : Option Addr) (c' : Nat) (L : List Int) (j : Nat) (p' : Int) (bd : Bool), out = .slice a' L.length c' ∧ i = .int .i64 j ∧ j ≤ N ∧ L.length ≤ j ∧ OwnI wr w.heap.size wr.heap.size a' c' L ∧ RdAt wr B a c zs (p', bd) ∧ Hid (X = numsOf zs (N - j) L (p', bd)) ∧ Within B (B + 1) w wr) (fun _ i _ => N - (intOf i).toNat)
    case atStart => exact ⟨some ⟨w'.heap.size, 0, none⟩, 0, [], 0, p, bad, rfl, rfl, by omega, by simp, hlo.widen (by have := hw1.size; omega) (by simp) (Nat.le_refl _), Box.alloc hb1 _, HX, hw1.trans (Within.of_below ((Below.refl _ _).alloc (Nat.le_refl _) _))⟩
    case round =>
      obtain ⟨a', c', L, j, p', bd, rfl, rfl, hj, hLj, ho, hrd, hxx, hww⟩ := hrel
      have x2 := Box.cell hrd 2 _ rfl
      by_cases hlt : j < N
      · cases bd with
        | true =>
          have HE : Hid (X = (L, (p', true))) := by rw [Hid, hxx.out, numsOf_bad]
          simp only at x2
          go_wp2
          go_ret
          exact ⟨a', c', L, rfl, by omega, by rw [Hid, HE.out], by rw [HE.out]; exact hrd, ho, hww⟩
        | false =>
          simp only at x2
          have HST : Hid (X = numsOf zs (N - (j + 1)) (L ++ [(nextOf zs (p', false)).1]) (nextOf zs (p', false)).2) := by
            rw [Hid, hxx.out, show N - j = (N - (j + 1)) + 1 from by omega, numsOf_step]
          have hrx := hkr wr hww
          go_wp2_with fail
          refine (l2Next_any B a c zs (p', false) wr hrd hrx hl).mono ?_
          rintro e w2 ⟨⟨rfl, hb2⟩, hw2⟩
          generalize nextOf zs (p', false) = Z at *
          obtain ⟨m, p2, bd2⟩ := Z
          simp only at *
          have hwsz := hww.size
          have ho2 : OwnI w2 w.heap.size wr.heap.size a' c' L := ho.within hw2 (.inr (by omega))
          have ho2' := (ho2.below ((Below.refl _ _).alloc (Nat.le_refl _) (.cells #[.int .i64 m] 3)))
          have hs2 := hw2.size
          go_wp2_with (at_builtin; refine append_ints rfl _ _ rfl w.heap.size wr.heap.size a' c' L rfl ho2' _ _ [m] rfl (readsI_one w2 m _) (fun h => by cases h) (by simp; omega) (by simp; omega) ?_; intro a3 c3 y3 w3 hy3 ho3 hg3)
          go_roundw
          case rel =>
            have hwA : Within B (B + 1) w (w2.alloc (.cells #[.int .i64 m] 3)) := (hww.trans hw2).trans (Within.of_below ((Below.refl _ _).alloc (Nat.le_refl _) _))
            have hgb : ∀ k, (Value.slice a' L.length c').ownBlock = some k → w.heap.size ≤ k := fun k hk => (ho2.lt k hk).1
            have hw3 : Within B (B + 1) w w3 := ⟨hg3.os.trans hwA.os, hg3.tape.trans hwA.tape, hg3.output.trans hwA.output, Nat.le_trans hwA.size hg3.size, fun k hk hn => (hg3.block k (Nat.lt_of_lt_of_le hk hwA.size) (fun e => by have := hgb k e.symm; omega)).trans (hwA.block k hk hn)⟩
            have hbA : RdAt (w2.alloc (.cells #[.int .i64 m] 3)) B a c zs (p2, bd2) := Box.alloc hb2 _
            refine ⟨a3, c3, y3, j + 1, p2, bd2, rfl, by go_num, by omega, by rw [hy3.out]; simp; omega, ho3, Box.block hbA (hg3.block B (Box.lt hbA) (fun e => by have := hgb B e.symm; omega)), by rw [Hid, HST.out, hy3.out], hw3⟩
          case measure => simp [intOf]; omega
      · have HE : Hid (X = (L, (p', bd))) := by rw [Hid, hxx.out, show N - j = 0 from by omega, numsOf_zero]
        have hd : decide ((j : Int) < (N : Int)) = false := decide_eq_false (by omega)
        go_wp2
        go_ret
        exact ⟨a', c', L, rfl, by omega, by rw [Hid, HE.out], by rw [HE.out]; exact hrd, ho, hww⟩
end Go.Proofs.YtdibmepjbabnnacDoor
