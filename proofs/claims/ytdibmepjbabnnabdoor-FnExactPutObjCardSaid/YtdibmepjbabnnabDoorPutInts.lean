/- The walk of impl.putInts: b, and behind it the bytes of each number. -/
import Derived.Test.YtdibmepjbabnnabDoorGroups
namespace Go.Proofs.YtdibmepjbabnnabDoor
open Go.RowKit

def putTo (ns : List Int) (k : Nat) : List Int := (ns.take k).flatMap putOf
theorem putTo_succ (ns : List Int) (k : Nat) (h : k < ns.length) : putTo ns (k + 1) = putTo ns k ++ putOf (ns.getD k 0) := by
  unfold putTo
  rw [List.take_succ_eq_append_getElem h, List.flatMap_append]
  simp [List.getD, h]
theorem putTo_all (ns : List Int) (k : Nat) (h : ns.length ≤ k) : putTo ns k = ns.flatMap putOf := by
  unfold putTo; rw [List.take_of_length_le h]
theorem putTo_len (ns : List Int) (k : Nat) : (putTo ns k).length ≤ 65 * k := by
  induction k with
  | zero => simp [putTo]
  | succ k ih =>
    by_cases h : k < ns.length
    · rw [putTo_succ ns k h, List.length_append]
      have := (putOf_len (ns.getD k 0)).2
      omega
    · rw [putTo_all ns _ (by omega), ← putTo_all ns k (by omega)]
      omega

set_option maxHeartbeats 400000 in
set_option maxRecDepth 100000 in
theorem putInts_any (a : Option Addr) (c : Nat) (zs : List Int) (na : Option Addr) (nc : Nat) (ns : List Int) (w : World) (hr : Reads w a zs) (hc : a = none → c = 0) (hn : ReadsI w na ns)
    (hl : zs.length + 65 * ns.length ≤ 70368744170000) :
    Calls Tryd.prog 25 #[.slice a zs.length c, .slice na ns.length nc] w fun e w' => ∃ a' c' ys, e = .returned (.slice a' ys.length c') ∧ ys = zs ++ ns.flatMap putOf ∧ OwnB w' w.heap.size a' c' ys ∧ Below w.heap.size w w' := by
  obtain ⟨i0, hi, hz0, hz1, hz2⟩ := info_parts Tryd.infoU8
  have fin : ns = [] ∨ ∃ b off, na = some ⟨b, off, none⟩ ∧ 0 < ns.length ∧ b < w.heap.size ∧ ∀ i, i < ns.length → w.cell? ⟨b, off + i, none⟩ = some (.int .i64 (ns.getD i 0)) := by
    by_cases e : ns = []
    · exact .inl e
    · obtain ⟨b, off, h1, h2⟩ := hn e
      have hp := List.length_pos_iff.2 e
      exact .inr ⟨b, off, h1, hp, block_lt (h2 0 hp), h2⟩
  have HC : Hid (a = none → c = 0) := hc
  clear hc
  rcases fin with rfl | ⟨b, off, rfl, hpos, hbB, hcell⟩
  · go_enter Tryd.func25, Tryd.ntmps25
    go_wp2_with (first | (at_make; refine wpList_make_own _ rfl _ _ 31 rfl w.heap.size 5 i0 (.int .u8 0) 1 Tryd.underlying31 hi hz0 hz1 _ _ _ zs.length rfl rfl (by simp) (by rw [hz2]; omega) (by simp only [maxLen]; omega) (Nat.le_refl _) ?_) | fail)
    intro w0 hown0 hgrow0
    have hb0 : Below w.heap.size w w0 := (Below.refl _ _).grown hgrow0 (Nat.le_refl _) (fun k h => by cases h)
    have ho0 : OwnB w0 w.heap.size (some ⟨w.heap.size, 0, none⟩) zs.length [] := ⟨by simp, hown0⟩
    have hr0 := hr.below hb0
    have hs0 := hb0.size
    clear hown0 hgrow0 hr
    go_wp2_with (at_builtin; refine append_bytes rfl _ _ rfl w.heap.size _ _ [] rfl ho0 a c zs rfl hr0 HC.out (by simp; omega) hs0 ?_; intro a1 c1 y1 w1 hy1 ho1 hg1)
    have hb1 := hb0.grown hg1 hs0 (fun k hk => (ho0.2.lt k hk).1)
    refine wp_loop_rounds 1 ?_
    rw [rounds_succ]
    go_wp2
    go_ret
    exact ⟨a1, c1, y1, rfl, by rw [hy1.out]; simp, ho1, hb1⟩
  · go_enter Tryd.func25, Tryd.ntmps25
    go_wp2_with (first | (at_make; refine wpList_make_own _ rfl _ _ 31 rfl w.heap.size 5 i0 (.int .u8 0) 1 Tryd.underlying31 hi hz0 hz1 _ _ _ (zs.length + 6 * ns.length) rfl rfl (by omega) (by rw [hz2]; omega) (by simp only [maxLen]; omega) (Nat.le_refl _) ?_) | fail)
    intro w0 hown0 hgrow0
    have hb0 : Below w.heap.size w w0 := (Below.refl _ _).grown hgrow0 (Nat.le_refl _) (fun k h => by cases h)
    have ho0 : OwnB w0 w.heap.size (some ⟨w.heap.size, 0, none⟩) (zs.length + 6 * ns.length) [] := ⟨by simp, hown0⟩
    have hr0 := hr.below hb0
    have hs0 := hb0.size
    clear hown0 hgrow0 hr
    go_wp2_with (at_builtin; refine append_bytes rfl _ _ rfl w.heap.size _ _ [] rfl ho0 a c zs rfl hr0 HC.out (by simp; omega) hs0 ?_; intro a1 c1 y1 w1 hy1 ho1 hg1)
    have hb1 := hb0.grown hg1 hs0 (fun k hk => (ho0.2.lt k hk).1)
    clear ho0 hr0 hg1 hb0 hs0
    go_loopw [5, 20] (fun out i wr => ∃ (a' : Option Addr) (c' : Nat) (ys : List Int) (k : Nat), out = .slice a' ys.length c' ∧ i = .int .i64 k ∧ k ≤ ns.length ∧ OwnB wr w.heap.size a' c' ys ∧ Hid (ys = zs ++ putTo ns k) ∧ Below w.heap.size w wr)
      (fun _ i _ => ns.length - (intOf i).toNat)
    case atStart => exact ⟨a1, c1, y1, 0, rfl, rfl, Nat.zero_le _, ho1, by rw [Hid, hy1.out]; simp [putTo], hb1⟩
    case round =>
      obtain ⟨a', c', ys, k, rfl, rfl, hk, ho, hy, hnx⟩ := hrel
      clear ho1 hb1 hy1
      have hsz := hnx.size
      have hyl : ys.length ≤ 70368744177000 := by
        have e := congrArg List.length hy.out
        have := putTo_len ns k
        rw [List.length_append] at e
        omega
      by_cases hlt : k < ns.length
      · have hcx : wr.cell? ⟨b, off + k, none⟩ = some (.int .i64 (ns.getD k 0)) := (hnx.cell (by exact hbB)).trans (hcell k hlt)
        have HS : Hid (putTo ns (k + 1) = _) := putTo_succ ns k hlt
        have HZ := zig_le (ns.getD k 0)
        have HP : Hid (putOf (ns.getD k 0) = groups (zig (ns.getD k 0))) := rfl
        clear hcell
        generalize ns.getD k 0 = n at *
        go_wp2_with fail
        refine (foldSign_any n wr).mono ?_
        rintro e w2 ⟨rfl, rfl⟩
        go_wp2_with fail
        refine (appendGroups_any w.heap.size a' c' ys (zig n) w2 ho HZ hyl hsz).mono ?_
        rintro e w3 ⟨a3, c3, y3, rfl, hy3, ho3, hb3⟩
        have HY : Hid (y3 = zs ++ putTo ns (k + 1)) := by rw [Hid, hy3, hy.out, HS.out, HP.out, List.append_assoc]
        clear hy3
        go_wp2
        go_roundw
        case rel => exact ⟨a3, c3, y3, k + 1, rfl, by go_num, by omega, ho3, HY, hnx.trans hb3⟩
        case measure => simp [intOf]; omega
      · have HE : Hid (ys = zs ++ ns.flatMap putOf) := by rw [Hid, hy.out, putTo_all ns k (by omega)]
        go_wp2
        go_ret
        exact ⟨a', c', ys, rfl, HE.out, ho, hnx⟩
end Go.Proofs.YtdibmepjbabnnabDoor
