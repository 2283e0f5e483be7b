/- The text of an object; the walks of spec.l2Join and spec.ObjText. -/
import Derived.Test.YtdibmepjbabnnacDoorTextSpec
import Derived.Test.YtdibmepjbabnnacDoorObjOkSpec
import Derived.Deep.RegionHeld3
namespace Go.Proofs.YtdibmepjbabnnacDoor
open Go.RowKit

/-- The first k numbers' texts, with commas between. -/
def joinTo (l : List Int) : Nat → List Int
  | 0 => []
  | k + 1 => (if k = 0 then [] else joinTo l k ++ [44]) ++ numText (l.getD k 0)
def joinOf (l : List Int) : List Int := joinTo l l.length
def textO (o : ObjV) : List Int := ((((numText o.kind ++ [40]) ++ joinOf o.ints) ++ [59]) ++ joinOf o.refs) ++ [41]
def textObjOf (o : ObjV) : List Int := if okB o then textO o else []

theorem num_len (z : Int) (h : -1000000000 ≤ z ∧ z ≤ 1000000000) : (numText z).length ≤ 11 := by
  unfold numText
  split
  · have := decOf_len 9 (-z).toNat (by omega)
    simp; omega
  · have := decOf_len 9 z.toNat (by omega)
    omega
theorem join_len (l : List Int) (h : ∀ z ∈ l, -1000000000 ≤ z ∧ z ≤ 1000000000) (k : Nat) (hk : k ≤ l.length) : (joinTo l k).length ≤ 12 * k := by
  induction k with
  | zero => simp [joinTo]
  | succ k ih =>
    have h1 := ih (by omega)
    have hm : l.getD k 0 ∈ l := by simp [List.getD, show k < l.length from by omega]
    have h2 := num_len _ (h _ hm)
    unfold joinTo
    split <;> simp only [List.length_append, List.length_nil, List.length_cons] <;> omega
theorem join_step0 (l : List Int) : joinTo l 1 = numText (l.getD 0 0) := by simp [joinTo]
theorem join_step (l : List Int) (k : Nat) (h : 0 < k) : joinTo l (k + 1) = (joinTo l k ++ [44]) ++ numText (l.getD k 0) := by
  rw [joinTo, if_neg (by omega)]

theorem strOf_nil : strOf [] = ⟨#[]⟩ := rfl
theorem strOf_44 : strOf [44] = ⟨#[44]⟩ := rfl

set_option maxHeartbeats 1000000 in
set_option maxRecDepth 100000 in
theorem l2Join_any (a : Option Addr) (c : Nat) (l : List Int) (w : World) (hr : ReadsI w a l) (hl : l.length ≤ 1000) (hz : ∀ z ∈ l, -1000000000 ≤ z ∧ z ≤ 1000000000) :
    Calls Tryd.prog 32 #[.slice a l.length c] w fun e w' => e = .returned (.string (strOf (joinOf l))) ∧ Below w.heap.size w w' := by
  have HJ : Hid (joinOf l = joinTo l l.length) := rfl
  go_enter Tryd.func32, Tryd.ntmps32
  go_wp2
  go_loopw [3, 4] (fun s i wr => ∃ (S : ByteArray) (k : Nat), s = .string S ∧ i = .int .i64 k ∧ k ≤ l.length ∧ S.size ≤ 12 * k ∧ Hid (S = strOf (joinTo l k)) ∧ Below w.heap.size w wr) (fun _ i _ => l.length - (intOf i).toNat)
  case atStart => exact ⟨⟨#[]⟩, 0, rfl, rfl, by omega, by simp [ByteArray.size], rfl, Below.refl _ _⟩
  case round =>
    obtain ⟨S, k, rfl, rfl, hk, hsz, hS, hb⟩ := hrel
    by_cases hlt : k < l.length
    · have hr' := hr.below hb
      have hm : l.getD k 0 ∈ l := by simp [List.getD, hlt]
      have hbz := hz _ hm
      have hn := num_len _ hbz
      have hj := join_len l hz (k + 1) hlt
      rcases hr'.cases with rfl | ⟨b, off, rfl, hpos, hcell⟩
      · simp at hlt
      have hc := hcell k hlt
      clear hcell
      have htx := l2Text_any (l.getD k 0) wr hbz
      have HN : Hid (strOf (joinTo l (k + 1)) = strOf (joinTo l (k + 1))) := rfl
      by_cases h0 : 0 < k
      · have HE : Hid (strOf (joinTo l (k + 1)) = (S ++ ⟨#[44]⟩) ++ strOf (numText (l.getD k 0))) := by
          rw [Hid, join_step l k h0, strOf_append, strOf_append, hS.out, strOf_44]
        have hns : (strOf (numText (l.getD k 0))).size ≤ 11 := by rw [strOf_size]; exact hn
        have hes : (strOf (joinTo l (k + 1))).size ≤ 12 * (k + 1) := by rw [strOf_size]; exact hj
        generalize strOf (numText (l.getD k 0)) = T at *
        generalize l.getD k 0 = z at *
        go_wp2_with fail
        refine htx.mono ?_
        rintro e w2 ⟨rfl, hb2⟩
        go_wp2
        go_roundw
        case rel => exact ⟨(S ++ ⟨#[44]⟩) ++ T, k + 1, rfl, by go_num, by omega, by rw [← HE.out]; exact hes, HE.out.symm, hb.trans (hb2.mono hb.size)⟩
        case measure => simp [intOf]; omega
      · have hk0 : k < 1 := by omega
        have HE : Hid (strOf (joinTo l (k + 1)) = S ++ strOf (numText (l.getD k 0))) := by
          have e : k = 0 := by omega
          have hS' := hS.out
          rw [e] at hS' ⊢
          rw [Hid, join_step0, hS', ← strOf_append]
          rfl
        have hns : (strOf (numText (l.getD k 0))).size ≤ 11 := by rw [strOf_size]; exact hn
        have hes : (strOf (joinTo l (k + 1))).size ≤ 12 * (k + 1) := by rw [strOf_size]; exact hj
        generalize strOf (numText (l.getD k 0)) = T at *
        generalize l.getD k 0 = z at *
        go_wp2_with fail
        refine htx.mono ?_
        rintro e w2 ⟨rfl, hb2⟩
        go_wp2
        go_roundw
        case rel => exact ⟨S ++ T, k + 1, rfl, by go_num, by omega, by rw [← HE.out]; exact hes, HE.out.symm, hb.trans (hb2.mono hb.size)⟩
        case measure => simp [intOf]; omega
    · have HE : Hid (S = strOf (joinOf l)) := by rw [Hid, hS.out, HJ.out, show k = l.length from by omega]
      go_wp2
      go_ret
      exact ⟨by rw [← HE.out]; rfl, hb⟩

theorem okB_nums {o : ObjV} (h : okB o = true) : (-1000000000 ≤ o.kind ∧ o.kind ≤ 1000000000) ∧ o.ints.length ≤ 5 ∧ o.refs.length ≤ 5 ∧ (∀ z ∈ o.ints, -1000000000 ≤ z ∧ z ≤ 1000000000) ∧ (∀ z ∈ o.refs, -1000000000 ≤ z ∧ z ≤ 1000000000) := by
  simp [okB, inB] at h
  exact ⟨by omega, h.2.1, h.2.2.1, fun z hz => by have := h.2.2.2.1 z hz; omega, fun z hz => by have := h.2.2.2.2 z hz; omega⟩

set_option maxHeartbeats 1000000 in
set_option maxRecDepth 100000 in
theorem specObjText_any (o : ObjV) (aI : Option Addr) (cI : Nat) (aR : Option Addr) (cR : Nat) (w : World) (hr : ReadsO w aI cI aR cR o) (hnI : o.ints.length ≤ 140737488355328) (hnR : o.refs.length ≤ 140737488355328) :
    Calls Tryd.prog 15 #[.agg #[.int .i64 o.kind, .slice aI o.ints.length cI, .slice aR o.refs.length cR]] w fun e w' => e = .returned (.string (strOf (textObjOf o))) ∧ Below w.heap.size w w' := by
  have hok := fun w' (h : ReadsO w' aI cI aR cR o) => specObjOk_any o aI cI aR cR w' h hnI hnR
  have HPT : Hid (okB o = true → textObjOf o = textO o) := fun h => by unfold textObjOf; rw [if_pos h]
  have HPF : Hid (okB o = false → strOf (textObjOf o) = ⟨#[]⟩) := fun h => by unfold textObjOf; rw [if_neg (by rw [h]; decide)]; rfl
  have HLN : Hid (okB o = true → _) := fun h => okB_nums h
  have hcs : okB o = true ∨ okB o = false := by cases okB o <;> simp
  obtain ⟨k, ints, refs⟩ := o
  have hr' := hr
  obtain ⟨hI, hR, _, _⟩ := hr
  simp only at *
  obtain ⟨W, hW, b0, hbW, hsW⟩ := boxes1 w [.int .i64 k, .slice aI ints.length cI, .slice aR refs.length cR] 25
  go_enter Tryd.func15, Tryd.ntmps15
  go_wp2_with fail
  rw [hW.out]
  refine (hok W (hr'.below hbW)).mono ?_
  rintro e w1 ⟨rfl, hb1⟩
  have hbw1 : Below w.heap.size w w1 := hbW.trans (hb1.mono hbW.size)
  have b1 := b0.below hb1 b0.lt
  rcases hcs with hB | hB
  · obtain ⟨hkb, h5, h6, hzI, hzR⟩ := HLN.out hB
    have HP : Hid (strOf (textObjOf ⟨k, ints, refs⟩) = ((((strOf (numText k) ++ ⟨#[40]⟩) ++ strOf (joinOf ints)) ++ ⟨#[59]⟩) ++ strOf (joinOf refs)) ++ ⟨#[41]⟩) := by
      rw [Hid, HPT.out hB]
      simp only [textO, strOf_append]
      rfl
    have hs1 : (strOf (numText k)).size ≤ 11 := by rw [strOf_size]; exact num_len k hkb
    have hs2 : (strOf (joinOf ints)).size ≤ 60 := by rw [strOf_size]; have := join_len ints hzI ints.length (Nat.le_refl _); unfold joinOf; omega
    have hs3 : (strOf (joinOf refs)).size ≤ 60 := by rw [strOf_size]; have := join_len refs hzR refs.length (Nat.le_refl _); unfold joinOf; omega
    have hK := fun w' => l2Text_any k w' hkb
    have hJI := fun w' (h : ReadsI w' aI ints) => l2Join_any aI cI ints w' h (by omega) hzI
    have hJR := fun w' (h : ReadsI w' aR refs) => l2Join_any aR cR refs w' h (by omega) hzR
    rw [hB]
    clear hB hok HPT HPF HLN
    generalize strOf (numText k) = SK at *
    generalize strOf (joinOf ints) = SI at *
    generalize strOf (joinOf refs) = SR at *
    have hlt1 := b1.lt
    have hkeep : ∀ w', Below w1.heap.size w1 w' → w'.cell? ⟨w.heap.size, 0, none⟩ = some (.int .i64 k) ∧ w'.cell? ⟨w.heap.size, 1, none⟩ = some (.slice aI ints.length cI) ∧ w'.cell? ⟨w.heap.size, 2, none⟩ = some (.slice aR refs.length cR) :=
      fun w' hh => ⟨(b1.below hh hlt1).cell 0 _ rfl, (b1.below hh hlt1).cell 1 _ rfl, (b1.below hh hlt1).cell 2 _ rfl⟩
    have c1 : SK.size + 1 ≤ 9223372036854775807 := by omega
    have c2 : SK.size + 1 + SI.size ≤ 9223372036854775807 := by omega
    have c3 : SK.size + 1 + SI.size + 1 ≤ 9223372036854775807 := by omega
    have c4 : SK.size + 1 + SI.size + 1 + SR.size ≤ 9223372036854775807 := by omega
    have c5 : SK.size + 1 + SI.size + 1 + SR.size + 1 ≤ 9223372036854775807 := by omega
    have n1 : ¬ 9223372036854775807 < SK.size + 1 := by omega
    have n2 : ¬ 9223372036854775807 < SK.size + 1 + SI.size := by omega
    have n3 : ¬ 9223372036854775807 < SK.size + 1 + SI.size + 1 := by omega
    have n4 : ¬ 9223372036854775807 < SK.size + 1 + SI.size + 1 + SR.size := by omega
    have n5 : ¬ 9223372036854775807 < SK.size + 1 + SI.size + 1 + SR.size + 1 := by omega
    have hh := hkeep w1 (Below.refl _ _)
    go_wp2_with fail
    go_region_held3 (fun w' => w'.cell? ⟨w.heap.size, 0, none⟩ = some (.int .i64 k) ∧ w'.cell? ⟨w.heap.size, 1, none⟩ = some (.slice aI ints.length cI) ∧ w'.cell? ⟨w.heap.size, 2, none⟩ = some (.slice aR refs.length cR))
      (first | exact hkeep _ hw4 | exact hkeep _ hw3 | exact hkeep _ hw2 | go_keep)
      (first
      | (go_at_call 31; refine (hK w1.drew).mono ?_; rintro e w2 ⟨rfl, hb2⟩; have hw2 : Below w1.heap.size w1 w2 := (Below.refl _ _).drew.trans hb2)
      | (go_at_call_of 32 (Value.slice aI ints.length cI); refine (hJI w2 (hI.below (hbw1.trans (hw2.mono hbw1.size)))).mono ?_; rintro e w3 ⟨rfl, hb3⟩; have hw3 : Below w1.heap.size w1 w3 := hw2.trans (hb3.mono hw2.size))
      | (go_at_call_of 32 (Value.slice aR refs.length cR); refine (hJR w3 (hR.below (hbw1.trans (hw3.mono hbw1.size)))).mono ?_; rintro e w4 ⟨rfl, hb4⟩; have hw4 : Below w1.heap.size w1 w4 := hw3.trans (hb4.mono hw3.size)))
    go_wp2
    go_ret
    exact ⟨by rw [HP.out]; rfl, hbw1.trans (hw4.mono hbw1.size)⟩
  · have HP : Hid (_ = _) := HPF.out hB
    rw [hB]
    clear hB hok
    go_wp2
    go_ret
    exact ⟨by rw [HP.out]; rfl, hbw1⟩
end Go.Proofs.YtdibmepjbabnnacDoor
