/- The walks of impl.putParts and impl.PutObj. -/
import Derived.Test.YtdibmepjbabnnabDoorPutObjSpec
import Derived.Test.YtdibmepjbabnnabDoorPutInts
import Derived.Test.YtdibmepjbabnnabDoorObjOk
namespace Go.Proofs.YtdibmepjbabnnabDoor
open Go.RowKit

set_option maxHeartbeats 400000 in
set_option maxRecDepth 100000 in
theorem putParts_any (a : Option Addr) (c : Nat) (xs : List Int) (aL : Option Addr) (cL : Nat) (l : List Int) (w : World) (hr : Reads w a xs) (hc : a = none → c = 0) (hL : ReadsI w aL l) (hx : xs.length ≤ 1000000) (hl : l.length ≤ 1000) :
    Calls Tryd.prog 24 #[.slice a xs.length c, .slice aL l.length cL] w fun e w' => ∃ a' c' ys, e = .returned (.slice a' ys.length c') ∧ Hid (ys = xs ++ putList l) ∧ OwnB w' w.heap.size a' c' ys ∧ Below w.heap.size w w' := by
  have HC : Hid (a = none → c = 0) := hc
  clear hc
  have hbA : Below w.heap.size w (w.alloc (.cells #[.int .i64 (l.length : Int)] 3)) := (Below.refl _ _).alloc (Nat.le_refl _) _
  go_enter Tryd.func24, Tryd.ntmps24
  go_wp2_with fail
  refine (putInts_any a c xs _ _ [(l.length : Int)] _ (hr.alloc _) HC.out (readsI_one w l.length _) (by simp; omega)).mono ?_
  rintro e w1 ⟨a1, c1, y1, rfl, hy1, ho1, hb1⟩
  have HY1 : Hid (y1 = xs ++ putOf l.length) := by rw [Hid, hy1]; simp
  have hl1 : y1.length ≤ 1000065 := by have := (putOf_len l.length).2; rw [HY1.out, List.length_append]; omega
  have hb1' : Below w.heap.size w w1 := hbA.trans (hb1.mono hbA.size)
  have ho1' := ho1.base hbA.size
  clear hy1 hb1 ho1 hbA
  go_wp2_with fail
  refine (putInts_any a1 c1 y1 aL cL l w1 ho1'.reads ho1'.nocap (hL.below hb1') (by omega)).mono ?_
  rintro e w2 ⟨a2, c2, y2, rfl, hy2, ho2, hb2⟩
  have HY2 : Hid (y2 = xs ++ putList l) := by rw [Hid, hy2, HY1.out]; simp [putList]
  clear hy2
  go_wp2
  go_ret
  exact ⟨a2, c2, y2, rfl, HY2, ho2.base hb1'.size, hb1'.trans (hb2.mono hb1'.size)⟩

set_option maxHeartbeats 1000000 in
set_option maxRecDepth 100000 in
theorem implPutObj_any (o : ObjV) (aI : Option Addr) (cI : Nat) (aR : Option Addr) (cR : Nat) (w : World) (hg : ErrT w) (hr : ReadsO w aI cI aR cR o) (hnI : o.ints.length ≤ 140737488355328) (hnR : o.refs.length ≤ 140737488355328) :
    Calls Tryd.prog 11 #[.agg #[.int .i64 o.kind, .slice aI o.ints.length cI, .slice aR o.refs.length cR]] w fun e w' => ∃ a' c' ys, e = .returned (.slice a' ys.length c') ∧ Hid (ys = putObjOf o) ∧ OwnB w' w.heap.size a' c' ys ∧ Below w.heap.size w w' := by
  have hok := fun w' (g : ErrT w') (h : ReadsO w' aI cI aR cR o) => implObjOk_any o aI cI aR cR w' g h hnI hnR
  have HPT : Hid (okB o = true → putObjOf o = (putOf o.kind ++ putList o.ints) ++ putList o.refs) := fun h => by unfold putObjOf; rw [if_pos h]
  have HPF : Hid (okB o = false → putObjOf o = []) := fun h => by unfold putObjOf; rw [if_neg (by rw [h]; decide)]
  have HLN : Hid (okB o = true → o.ints.length ≤ 5 ∧ o.refs.length ≤ 5) := fun h => by simp [okB] at h; exact ⟨h.2.1, h.2.2.1⟩
  have hcs : okB o = true ∨ okB o = false := by cases okB o <;> simp
  generalize hP : putObjOf o = P at *
  clear hP
  obtain ⟨k, ints, refs⟩ := o
  have hr' := hr
  obtain ⟨hI, hR, _, _⟩ := hr
  simp only at *
  obtain ⟨W, hW, b0, hbW, hsW⟩ := boxes1 w [.int .i64 k, .slice aI ints.length cI, .slice aR refs.length cR] 27
  go_enter Tryd.func11, Tryd.ntmps11
  go_wp2_with fail
  rw [hW.out]
  refine (hok W (hg.keep hbW) (hr'.below hbW)).mono ?_
  rintro e w1 ⟨rfl, hb1⟩
  have hbw1 : Below w.heap.size w w1 := hbW.trans (hb1.mono hbW.size)
  have b1 := b0.below hb1 b0.lt
  have x0 := b1.cell 0 _ rfl
  have x1 := b1.cell 1 _ rfl
  have x2 := b1.cell 2 _ rfl
  rcases hcs with hB | hB
  · have HP : Hid (_ = _) := HPT.out hB
    obtain ⟨h5, h6⟩ := HLN.out hB
    rw [hB]
    clear hB hok
    have hL1 := (putOf_len k).2
    have HL2 : Hid (_ ≤ _) := putList_len ints
    have hlt1 := b1.lt
    have hkeep : ∀ w', Below w1.heap.size w1 w' → w'.cell? ⟨w.heap.size, 0, none⟩ = some (.int .i64 k) ∧ w'.cell? ⟨w.heap.size, 1, none⟩ = some (.slice aI ints.length cI) ∧ w'.cell? ⟨w.heap.size, 2, none⟩ = some (.slice aR refs.length cR) :=
      fun w' hh => ⟨(b1.below hh hlt1).cell 0 _ rfl, (b1.below hh hlt1).cell 1 _ rfl, (b1.below hh hlt1).cell 2 _ rfl⟩
    have hbA : Below w1.heap.size w1 (w1.alloc (.cells #[.int .i64 k] 3)).drew := ((Below.refl _ _).alloc (Nat.le_refl _) _).drew
    have hrA : ReadsI (w1.alloc (.cells #[.int .i64 k] 3)).drew (some ⟨w1.heap.size, 0, none⟩) [k] := (readsI_one w1 k _).below (Below.refl _ _).drew
    go_wp2_with fail
    go_region_held3 (fun w' => w'.cell? ⟨w.heap.size, 0, none⟩ = some (.int .i64 k) ∧ w'.cell? ⟨w.heap.size, 1, none⟩ = some (.slice aI ints.length cI) ∧ w'.cell? ⟨w.heap.size, 2, none⟩ = some (.slice aR refs.length cR))
      (first | exact hkeep _ ((Below.refl _ _).alloc (Nat.le_refl _) _).drew | exact hkeep _ ((Below.refl _ _).alloc (Nat.le_refl _) _) | exact hkeep _ hw4 | exact hkeep _ hw3 | exact hkeep _ hw2 | go_keep)
      (first
      | (go_at_call 25; refine (putInts_any none 0 [] _ _ [k] _ ⟨by simp, by simp⟩ (fun _ => rfl) hrA (by simp)).mono ?_; rintro e w2 ⟨a2, c2, y2, rfl, hy2, ho2, hb2⟩; have hw2 : Below w1.heap.size w1 w2 := hbA.trans (hb2.mono hbA.size); have HY2 : Hid (y2 = [] ++ putOf k) := (by rw [Hid, hy2]; simp); have hl2 : y2.length ≤ 65 := (by rw [HY2.out]; simp; omega); clear hy2)
      | (go_at_call_of 24 (Value.slice a2 y2.length c2); refine (putParts_any a2 c2 y2 aI cI ints w2 ho2.reads ho2.nocap (hI.below (hbw1.trans (hw2.mono hbw1.size))) (by omega) (by omega)).mono ?_; rintro e w3 ⟨a3, c3, y3, rfl, HY3, ho3, hb3⟩; have hw3 : Below w1.heap.size w1 w3 := hw2.trans (hb3.mono hw2.size); have hl3 : y3.length ≤ 1000 := (by have := HL2.out; rw [HY3.out, List.length_append]; omega))
      | (go_at_call_of 24 (Value.slice a3 y3.length c3); refine (putParts_any a3 c3 y3 aR cR refs w3 ho3.reads ho3.nocap (hR.below (hbw1.trans (hw3.mono hbw1.size))) (by omega) (by omega)).mono ?_; rintro e w4 ⟨a4, c4, y4, rfl, HY4, ho4, hb4⟩; have hw4 : Below w1.heap.size w1 w4 := hw3.trans (hb4.mono hw3.size)))
    go_wp2
    go_ret
    exact ⟨a4, c4, y4, rfl, by rw [Hid, HP.out, HY4.out, HY3.out, HY2.out]; simp, ho4.base (Nat.le_trans hbw1.size hw3.size), hbw1.trans (hw4.mono hbw1.size)⟩
  · have HP : Hid (_ = _) := HPF.out hB
    rw [hB]
    clear hB hok
    go_wp2
    go_ret
    exact ⟨_, 0, [], rfl, HP.out.symm, (own_lit0 w1).base hbw1.size, hbw1.alloc hbw1.size _⟩
end Go.Proofs.YtdibmepjbabnnabDoor
