/- Several texts in one, in their order. -/
import Derived.Test.YtajcffchopcamaaGreatDoorPFnPathsx1
import Derived.Laws.IdiomStrings
import Derived.Lib.BufferRead
import Derived.WalkKit
import Derived.Test.YtajcffchopcamaaGreatDoorPFnPathsx2
import Derived.Deep.RegionWith
import Derived.Test.YtajcffchopcamaaGreatDoorPFnPathsx6
/- Lists looked through from the front. -/
namespace Go.Proofs.YtajcffchopcamaaGreatDoor

theorem take_step {α : Type} (ls : List α) (z : α) (k : Nat) (h : k < ls.length) : ls.take (k + 1) = ls.take k ++ [ls.getD k z] := by
  rw [List.take_succ_eq_append_getElem h]
  simp [List.getD, h]
theorem any_step {α : Type} {p : α → Bool} {ls : List α} {z : α} {k : Nat} (h : k < ls.length) (h0 : (ls.take k).any p = false) (h1 : p (ls.getD k z) = false) : (ls.take (k + 1)).any p = false := by
  rw [take_step ls z k h, List.any_append, h0, List.any_cons, h1]
  rfl
theorem any_hit {α : Type} {p : α → Bool} {ls : List α} {z : α} {k : Nat} (h : k < ls.length) (h1 : p (ls.getD k z) = true) : ls.any p = true := by
  rw [List.any_eq_true]
  exact ⟨ls.getD k z, by simp [List.getD, h], h1⟩
theorem any_end {α : Type} {p : α → Bool} {ls : List α} {k : Nat} (h : ¬ k < ls.length) (h0 : (ls.take k).any p = false) : ls.any p = false := by
  rwa [List.take_of_length_le (by omega)] at h0
theorem all_step {α : Type} {p : α → Bool} {ls : List α} {z : α} {k : Nat} (h : k < ls.length) (h0 : (ls.take k).all p = true) (h1 : p (ls.getD k z) = true) : (ls.take (k + 1)).all p = true := by
  rw [take_step ls z k h, List.all_append, h0, List.all_cons, h1]
  rfl
theorem all_hit {α : Type} {p : α → Bool} {ls : List α} {z : α} {k : Nat} (h : k < ls.length) (h1 : p (ls.getD k z) = false) : ls.all p = false := by
  rw [List.all_eq_false]
  exact ⟨ls.getD k z, by simp [List.getD, h], by rw [h1]; decide⟩
theorem all_end {α : Type} {p : α → Bool} {ls : List α} {k : Nat} (h : ¬ k < ls.length) (h0 : (ls.take k).all p = true) : ls.all p = true := by
  rwa [List.take_of_length_le (by omega)] at h0

/-- The first place of one that is so; -1, where there is none. -/
def placeZ {α : Type} (p : α → Bool) (ls : List α) : Int := match ls.findIdx? p with | some i => i | none => -1
theorem placeZ_hit {α : Type} {p : α → Bool} {ls : List α} {z : α} {k : Nat} (h : k < ls.length) (h0 : (ls.take k).any p = false) (h1 : p (ls.getD k z) = true) : placeZ p ls = k := by
  have e : ls.findIdx? p = some k := by
    rw [List.findIdx?_eq_some_iff_getElem]
    refine ⟨h, by simpa [List.getD, h] using h1, fun j hj => ?_⟩
    have := List.any_eq_false.1 h0 ls[j] (by rw [List.mem_take_iff_getElem]; exact ⟨j, by omega, rfl⟩)
    simpa using this
  rw [placeZ, e]
theorem placeZ_none {α : Type} {p : α → Bool} {ls : List α} (h : ls.any p = false) : placeZ p ls = -1 := by
  have e : ls.findIdx? p = none := by
    rw [List.findIdx?_eq_none_iff]
    intro x hx
    have := List.any_eq_false.1 h x hx
    simpa using this
  rw [placeZ, e]
theorem placeZ_end {α : Type} {p : α → Bool} {ls : List α} {k : Nat} (h : ¬ k < ls.length) (h0 : (ls.take k).any p = false) : placeZ p ls = -1 := placeZ_none (any_end h h0)
end Go.Proofs.YtajcffchopcamaaGreatDoor

/- A text of bytes. -/
namespace Go.Proofs.YtajcffchopcamaaGreatDoor
open Go.RowKit

def strOf (G : List Int) : ByteArray := ⟨(G.map fun z => UInt8.ofNat z.toNat).toArray⟩

theorem run_text (w : World) (b off cap : Nat) (G : List Int) (n : Nat) (hn : n = G.length) (hr : Reads w (some ⟨b, off, none⟩) G) :
    (convert 22 9 (.slice (some ⟨b, off, none⟩) n cap)).run Tryz.prog w = .ok (.string (strOf G)) w := by
  have h := run_convert_bytes_back (P := Tryz.prog) w 22 9 5 ⟨b, off, none⟩ cap (G.map fun z => UInt8.ofNat z.toNat) Tryz.underlying22 Tryz.underlying5 Tryz.underlying9 ?_
  · rw [List.length_map] at h
    rw [hn, h]
    rfl
  · intro j hj
    rw [List.length_map] at hj
    have hne : G ≠ [] := by intro e; simp [e] at hj
    obtain ⟨b', off', hh, hc⟩ := hr.2 hne
    cases hh
    have hadd : (⟨b, off, none⟩ : Addr).add j = ⟨b, off + j, none⟩ := by unfold Addr.add; split <;> simp_all
    rw [hadd, hc j hj]
    have hb := bytes_nat hr.1 j
    have hg : G.getD j 0 = G[j] := by simp [List.getD, hj]
    rw [hg] at hb
    simp only [List.getElem_map, hg]
    have : (UInt8.ofNat G[j].toNat).toNat = G[j].toNat := by simp; omega
    rw [this, ← hb.1]

end Go.Proofs.YtajcffchopcamaaGreatDoor

/- Plain mathematics: the digits of a number. -/
namespace Go.Proofs.YtajcffchopcamaaGreatDoor

/-- The digits of a number, in so many steps at most. -/
def decN : Nat → Nat → List Int
  | 0, n => [((48 + n : Nat) : Int)]
  | f + 1, n => if n < 10 then [((48 + n : Nat) : Int)] else decN f (n / 10) ++ [((48 + n % 10 : Nat) : Int)]
/-- The digits of a number. -/
def decOf (n : Nat) : List Int := decN n n
theorem decN_succ (f : Nat) : ∀ n, n ≤ f → decN f n = decN (f + 1) n := by
  induction f with
  | zero =>
    intro n h
    obtain rfl : n = 0 := by omega
    rfl
  | succ f ih =>
    intro n h
    unfold decN
    split
    · rfl
    · rw [ih (n / 10) (by omega)]
theorem decN_add (n d : Nat) : decN (n + d) n = decN n n := by
  induction d with
  | zero => rfl
  | succ d ih => rw [← ih, ← Nat.add_assoc, ← decN_succ (n + d) n (by omega)]
/-- A number's text, a minus ahead below 0. -/
def numText (z : Int) : List Int := if z < 0 then 45 :: decOf (-z).toNat else decOf z.toNat

theorem decOf_small (n : Nat) (h : n < 10) : decOf n = [((48 + n : Nat) : Int)] := by
  unfold decOf
  cases n with
  | zero => rfl
  | succ m => rw [decN, if_pos h]
theorem decOf_big (n : Nat) (h : ¬ n < 10) : decOf n = decOf (n / 10) ++ [((48 + n % 10 : Nat) : Int)] := by
  unfold decOf
  obtain ⟨m, rfl⟩ : ∃ m, n = m + 1 := ⟨n - 1, by omega⟩
  rw [decN, if_neg h]
  have e : m = (m + 1) / 10 + (m - (m + 1) / 10) := by omega
  have := decN_add ((m + 1) / 10) (m - (m + 1) / 10)
  rw [← e] at this
  rw [this]

theorem decOf_len (k : Nat) : ∀ n, n < 10 ^ (k + 1) → (decOf n).length ≤ k + 1 := by
  induction k with
  | zero => intro n h; rw [decOf_small n (by omega)]; simp
  | succ k ih =>
    intro n h
    by_cases h10 : n < 10
    · rw [decOf_small n h10]; simp
    · rw [decOf_big n h10]
      have := ih (n / 10) (by rw [Nat.pow_succ] at h; omega)
      simp; omega
end Go.Proofs.YtajcffchopcamaaGreatDoor

/- The text of a number; the walk of spec.l2Text. -/
namespace Go.Proofs.YtajcffchopcamaaGreatDoor
open Go.RowKit

theorem strOf_append (a b : List Int) : strOf (a ++ b) = strOf a ++ strOf b := by
  apply ByteArray.ext
  simp [strOf]

theorem strOf_size (l : List Int) : (strOf l).size = l.length := by simp [strOf, ByteArray.size]
end Go.Proofs.YtajcffchopcamaaGreatDoor

/- When an object is right; the walk of spec.ObjOk. -/
namespace Go.Proofs.YtajcffchopcamaaGreatDoor
open Go.RowKit

def okB (o : ObjV) : Bool := inB o.kind 1 99 && (decide (o.ints.length ≤ 5) && (decide (o.refs.length ≤ 5) && (o.ints.all (fun z => inB z (-1000000) 1000000) && o.refs.all (fun z => inB z 0 31))))

theorem okB_kind {o : ObjV} (h : inB o.kind 1 99 = false) : okB o = false := by simp [okB, h]
theorem okB_ints {o : ObjV} (h : ¬ o.ints.length ≤ 5) : okB o = false := by simp [okB, h]
theorem okB_refs {o : ObjV} (h : ¬ o.refs.length ≤ 5) : okB o = false := by simp [okB, h]
theorem okB_int {o : ObjV} (j : Nat) (hj : j < o.ints.length) (h : inB (o.ints.getD j 0) (-1000000) 1000000 = false) : okB o = false := by
  have : (o.ints.all (fun z => inB z (-1000000) 1000000)) = false := by
    rw [List.all_eq_false]
    exact ⟨o.ints.getD j 0, by simp [List.getD, hj], by rw [h]; decide⟩
  simp [okB, this]
theorem okB_ref {o : ObjV} (j : Nat) (hj : j < o.refs.length) (h : inB (o.refs.getD j 0) 0 31 = false) : okB o = false := by
  have : (o.refs.all (fun z => inB z 0 31)) = false := by
    rw [List.all_eq_false]
    exact ⟨o.refs.getD j 0, by simp [List.getD, hj], by rw [h]; decide⟩
  simp [okB, this]
theorem okB_true {o : ObjV} (h1 : inB o.kind 1 99 = true) (h2 : o.ints.length ≤ 5) (h3 : o.refs.length ≤ 5) (h4 : ∀ j, j < o.ints.length → inB (o.ints.getD j 0) (-1000000) 1000000 = true) (h5 : ∀ j, j < o.refs.length → inB (o.refs.getD j 0) 0 31 = true) : okB o = true := by
  have a4 : (o.ints.all (fun z => inB z (-1000000) 1000000)) = true := by
    rw [List.all_eq_true]
    intro z hz
    obtain ⟨j, hj, rfl⟩ := List.getElem_of_mem hz
    have := h4 j hj
    simpa [List.getD, hj] using this
  have a5 : (o.refs.all (fun z => inB z 0 31)) = true := by
    rw [List.all_eq_true]
    intro z hz
    obtain ⟨j, hj, rfl⟩ := List.getElem_of_mem hz
    have := h5 j hj
    simpa [List.getD, hj] using this
  simp [okB, h1, h2, h3, a4, a5]

set_option maxHeartbeats 1000000 in
set_option maxRecDepth 100000 in
theorem specObjOk_any (o : ObjV) (aI : Option Addr) (cI : Nat) (aR : Option Addr) (cR : Nat) (w : World) (hr : ReadsO w aI cI aR cR o) (hnI : o.ints.length ≤ 140737488355328) (hnR : o.refs.length ≤ 140737488355328) :
    Calls Tryz.prog 92 #[.agg #[.int .i64 o.kind, .slice aI o.ints.length cI, .slice aR o.refs.length cR]] w fun e w' => e = .returned (.bool (okB o)) ∧ Below w.heap.size w w' := by
  obtain ⟨k, ints, refs⟩ := o
  obtain ⟨hI, hR, _, _⟩ := hr
  simp only at *
  obtain ⟨W, hW, b0, hbW, hsW⟩ := boxes1 w [.int .i64 k, .slice aI ints.length cI, .slice aR refs.length cR] 39
  have hI' := hI.below hbW
  have hR' := hR.below hbW
  have x1 := b0.cell 1 _ rfl
  have x2 := b0.cell 2 _ rfl
  cases hk : inB k 1 99 with
  | false =>
    have HK : Hid (_ = _) := hk
    have HE : Hid (okB ⟨k, ints, refs⟩ = false) := okB_kind hk
    clear hk
    go_enter Tryz.func92, Tryz.ntmps92
    go_wp2_with fail
    rw [hW.out]
    refine (l1In_any _ _ _ _).mono ?_
    rintro e w' ⟨rfl, rfl⟩
    rw [HK.out]
    go_wp2
    go_ret
    exact ⟨ret_bool HE.out.symm, hbW⟩
  | true =>
  have HK : Hid (_ = _) := hk
  clear hk
  by_cases h5 : ints.length ≤ 5
  case neg =>
    have HE : Hid (okB ⟨k, ints, refs⟩ = false) := okB_ints h5
    go_enter Tryz.func92, Tryz.ntmps92
    go_wp2_with fail
    rw [hW.out]
    refine (l1In_any _ _ _ _).mono ?_
    rintro e w' ⟨rfl, rfl⟩
    rw [HK.out]
    go_wp2
    go_ret
    exact ⟨ret_bool HE.out.symm, hbW⟩
  case pos =>
  by_cases h6 : refs.length ≤ 5
  case neg =>
    have HE : Hid (okB ⟨k, ints, refs⟩ = false) := okB_refs h6
    go_enter Tryz.func92, Tryz.ntmps92
    go_wp2_with fail
    rw [hW.out]
    refine (l1In_any _ _ _ _).mono ?_
    rintro e w' ⟨rfl, rfl⟩
    rw [HK.out]
    go_wp2
    go_ret
    exact ⟨ret_bool HE.out.symm, hbW⟩
  case pos =>
  go_enter Tryz.func92, Tryz.ntmps92
  go_wp2_with fail
  rw [hW.out]
  refine (l1In_any _ _ _ _).mono ?_
  rintro e w' ⟨rfl, rfl⟩
  rw [HK.out]
  go_wp2
  go_loop [3] (fun i => ∃ j : Nat, j ≤ ints.length ∧ i = .int .i64 j ∧ Hid (∀ t, t < j → inB (ints.getD t 0) (-1000000) 1000000 = true)) (fun i => ints.length - (RowKit.intOf i).toNat)
  case atStart => exact ⟨0, by omega, rfl, fun t ht => by omega⟩
  case round =>
    obtain ⟨j, hj, rfl, hall⟩ := hrel
    by_cases hlt : j < ints.length
    · rcases hI'.cases with rfl | ⟨b, off, rfl, hpos, hcell⟩
      · simp at hlt
      have hc := hcell j hlt
      clear hcell
      cases hz : inB (ints.getD j 0) (-1000000) 1000000 with
      | false =>
        have HE : Hid (okB ⟨k, ints, refs⟩ = false) := okB_int j hlt hz
        have HZ : Hid (_ = _) := hz
        clear hz
        generalize ints.getD j 0 = z at *
        go_wp2_with fail
        refine (l1In_any _ _ _ _).mono ?_
        rintro e w' ⟨rfl, rfl⟩
        rw [HZ.out]
        go_wp2
        go_ret
        exact ⟨ret_bool HE.out.symm, hbW⟩
      | true =>
        have HN : Hid (∀ t, t < j + 1 → inB (ints.getD t 0) (-1000000) 1000000 = true) := by
          intro t ht
          by_cases e : t = j
          · rw [e]; exact hz
          · exact hall.out t (by omega)
        have HZ : Hid (_ = _) := hz
        clear hz
        generalize ints.getD j 0 = z at *
        go_wp2_with fail
        refine (l1In_any _ _ _ _).mono ?_
        rintro e w' ⟨rfl, rfl⟩
        rw [HZ.out]
        go_wp2
        go_round
        case rel => exact ⟨j + 1, by omega, by go_num, HN⟩
        case measure => simp [RowKit.intOf]; omega
    · have HALL : Hid (∀ t, t < ints.length → inB (ints.getD t 0) (-1000000) 1000000 = true) := fun t ht => hall.out t (by omega)
      go_wp2
      go_loop [4] (fun i => ∃ j : Nat, j ≤ refs.length ∧ i = .int .i64 j ∧ Hid (∀ t, t < j → inB (refs.getD t 0) 0 31 = true)) (fun i => refs.length - (RowKit.intOf i).toNat)
      case atStart => exact ⟨0, by omega, rfl, fun t ht => by omega⟩
      case round =>
        obtain ⟨i, hi, rfl, hall2⟩ := hrel
        by_cases hlt2 : i < refs.length
        · rcases hR'.cases with rfl | ⟨b, off, rfl, hpos, hcell⟩
          · simp at hlt2
          have hc := hcell i hlt2
          clear hcell
          cases hz : inB (refs.getD i 0) 0 31 with
          | false =>
            have HE : Hid (okB ⟨k, ints, refs⟩ = false) := okB_ref i hlt2 hz
            have HZ : Hid (_ = _) := hz
            clear hz
            generalize refs.getD i 0 = z at *
            go_wp2_with fail
            refine (l1In_any _ _ _ _).mono ?_
            rintro e w' ⟨rfl, rfl⟩
            rw [HZ.out]
            go_wp2
            go_ret
            exact ⟨ret_bool HE.out.symm, hbW⟩
          | true =>
            have HN : Hid (∀ t, t < i + 1 → inB (refs.getD t 0) 0 31 = true) := by
              intro t ht
              by_cases e : t = i
              · rw [e]; exact hz
              · exact hall2.out t (by omega)
            have HZ : Hid (_ = _) := hz
            clear hz
            generalize refs.getD i 0 = z at *
            go_wp2_with fail
            refine (l1In_any _ _ _ _).mono ?_
            rintro e w' ⟨rfl, rfl⟩
            rw [HZ.out]
            go_wp2
            go_round
            case rel => exact ⟨i + 1, by omega, by go_num, HN⟩
            case measure => simp [RowKit.intOf]; omega
        · have HE : Hid (okB ⟨k, ints, refs⟩ = true) := okB_true HK.out h5 h6 HALL.out (fun t ht => hall2.out t (by simp only at ht; omega))
          go_wp2
          go_ret
          exact ⟨ret_bool HE.out.symm, hbW⟩
end Go.Proofs.YtajcffchopcamaaGreatDoor
