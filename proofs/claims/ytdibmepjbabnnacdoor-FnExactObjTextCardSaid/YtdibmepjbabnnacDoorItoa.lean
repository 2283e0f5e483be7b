/- strconv.Itoa by the library's contract; the walk of impl.partsText. -/
import Derived.Test.YtdibmepjbabnnacDoorItoaMath
import Derived.Test.YtdibmepjbabnnacDoorLaidVars
import Derived.Test.YtdibmepjbabnnacDoorAs
import Derived.Test.YtdibmepjbabnnacDoorInts
import Derived.Test.YtdibmepjbabnnacDoorShelf
namespace Go.Proofs.YtdibmepjbabnnacDoor
open Go.RowKit

/-- What the library's variables hold on the road of ObjText. -/
structure EnvT (w : World) : Prop where
  err : ErrT w
  pow : ∃ t f, w.heap[1]? = some (.cells (Lib.pow10Tab.map fun z => Value.int .u64 z).toArray t f)
theorem EnvT.keep {w w' : World} (h : EnvT w) (hb : Below w.heap.size w w') : EnvT w' := by
  refine ⟨h.err.keep hb, ?_⟩
  obtain ⟨t, f, hp⟩ := h.pow
  exact ⟨t, f, by rw [hb.block _ (Array.getElem?_eq_some_iff.1 hp).1]; exact hp⟩

theorem below_grow (w : World) (k : Nat) (os : Array Obj) : Below w.heap.size w (Sort.grow (w.drewN k) os) := by
  refine ⟨rfl, rfl, rfl, by simp [Sort.grow], fun j hj => ?_⟩
  have h1 : j < (w.drewN k).heap.size := hj
  simp only [Sort.grow]
  rw [Array.getElem?_append_left h1]
  rfl

theorem itoa_any (z : Int) (hz : -9223372036854775808 ≤ z ∧ z ≤ 9223372036854775807) (w : World) (he : EnvT w) :
    Calls Tryd.prog 35 #[.int .i64 z] w fun e w' => e = .returned (.string (strOf (numText z))) ∧ Below w.heap.size w w' := by
  obtain ⟨t, f, h⟩ := he.pow
  refine (Any.strconv_Itoa Tryd.laysM171 z hz.1 hz.2 w (tabIs_of (by kernel_rfl) h)).mono ?_
  rintro e w' ⟨rfl, k, os, rfl⟩
  exact ⟨by rw [itoa_str], below_grow w k os⟩

theorem Tryd.infoStr : (Tryd.prog.info? 9).map (fun i => (i.zero, i.size, i.bytes)) = some (some (.string ⟨#[]⟩), 1, 16) := by kernel_rfl

/-- A row of texts that is being filled. -/
def wordV (z : Int) : Value := .string (strOf (numText z))
def rowW (L : List Int) (n : Nat) : List Value := L.map wordV ++ List.replicate (n - L.length) (.string ⟨#[]⟩)
theorem rowW_nil (n : Nat) : rowW [] n = List.replicate n (.string ⟨#[]⟩) := by simp [rowW]
theorem rowW_all (L : List Int) : rowW L L.length = L.map wordV := by simp [rowW]
theorem rowW_set (l : List Int) (k : Nat) (h : k < l.length) : (rowW (l.take k) l.length).set k (wordV (l.getD k 0)) = rowW (l.take (k + 1)) l.length := by
  unfold rowW
  have hk : (l.take k).length = k := by rw [List.length_take]; omega
  have hk1 : (l.take (k + 1)).length = k + 1 := by rw [List.length_take]; omega
  rw [hk, hk1, List.set_append, if_neg (by rw [List.length_map, hk]; omega), List.length_map, hk, Nat.sub_self, List.take_succ_eq_append_getElem h]
  have e : l.length - k = (l.length - (k + 1)) + 1 := by omega
  rw [e, List.replicate_succ, List.set_cons_zero]
  simp only [List.getD, h, List.getElem?_eq_getElem, Option.getD_some, List.map_append, List.map_cons, List.map_nil, List.append_assoc, List.singleton_append]

theorem join_words (l : List Int) : Lib.join ((l.map fun z => strOf (numText z)).map (·.data.toList)) [44] = Lib.join (l.map Lib.itoa) [44] := by
  rw [List.map_map]
  congr 1
  apply List.map_congr_left
  intro z _
  show (strOf (numText z)).data.toList = _
  rw [← itoa_str]

theorem join_sep (l : List Int) : (⟨(Lib.join ((l.map fun z => strOf (numText z)).map (·.data.toList)) (ByteArray.mk #[44]).data.toList).toArray⟩ : ByteArray) = strOf (joinOf l) := by
  have e : (ByteArray.mk #[44]).data.toList = [44] := rfl
  rw [e, join_words, joinOf_str]

set_option maxHeartbeats 1000000 in
set_option maxRecDepth 100000 in
theorem partsText_any (a : Option Addr) (c : Nat) (l : List Int) (w : World) (he : EnvT w) (hr : ReadsI w a l) (hl : l.length ≤ 1000) (hz : ∀ z ∈ l, -1000000000 ≤ z ∧ z ≤ 1000000000) :
    Calls Tryd.prog 36 #[.slice a l.length c] w fun e w' => e = .returned (.string (strOf (joinOf l))) ∧ Below w.heap.size w w' := by
  have HJ : Hid (_ = _) := join_sep l
  have HJL : Hid ((Lib.join ((l.map fun z => strOf (numText z)).map (·.data.toList)) (ByteArray.mk #[44]).data.toList).length ≤ 140737488355328) := by
    have e : (ByteArray.mk #[44]).data.toList = [44] := rfl
    rw [Hid, e, join_words, joinOf_len]
    have := join_len l hz l.length (Nat.le_refl _)
    unfold joinOf
    omega
  obtain ⟨i0, hi, hz0, hz1, hz2⟩ := info_parts Tryd.infoStr
  go_enter Tryd.func36, Tryd.ntmps36
  go_wp2_with (at_make; refine wpList_make_full _ rfl _ _ 58 rfl w.heap.size 9 i0 (.string ⟨#[]⟩) 1 Tryd.underlying58 hi hz0 hz1 _ _ _ _ l.length rfl rfl rfl rfl (by rw [hz2]; omega) (by simp [maxLen]; omega) (Nat.le_refl _) ?_)
  intro w0 hown0 hgrow0
  have hown1 : w0.ownsRow w.heap.size 9 1 (.slice (some ⟨w.heap.size, 0, none⟩) l.length l.length) l.length (rowW (l.take 0) l.length) := by
    rw [List.take_zero, rowW_nil]
    simpa [Value.cells, toList_madeCells_one] using hown0
  have hb0 : Below w.heap.size w w0 := (Below.refl _ _).grown hgrow0 (Nat.le_refl _) (fun k h => by cases h)
  have hlt0 : w.heap.size < w0.heap.size := by
    rcases hown1.2 with ⟨hv, _⟩ | ⟨g, cap, cur, hv, _, hgg, _⟩
    · simp at hv
    · simp only [Value.slice.injEq, Option.some.injEq, Addr.mk.injEq] at hv
      have := (Array.getElem?_eq_some_iff.1 hgg).1
      omega
  clear hown0 hgrow0
  go_wp2
  go_loopw [11] (fun i wr => ∃ k : Nat, k ≤ l.length ∧ i = .int .i64 k ∧ Hid (wr.ownsRow w.heap.size 9 1 (.slice (some ⟨w.heap.size, 0, none⟩) l.length l.length) l.length (rowW (l.take k) l.length)) ∧ Below w.heap.size w wr ∧ w.heap.size < wr.heap.size)
    (fun i _ => l.length - (intOf i).toNat)
  case atStart => exact ⟨0, Nat.zero_le _, rfl, hown1, hb0, hlt0⟩
  case round =>
    obtain ⟨k, hk, rfl, hownH, hnx, hsz⟩ := hrel
    clear hown1 hb0 hlt0
    by_cases hlt : k < l.length
    · have hr' := hr.below hnx
      rcases hr'.cases with rfl | ⟨b, off, rfl, hpos, hcell⟩
      · simp at hlt
      have hc := hcell k hlt
      have hbz := hz (l.getD k 0) (by simp [List.getD, hlt])
      have HSET : Hid (_ = _) := rowW_set l k hlt
      have HW : Hid (wordV (l.getD k 0) = .string (strOf (numText (l.getD k 0)))) := rfl
      clear hcell
      generalize l.getD k 0 = z at *
      go_wp2_with fail
      refine (itoa_any z (by omega) wr (he.keep hnx)).mono ?_
      rintro e w2 ⟨rfl, hb2⟩
      have hown2 := ownsRow_block (w' := w2) hownH.out (fun j hj => hb2.block j (hownH.out.lt j hj).2)
      have hfz := hown2.frozenAt k
      obtain ⟨u, hct⟩ := own_cell hown2 k hlt
      have hb2' : Below w.heap.size w w2 := hnx.trans (hb2.mono (by omega))
      have hs2 := hb2.size
      have HS : Hid ((w2.setCell ⟨w.heap.size, k, none⟩ (.string (strOf (numText z)))).ownsRow w.heap.size 9 1 (.slice (some ⟨w.heap.size, 0, none⟩) l.length l.length) l.length (rowW (l.take (k + 1)) l.length)) := by
        have h1 := (hown2.stored k (.string (strOf (numText z)))).1
        rw [← HW.out, HSET.out] at h1
        rw [← HW.out]
        exact h1
      have HN : Hid (Below w.heap.size w (w2.setCell ⟨w.heap.size, k, none⟩ (.string (strOf (numText z)))) ∧ w.heap.size < (w2.setCell ⟨w.heap.size, k, none⟩ (.string (strOf (numText z)))).heap.size) := ⟨hb2'.setCell (Nat.le_refl _) _, by simp; omega⟩
      clear hown2 hb2'
      go_wp2
      go_roundw
      case rel => exact ⟨k + 1, by omega, by go_num, HS, HN.out.1, HN.out.2⟩
      case measure => simp [intOf]; omega
    · have hown : wr.ownsRow w.heap.size 9 1 (.slice (some ⟨w.heap.size, 0, none⟩) l.length l.length) l.length (l.map wordV) := by
        have h1 := hownH.out
        rw [List.take_of_length_le (by omega), rowW_all] at h1
        exact h1
      have hcells : ∀ (j : Nat) x, (l.map fun z => strOf (numText z))[j]? = some x → wr.cell? ⟨w.heap.size, 0 + j, none⟩ = some (.string x) := by
        intro j x hx
        rw [List.getElem?_map] at hx
        cases hj : l[j]? with
        | none => rw [hj] at hx; cases hx
        | some z =>
          rw [hj] at hx
          simp only [Option.map_some, Option.some.injEq] at hx
          have hjl : j < l.length := (List.getElem?_eq_some_iff.1 hj).1
          have := hown.cellAt j (by simpa using hjl)
          rw [Nat.zero_add, this, List.getElem?_map, hj]
          simp [wordV, hx]
      have hjoin := Any.strings_Join Tryd.lays156 Tryd.Builder_Extra_156 w.heap.size 0 l.length (l.map fun z => strOf (numText z)) (ByteArray.mk #[44]) wr hcells hsz (by rw [List.length_map]; omega) (by rw [List.length_map]; exact Nat.le_refl _) HJL.out
      rw [List.length_map, HJ.out] at hjoin
      clear hcells hown
      go_wp2_with fail
      refine hjoin.mono ?_
      rintro e w2 ⟨rfl, hb2⟩
      go_wp2
      go_ret
      exact ⟨rfl, hnx.trans (hb2.mono (by omega))⟩
end Go.Proofs.YtdibmepjbabnnacDoor
