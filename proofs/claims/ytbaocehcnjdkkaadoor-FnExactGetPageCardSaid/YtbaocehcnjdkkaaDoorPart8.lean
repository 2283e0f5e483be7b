/- Several texts in one, in their order. -/
import Derived.Test.YtbaocehcnjdkkaaDoorPart5
import Derived.Test.YtbaocehcnjdkkaaDoorPart7
import Derived.Deep.RegionHeld3
/- The walks of laws.szSlot, szSlotA4, szPage. -/
namespace Go.Proofs.YtbaocehcnjdkkaaDoor
open Go.RowKit

/-- What a size's reckoner answers: below 0, or what is left, and these slots are small. -/
def SzAns (ss : List SlotA) (left z : Int) : Prop := z < 0 ∨ (0 ≤ z ∧ z ≤ left ∧ ∀ s ∈ ss, s.v.o.ints.length ≤ 1048576 ∧ s.v.o.refs.length ≤ 1048576)

theorem szAns_obj (s : SlotA) (left : Int) (h : 0 ≤ left ∧ left ≤ 1048576) : SzAns [s] left (szObjOf s.v.o left) := by
  unfold SzAns szObjOf
  split
  · exact .inl (by omega)
  · split
    · exact .inl (by omega)
    · exact .inr ⟨by omega, by omega, by intro t ht; obtain rfl := List.mem_singleton.1 ht; omega⟩
def Small (ss : List SlotA) : Prop := ∀ s ∈ ss, s.v.o.ints.length ≤ 9223372036854775807 ∧ s.v.o.refs.length ≤ 9223372036854775807

set_option maxHeartbeats 400000 in
set_option maxRecDepth 100000 in
theorem szSlot_any (s : SlotA) (left : Int) (w : World) (hn : Small [s]) (h0 : 0 ≤ left ∧ left ≤ 1048576) :
    Calls Tryd.prog 30 #[.agg s.cells.toArray, .int .i64 left] w fun e w' => ∃ z, e = .returned (.int .i64 z) ∧ SzAns [s] left z ∧ Below w.heap.size w w' := by
  have HA : Hid _ := szAns_obj s left h0
  obtain ⟨h1, h2⟩ := hn s (List.mem_singleton.2 rfl)
  obtain ⟨W, hW, b0, hbW, hsW⟩ := boxes1 w s.cells 44
  simp only [SlotA.cells] at *
  go_enter Tryd.func30, Tryd.ntmps30
  go_wp2_with fail
  rw [hW.out]
  refine (szObj_any s.v.o s.aI s.cI s.aR s.cR left W h1 h2 h0).mono ?_
  rintro e w1 ⟨rfl, hb1⟩
  generalize szObjOf s.v.o left = z at *
  clear hsW
  by_cases hz : z < 0
  · go_wp2
    go_ret
    exact ⟨-1, rfl, .inl (by omega), hbW.trans (hb1.mono hbW.size)⟩
  · go_wp2
    go_ret
    exact ⟨z, rfl, HA.out, hbW.trans (hb1.mono hbW.size)⟩

set_option maxHeartbeats 400000 in
set_option maxRecDepth 100000 in
theorem szSlotA4_any (ss : List SlotA) (h4 : ss.length = 4) (left : Int) (w : World) (hn : Small ss) (h0 : 0 ≤ left ∧ left ≤ 1048576) :
    Calls Tryd.prog 55 #[.agg (cellsS ss).toArray, .int .i64 left] w fun e w' => ∃ z, e = .returned (.int .i64 z) ∧ SzAns ss left z ∧ Below w.heap.size w w' := by
  obtain ⟨W, hW, b0, hbW, hsW⟩ := boxes1 w (cellsS ss) 45
  have H4 : Hid (ss.length = 4) := h4
  clear hsW h4
  go_enter Tryd.func55, Tryd.ntmps55
  go_wp2_with fail
  rw [hW.out]
  clear hW
  go_loopw [1, 5] (fun l i wr => ∃ (k : Nat) (z : Int), i = .int .i64 k ∧ l = .int .i64 z ∧ k ≤ 4 ∧ (0 ≤ z ∧ z ≤ left) ∧ Hid (∀ s ∈ ss.take k, s.v.o.ints.length ≤ 1048576 ∧ s.v.o.refs.length ≤ 1048576) ∧ Below W.heap.size W wr)
    (fun _ i _ => 4 - (intOf i).toNat)
  case atStart => exact ⟨0, left, rfl, rfl, by omega, by omega, by intro s hs; simp at hs, Below.refl _ _⟩
  case round =>
    obtain ⟨k, z, rfl, rfl, hk, hz, hsm, hbl⟩ := hrel
    have b0r := b0.below hbl b0.lt
    by_cases hlt : k < 4
    · have hkl : k < ss.length := by rw [H4.out]; exact hlt
      obtain ⟨c0, c1, c2, c3, _⟩ := b0r.slot k hkl
      have hnk : Small [ss.getD k zeroS] := fun s hs => by obtain rfl := List.mem_singleton.1 hs; exact hn _ (getD_mem hkl)
      have HV : Hid (∀ s ∈ ss.take (k + 1), s ∈ ss.take k ∨ s = ss.getD k zeroS) := by
        intro s hs
        rw [List.take_add_one, List.mem_append] at hs
        rcases hs with hs | hs
        · exact .inl hs
        · right
          simp only [List.getD, hkl, List.getElem?_eq_getElem, Option.toList_some, List.mem_singleton] at hs ⊢
          simpa using hs
      generalize ss.getD k zeroS = s at *
      go_wp2_with fail
      refine (szSlot_any s z wr hnk (by omega)).mono ?_
      clear c0 c1 c2 c3
      rintro e w1 ⟨z1, rfl, hz1, hb1⟩
      rcases hz1 with hneg | ⟨hp, hle, hs1⟩
      · go_wp2
        go_ret
        exact ⟨-1, rfl, .inl (by omega), (hbW.trans (hbl.mono hbW.size)).trans (hb1.mono (Nat.le_trans hbW.size hbl.size))⟩
      · have hz1n : ¬ z1 < 0 := by omega
        have HS : Hid (∀ s ∈ ss.take (k + 1), s.v.o.ints.length ≤ 1048576 ∧ s.v.o.refs.length ≤ 1048576) := by
          intro t ht
          rcases HV.out t ht with h | rfl
          · exact hsm.out t h
          · exact hs1 _ (List.mem_singleton.2 rfl)
        clear hs1 HV
        go_wp2_with fail
        go_roundw
        case rel => exact ⟨k + 1, z1, by go_num, rfl, by omega, by omega, HS, hbl.trans (hb1.mono hbl.size)⟩
        case measure => simp [intOf]; omega
    · have hkk : ¬ (k : Int) < 4 := by omega
      have HS : Hid (∀ s ∈ ss, s.v.o.ints.length ≤ 1048576 ∧ s.v.o.refs.length ≤ 1048576) := by
        have h := hsm.out
        rw [List.take_of_length_le (by rw [H4.out]; omega)] at h
        exact h
      go_wp2
      go_ret
      exact ⟨z, rfl, .inr ⟨hz.1, hz.2, HS.out⟩, hbW.trans (hbl.mono hbW.size)⟩

set_option maxHeartbeats 400000 in
set_option maxRecDepth 100000 in
theorem szPage_any (p : PageA) (h4 : p.ss.length = 4) (left : Int) (w : World) (hn : Small p.ss) (h0 : 0 ≤ left ∧ left ≤ 1048576) :
    Calls Tryd.prog 19 #[.agg p.cells.toArray, .int .i64 left] w fun e w' => ∃ z, e = .returned (.int .i64 z) ∧ SzAns p.ss left z ∧ Below w.heap.size w w' := by
  obtain ⟨n, ss⟩ := p
  simp only [PageA.cells] at *
  obtain ⟨W, hW, b0, hbW, hsW⟩ := boxes1 w (.int .i64 n :: cellsS ss) 47
  have hrg0 : W.rangeAt w.heap.size 1 (cellsS ss) := Box.range [.int .i64 n] (cellsS ss) [] (by simpa using b0)
  have hi0 : (Tryd.prog.info? 45).map (·.size) = some (cellsS ss).length := by rw [cellsS_len, h4]; kernel_rfl
  go_enter Tryd.func19, Tryd.ntmps19
  go_wp2_with (first | (guard_target = wpList _ _ _ (Oper.mk (some 6) _ _ _ _ _ :: _) _ _; refine wpList_load_mid rfl 45 (.tmp 5) rfl w.heap.size 1 rfl (cellsS ss) _ (by rw [hW.out]; exact hrg0) Tryd.underlying45 rfl hi0 ?_) | fail)
  rw [hW.out]
  clear hW hrg0 hi0 hsW
  refine (szSlotA4_any ss h4 left W hn h0).mono ?_
  rintro e w1 ⟨z, rfl, hz, hb1⟩
  have HZ : Hid _ := hz
  clear hz
  by_cases hneg : z < 0
  · go_wp2
    go_ret
    exact ⟨-1, rfl, .inl (by omega), hbW.trans (hb1.mono hbW.size)⟩
  · go_wp2
    go_ret
    exact ⟨z, rfl, HZ.out, hbW.trans (hb1.mono hbW.size)⟩
end Go.Proofs.YtbaocehcnjdkkaaDoor

/- The walks of laws.eqSlot, eqSlotA4, eqPage, where both say the same. -/
namespace Go.Proofs.YtbaocehcnjdkkaaDoor
open Go.RowKit

set_option maxHeartbeats 400000 in
set_option maxRecDepth 100000 in
theorem eqSlot_same (s t : SlotA) (he : t.v = s.v) (w : World) (hs : s.reads w) (ht : t.reads w) (hlI : s.v.o.ints.length ≤ 1099511627776) (hlR : s.v.o.refs.length ≤ 1099511627776) :
    Calls Tryd.prog 32 #[.agg s.cells.toArray, .agg t.cells.toArray] w fun e w' => e = .returned (.bool true) ∧ Below w.heap.size w w' := by
  obtain ⟨v, aI, cI, aR, cR⟩ := s
  obtain ⟨v', bI, dI, bR, dR⟩ := t
  simp only at he
  subst he
  obtain ⟨h, ⟨k, ints, refs⟩⟩ := v'
  simp only [SlotA.cells, SlotA.reads] at *
  obtain ⟨W, hW, b0, b1, hbW, hsW⟩ := boxes2 w [.bool h, .int .i64 k, .slice aI ints.length cI, .slice aR refs.length cR] [.bool h, .int .i64 k, .slice bI ints.length dI, .slice bR refs.length dR] 28 28
  go_enter Tryd.func32, Tryd.ntmps32
  go_wp2_with fail
  rw [hW.out]
  clear hW
  refine (eqObj_same ⟨k, ints, refs⟩ aI cI aR cR bI dI bR dR W (hs.below hbW) (ht.below hbW) hlI hlR).mono ?_
  rintro e w1 ⟨rfl, hb1⟩
  go_wp2
  go_ret
  exact ⟨rfl, hbW.trans (hb1.mono hbW.size)⟩

theorem same_at {ss ts : List SlotA} (h : ts.map (·.v) = ss.map (·.v)) (k : Nat) : (ts.getD k zeroS).v = (ss.getD k zeroS).v := by
  have := congrArg (fun l => l[k]?) h
  simp only [List.getElem?_map] at this
  simp only [List.getD]
  cases h1 : ts[k]? <;> cases h2 : ss[k]? <;> simp_all

set_option maxHeartbeats 1000000 in
set_option maxRecDepth 100000 in
theorem eqSlotA4_same (ss ts : List SlotA) (h4 : ss.length = 4) (he : ts.map (·.v) = ss.map (·.v)) (w : World) (hs : ReadsS w ss) (ht : ReadsS w ts) (hl : ∀ s ∈ ss, s.v.o.ints.length ≤ 1099511627776 ∧ s.v.o.refs.length ≤ 1099511627776) :
    Calls Tryd.prog 57 #[.agg (cellsS ss).toArray, .agg (cellsS ts).toArray] w fun e w' => e = .returned (.bool true) ∧ Below w.heap.size w w' := by
  have htl : ts.length = 4 := by have := congrArg List.length he; simp only [List.length_map] at this; omega
  obtain ⟨W, hW, b0, b1, hbW, hsW⟩ := boxes2 w (cellsS ss) (cellsS ts) 29 29
  have H4 : Hid (ss.length = 4 ∧ ts.length = 4) := ⟨h4, htl⟩
  have HE : Hid _ := he
  clear hsW h4 htl he
  go_enter Tryd.func57, Tryd.ntmps57
  go_wp2_with fail
  rw [hW.out]
  clear hW
  go_loopw [5] (fun i wr => ∃ (k : Nat), i = .int .i64 k ∧ k ≤ 4 ∧ Below W.heap.size W wr)
    (fun i _ => 4 - (intOf i).toNat)
  case atStart => exact ⟨0, rfl, by omega, Below.refl _ _⟩
  case round =>
    obtain ⟨k, rfl, hk, hbl⟩ := hrel
    by_cases hlt : k < 4
    · have hkl : k < ss.length := by rw [H4.out.1]; exact hlt
      have hkt : k < ts.length := by rw [H4.out.2]; exact hlt
      have hi0 : (0 : Int) ≤ (k : Int) := by omega
      have hi4 : (k : Int) < 4 := by omega
      have HC : Hid (∀ w'', Below W.heap.size W w'' → _ ∧ _) := fun w'' hh => ⟨(b0.below hh b0.lt).slot k hkl, (b1.below hh b1.lt).slot k hkt⟩
      have hsk := fun w'' (hh : Below W.heap.size W w'') => (hs _ (getD_mem hkl)).below (hbW.trans (hh.mono hbW.size))
      have htk := fun w'' (hh : Below W.heap.size W w'') => (ht _ (getD_mem hkt)).below (hbW.trans (hh.mono hbW.size))
      have hlk := hl _ (getD_mem hkl)
      have hv := same_at HE.out k
      generalize ss.getD k zeroS = s at *
      generalize ts.getD k zeroS = t at *
      have HS : Hid (∀ w1, Below W.heap.size W w1 → (w1.cell? ⟨w.heap.size, k * 4, none⟩ = some (.bool s.v.has) ∧ w1.cell? ⟨w.heap.size, k * 4 + 1, none⟩ = some (.int .i64 s.v.o.kind) ∧ w1.cell? ⟨w.heap.size, k * 4 + 2, none⟩ = some (.slice s.aI s.v.o.ints.length s.cI) ∧ w1.cell? ⟨w.heap.size, k * 4 + 3, none⟩ = some (.slice s.aR s.v.o.refs.length s.cR)) ∧ (w1.cell? ⟨(w.heap.size + 1), k * 4, none⟩ = some (.bool t.v.has) ∧ w1.cell? ⟨(w.heap.size + 1), k * 4 + 1, none⟩ = some (.int .i64 t.v.o.kind) ∧ w1.cell? ⟨(w.heap.size + 1), k * 4 + 2, none⟩ = some (.slice t.aI t.v.o.ints.length t.cI) ∧ w1.cell? ⟨(w.heap.size + 1), k * 4 + 3, none⟩ = some (.slice t.aR t.v.o.refs.length t.cR))) := fun w1 hh => by
        obtain ⟨⟨c0, c1, c2, c3, _⟩, ⟨d0, d1, d2, d3, _⟩⟩ := HC.out w1 hh
        exact ⟨⟨c0, c1, c2, c3⟩, d0, d1, d2, d3⟩
      have HR : Hid (_ ∧ _ ∧ _) := ⟨hsk, htk, hlk⟩
      have hh := HS.out wr hbl
      have HV : Hid (t.v = s.v) := hv
      clear HC hsk htk hlk hv
      go_wp2_with fail
      go_region_held3 (fun w1 => (w1.cell? ⟨w.heap.size, k * 4, none⟩ = some (.bool s.v.has) ∧ w1.cell? ⟨w.heap.size, k * 4 + 1, none⟩ = some (.int .i64 s.v.o.kind) ∧ w1.cell? ⟨w.heap.size, k * 4 + 2, none⟩ = some (.slice s.aI s.v.o.ints.length s.cI) ∧ w1.cell? ⟨w.heap.size, k * 4 + 3, none⟩ = some (.slice s.aR s.v.o.refs.length s.cR)) ∧ (w1.cell? ⟨(w.heap.size + 1), k * 4, none⟩ = some (.bool t.v.has) ∧ w1.cell? ⟨(w.heap.size + 1), k * 4 + 1, none⟩ = some (.int .i64 t.v.o.kind) ∧ w1.cell? ⟨(w.heap.size + 1), k * 4 + 2, none⟩ = some (.slice t.aI t.v.o.ints.length t.cI) ∧ w1.cell? ⟨(w.heap.size + 1), k * 4 + 3, none⟩ = some (.slice t.aR t.v.o.refs.length t.cR)))
        (first | exact HS.out _ hw2 | go_keep | fail)
        ((first | (go_at_call 32; refine (eqSlot_same s t HV.out _ (HR.out.1 _ hbl.drew) (HR.out.2.1 _ hbl.drew) HR.out.2.2.1 HR.out.2.2.2).mono ?_; rintro e w2 ⟨rfl, hb2⟩; have hw2 : Below W.heap.size W w2 := (hbl.drew).trans (hb2.mono hbl.size)) | fail))
      all_goals
        go_wp2_with fail
        go_roundw
        case rel => exact ⟨k + 1, by go_num, by omega, hw2⟩
        case measure => simp [intOf]; omega
    · have hkk : ¬ (k : Int) < 4 := by omega
      go_wp2
      go_ret
      exact ⟨rfl, hbW.trans (hbl.mono hbW.size)⟩

set_option maxHeartbeats 1000000 in
set_option maxRecDepth 100000 in
theorem eqPage_same (n : Int) (ss ts : List SlotA) (h4 : ss.length = 4) (he : ts.map (·.v) = ss.map (·.v)) (w : World) (hs : ReadsS w ss) (ht : ReadsS w ts) (hl : ∀ s ∈ ss, s.v.o.ints.length ≤ 1099511627776 ∧ s.v.o.refs.length ≤ 1099511627776) :
    Calls Tryd.prog 21 #[.agg (PageA.cells ⟨n, ss⟩).toArray, .agg (PageA.cells ⟨n, ts⟩).toArray] w fun e w' => e = .returned (.bool true) ∧ Below w.heap.size w w' := by
  have htl : ts.length = 4 := by have := congrArg List.length he; simp only [List.length_map] at this; omega
  simp only [PageA.cells]
  obtain ⟨W, hW, b0, b1, hbW, hsW⟩ := boxes2 w (.int .i64 n :: cellsS ss) (.int .i64 n :: cellsS ts) 31 31
  have hrg0 : W.rangeAt w.heap.size 1 (cellsS ss) := Box.range [.int .i64 n] (cellsS ss) [] (by simpa using b0)
  have hrg1 : W.rangeAt (w.heap.size + 1) 1 (cellsS ts) := Box.range [.int .i64 n] (cellsS ts) [] (by simpa using b1)
  have hi0 : (Tryd.prog.info? 29).map (·.size) = some (cellsS ss).length := by rw [cellsS_len, h4]; kernel_rfl
  have hi1 : (Tryd.prog.info? 29).map (·.size) = some (cellsS ts).length := by rw [cellsS_len, htl]; kernel_rfl
  have HI : Hid (_ ∧ _) := ⟨hi0, hi1⟩
  have HR : Hid (_ ∧ _) := ⟨hrg0, hrg1⟩
  clear hi0 hi1 hrg0 hrg1 hsW htl
  go_enter Tryd.func21, Tryd.ntmps21
  go_wp2_with (first | (guard_target = wpList _ _ _ (Oper.mk (some 11) _ _ _ _ _ :: _) _ _; refine wpList_load_mid rfl 29 (.tmp 10) rfl w.heap.size 1 rfl (cellsS ss) _ (by rw [hW.out]; exact HR.out.1) Tryd.underlying29 rfl HI.out.1 ?_) | (guard_target = wpList _ _ _ (Oper.mk (some 13) _ _ _ _ _ :: _) _ _; refine wpList_load_mid rfl 29 (.tmp 12) rfl (w.heap.size + 1) 1 rfl (cellsS ts) _ (by rw [hW.out]; exact HR.out.2) Tryd.underlying29 rfl HI.out.2 ?_) | fail)
  rw [hW.out]
  clear hW
  refine (eqSlotA4_same ss ts h4 he W (hs.below hbW) (ht.below hbW) hl).mono ?_
  rintro e w1 ⟨rfl, hb1⟩
  go_wp2
  go_ret
  exact ⟨rfl, hbW.trans (hb1.mono hbW.size)⟩
end Go.Proofs.YtbaocehcnjdkkaaDoor
