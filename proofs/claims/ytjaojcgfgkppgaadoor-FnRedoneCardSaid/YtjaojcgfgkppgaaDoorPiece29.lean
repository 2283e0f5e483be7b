/- Several texts in one, in their order. -/
import Derived.Test.YtjaojcgfgkppgaaDoorPiece6
import Derived.Laws.CopyOwn
import Derived.Deep.RegionHeld3
import Derived.Test.YtjaojcgfgkppgaaDoorProg
import Derived.Test.YtjaojcgfgkppgaaDoorPiece1
/- The walk of impl.copyInts. -/
namespace Go.Proofs.YtjaojcgfgkppgaaDoor
open Go.RowKit

set_option maxHeartbeats 400000 in
set_option maxRecDepth 100000 in
theorem copyInts_any (a : Option Addr) (cap : Nat) (zs : List Int) (w : World) (hr : ReadsI w a zs) (hl : zs.length ≤ 1099511627776) :
    Calls Tryd.prog 113 #[.slice a zs.length cap] w fun e w' => ∃ a' c', e = .returned (.slice a' zs.length c') ∧ OwnI w' w.heap.size w'.heap.size a' c' zs ∧ Below w.heap.size w w' := by
  obtain ⟨i0, hi, hz0, hz1, hz2⟩ := info_parts Tryd.infoInt
  rcases hr.cases with rfl | ⟨b, off, rfl, hpos, hcell⟩
  · go_enter Tryd.func113, Tryd.ntmps113
    go_wp2
    go_ret
    exact ⟨none, 0, rfl, ownI_nil _ _ _ (Nat.le_refl _), Below.refl _ _⟩
  · have hnz : ((zs.length : Int) == 0) = false := by simp; intro e; simp [e] at hpos
    have hsz : (Tryd.prog.info? 3).map (·.size) = some 1 := by kernel_rfl
    go_enter Tryd.func113, Tryd.ntmps113
    go_wp2_with (at_make; refine wpList_make_full _ rfl _ _ 24 rfl w.heap.size 3 i0 (.int .i64 0) 1 Tryd.underlying24 hi hz0 hz1 _ _ _ _ zs.length rfl rfl rfl rfl (by rw [hz2]; omega) (by simp [maxLen]; omega) (Nat.le_refl _) ?_)
    intro w0 hown0 hgrow0
    have hb0 : Below w.heap.size w w0 := (Below.refl _ _).grown hgrow0 (Nat.le_refl _) (fun k h => by cases h)
    obtain ⟨hlen, hcase⟩ := hown0
    rcases hcase with ⟨hv, _⟩ | ⟨g, cap', cur, hv, hg, hgg, hn, hm, hcs, htk⟩
    · cases hv
    simp only [Value.slice.injEq, Option.some.injEq, Addr.mk.injEq, and_true, true_and] at hv
    obtain ⟨rfl, rfl⟩ := hv
    have hcl : cur.toList.length = zs.length := by rw [Array.length_toList, hcs]; omega
    have HC : Hid (0 < (zs.map (Value.int .i64)).length → some (⟨w.heap.size, 0, none⟩ : Addr) = some ⟨w.heap.size, 0, none⟩ ∧ ∃ ad : Addr, some (⟨b, off, none⟩ : Addr) = some ad ∧ ∀ j v, (zs.map (Value.int .i64))[j]? = some v → w0.cell? (ad.add j) = some v) := by
      intro _
      refine ⟨rfl, _, rfl, fun j v hv => ?_⟩
      rw [List.getElem?_map] at hv
      cases hzj : zs[j]? with
      | none => rw [hzj] at hv; cases hv
      | some z =>
        rw [hzj] at hv
        simp only [Option.map_some, Option.some.injEq] at hv
        have hj : j < zs.length := (List.getElem?_eq_some_iff.1 hzj).1
        have hc := hcell j hj
        have hadd : (⟨b, off, none⟩ : Addr).add j = ⟨b, off + j, none⟩ := by unfold Addr.add; split <;> simp_all
        rw [hadd, hb0.cell (block_lt hc), hc, ← hv]
        simp [List.getD, hzj]
    have HG : Hid (w0.heap[w.heap.size]? = some (.cells cur.toList.toArray 3 (0, 0))) := by rw [Hid, hgg]
    have HN : Hid ((zs.map (Value.int .i64)).length = Nat.min zs.length zs.length) := by rw [Hid, List.length_map]; exact (Nat.min_self _).symm
    have HFt : Hid (0 + (zs.map (Value.int .i64)).length ≤ cur.toList.length) := by rw [Hid, List.length_map, hcl]; omega
    have H1 : Hid (∀ v ∈ zs.map (Value.int .i64), v.oneCell' = true) := fun v hv => by obtain ⟨z, _, rfl⟩ := List.mem_map.1 hv; rfl
    have HSP : Hid (splice cur.toList 0 (zs.map (Value.int .i64)) = zs.map (Value.int .i64)) := by
      unfold Hid splice
      rw [List.take_zero, List.nil_append, Nat.zero_add, List.drop_eq_nil_of_le (by rw [hcl, List.length_map]; exact Nat.le_refl _), List.append_nil]
    clear hlen htk hcs hgg hgrow0 hcell hn hm
    have key : ∀ {ops : Array Oper} {rest : List Oper} {o : Oper} {act : Act} {Q : Exit → Act → World → Prop}, o.guard = none → o.op = .call { callee := .builtin .copy, args := #[.tmp 10, .tmp 11], argTypes := #[24, 24] } → act.eval (.tmp 10) = .slice (some ⟨w.heap.size, 0, none⟩) zs.length zs.length → act.eval (.tmp 11) = .slice (some ⟨b, off, none⟩) zs.length cap → (∀ w1, OwnI w1 w.heap.size w1.heap.size (some ⟨w.heap.size, 0, none⟩) zs.length zs → Below w.heap.size w w1 → wpList Tryd.prog ops Q rest (act.put o.dst (goInt (zs.map (Value.int .i64)).length)) w1) → wpList Tryd.prog ops Q (o :: rest) act w0 := by
      intro ops rest o act Q h1 h2 h3 h4 h5
      refine wpList_copy_splice h1 (.tmp 10) (.tmp 11) 24 24 h2 3 Tryd.underlying24 hsz _ _ zs.length zs.length zs.length cap h3 h4 w.heap.size 0 cur.toList 3 HG.out (zs.map (Value.int .i64)) HN.out HC.out HFt.out H1.out w.heap.size w hb0 (Nat.le_refl _) ?_
      intro w1 hrow hb1
      refine h5 w1 ?_ hb1
      have h := hrow.out
      rw [HSP.out] at h
      refine ⟨⟨by simp, .inr ⟨w.heap.size, zs.length, _, rfl, Nat.le_refl _, h, Nat.le_refl _, by simp [maxLen]; omega, by simp, by simp; exact List.take_of_length_le (by simp)⟩⟩, Nat.le_refl _, fun k hk => ?_⟩
      cases hk
      exact (Array.getElem?_eq_some_iff.1 h).1
    have KEY : Hid _ := @key
    clear key HG HN HFt H1 HSP HC hcl
    go_wp2_with (guard_target = wpList _ _ _ (Oper.mk (some 12) _ _ _ _ _ :: _) _ _; refine KEY.out rfl rfl rfl rfl ?_; intro w1 HO hb1)
    go_ret
    exact ⟨_, _, rfl, HO, hb1⟩
end Go.Proofs.YtjaojcgfgkppgaaDoor

/- The walk of impl.copySlot. -/
namespace Go.Proofs.YtjaojcgfgkppgaaDoor
open Go.RowKit

set_option maxHeartbeats 4000000 in
set_option maxRecDepth 100000 in
theorem copySlot_own (s : SlotA) (w : World) (hr : s.reads w) (hlI : s.v.o.ints.length ≤ 1099511627776) (hlR : s.v.o.refs.length ≤ 1099511627776) :
    Calls Tryd.prog 90 #[.agg s.cells.toArray] w fun e w' => ∃ t : SlotA, e = .returned (.agg t.cells.toArray) ∧ Hid (t.v = s.v) ∧ t.own w' w.heap.size w'.heap.size ∧ Below w.heap.size w w' := by
  obtain ⟨⟨h, ⟨k, ints, refs⟩⟩, aI, cI, aR, cR⟩ := s
  simp only [SlotA.cells, SlotA.reads, SlotA.own] at *
  obtain ⟨hI, hR, _, _⟩ := hr
  simp only at hI hR
  obtain ⟨W, hW, b0, b1, hbW, hsW⟩ := boxes2 w [.bool h, .int .i64 k, .slice aI ints.length cI, .slice aR refs.length cR] [.bool false, .int .i64 0, .slice none 0 0, .slice none 0 0] 28 28
  have hI' := hI.below hbW
  have hR' := hR.below hbW
  have hwW : w.heap.size + 1 < W.heap.size := by omega
  clear hsW hI hR
  have HC : Hid (∀ w'', Below W.heap.size W w'' → w''.cell? ⟨w.heap.size, 0, none⟩ = some (.bool h) ∧ w''.cell? ⟨w.heap.size, 1, none⟩ = some (.int .i64 k) ∧ w''.cell? ⟨w.heap.size, 2, none⟩ = some (.slice aI ints.length cI) ∧ w''.cell? ⟨w.heap.size, 3, none⟩ = some (.slice aR refs.length cR)) := by
    intro w'' hh
    have ba := b0.below hh b0.lt
    exact ⟨ba.cell 0 _ rfl, ba.cell 1 _ rfl, ba.cell 2 _ rfl, ba.cell 3 _ rfl⟩
  have HB : Hid (∀ w'', Below W.heap.size W w'' → Box w'' w.heap.size [.bool h, .int .i64 k, .slice aI ints.length cI, .slice aR refs.length cR] 28 ∧ Box w'' (w.heap.size + 1) [.bool false, .int .i64 0, .slice none 0 0, .slice none 0 0] 28) := fun w'' hh => ⟨b0.below hh b0.lt, b1.below hh b1.lt⟩
  have hh := HC.out W (Below.refl _ _)
  have hne : ¬ (w.heap.size = w.heap.size + 1) := by omega
  clear b0 b1
  go_enter Tryd.func90, Tryd.ntmps90
  go_wp2_with fail
  rw [hW.out]
  clear hW
  go_region_held3 (fun w'' => w''.cell? ⟨w.heap.size, 0, none⟩ = some (.bool h) ∧ w''.cell? ⟨w.heap.size, 1, none⟩ = some (.int .i64 k) ∧ w''.cell? ⟨w.heap.size, 2, none⟩ = some (.slice aI ints.length cI) ∧ w''.cell? ⟨w.heap.size, 3, none⟩ = some (.slice aR refs.length cR))
    (first | exact HC.out _ hB2 | exact HC.out _ hB1 | exact HC.out _ (Below.refl _ _).drew | exact ⟨(((((HB.out _ (by first | exact hBL | fail)).1.other hne).other hne).other hne).other hne).cell 0 _ rfl, (((((HB.out _ (by first | exact hBL | fail)).1.other hne).other hne).other hne).other hne).cell 1 _ rfl, (((((HB.out _ (by first | exact hBL | fail)).1.other hne).other hne).other hne).other hne).cell 2 _ rfl, (((((HB.out _ (by first | exact hBL | fail)).1.other hne).other hne).other hne).other hne).cell 3 _ rfl⟩ | go_keep | fail)
    (first
    | (go_at_call_of 113 (Value.slice aI ints.length cI); refine (copyInts_any aI cI ints _ (hI'.below (by first | exact hB2 | exact (Below.refl _ _).drew | fail)) hlI).mono ?_; rintro e u1 ⟨a1, c1, rfl, ho1, hb1⟩; have hB1 : Below W.heap.size W u1 := (by first | exact hB2.trans (hb1.mono hB2.size) | exact ((Below.refl _ _).drew).trans hb1 | fail); have hBL := hB1; obtain ⟨m0, m1, m2, m3, e0, e1, e2, e3⟩ := (HB.out _ hB1).2.four)
    | (go_at_call_of 113 (Value.slice aR refs.length cR); refine (copyInts_any aR cR refs _ (hR'.below (by first | exact hB1 | exact (Below.refl _ _).drew | fail)) hlR).mono ?_; rintro e u2 ⟨a2, c2, rfl, ho2, hb2⟩; have hB2 : Below W.heap.size W u2 := (by first | exact hB1.trans (hb2.mono hB1.size) | exact ((Below.refl _ _).drew).trans hb2 | fail); have hBL := hB2; obtain ⟨n0, n1, n2, n3, f0, f1, f2, f3⟩ := (HB.out _ hB2).2.four)
    | fail)
  obtain ⟨WF, hWF, bF, hwF, hsF⟩ := box4_fill (HB.out _ hB2).2 (.bool h) (.int .i64 k) (.slice a1 ints.length c1) (.slice a2 refs.length c2)
  have ho1' : OwnI u1 W.heap.size u1.heap.size a1 c1 ints := ho1
  have hsu1 : W.heap.size ≤ u1.heap.size := hB1.size
  have hsu2 := hb2.size
  have hO : OwnO u2 W.heap.size u2.heap.size a1 c1 a2 c2 ⟨k, ints, refs⟩ := ⟨(ho1'.below hb2).widen (Nat.le_refl _) hsu2 (Nat.le_refl _), ho2.widen hsu1 (Nat.le_refl _) (Nat.le_refl _), fun j hj hj' => by have h1 := (ho1'.lt j hj).2; have h2 := (ho2.lt j hj').1; omega⟩
  have hOF : OwnO WF W.heap.size u2.heap.size a1 c1 a2 c2 ⟨k, ints, refs⟩ := hO.within hwF (.inr (by omega))
  have HBF : Hid (Below w.heap.size w WF) := (hbW.trans (hB2.mono (by omega))).trans (hwF.below (by omega) (by omega))
  rw [hWF.out]
  clear hwF ho1 ho2 ho1' hO
  go_wp2
  obtain ⟨q0, q1, q2, q3, _⟩ := bF.four
  exact bodyPost_ret (v := .agg #[.bool h, .int .i64 k, .slice a1 ints.length c1, .slice a2 refs.length c2]) (by simp [results, Tryd.results90, go_sem, q0, q1, q2, q3]) rfl ⟨⟨⟨h, ⟨k, ints, refs⟩⟩, a1, c1, a2, c2⟩, rfl, rfl, hOF.widen (by omega) (by omega) (Nat.le_refl _), HBF.out⟩
end Go.Proofs.YtjaojcgfgkppgaaDoor

/- The walk of laws.big. -/
namespace Go.Proofs.YtjaojcgfgkppgaaDoor
open Go.RowKit

set_option maxHeartbeats 400000 in
theorem big_any (a : Option Addr) (c n : Nat) (w : World) : Calls Tryd.prog 7 #[.slice a n c] w fun e w' => e = .returned (.bool (decide (1048576 < n))) ∧ w' = w := by
  by_cases h : 1048576 < n
  · have HB : Hid (decide (1048576 < n) = true) := decide_eq_true h
    go_enter Tryd.func7, Tryd.ntmps7
    go_wp2
    go_ret
    exact ⟨by rw [HB.out]; exact ret_bool (decide_eq_true (by omega)), rfl⟩
  · have HB : Hid (decide (1048576 < n) = false) := decide_eq_false h
    go_enter Tryd.func7, Tryd.ntmps7
    go_wp2
    go_ret
    exact ⟨by rw [HB.out]; exact ret_bool (decide_eq_false (by omega)), rfl⟩

end Go.Proofs.YtjaojcgfgkppgaaDoor
