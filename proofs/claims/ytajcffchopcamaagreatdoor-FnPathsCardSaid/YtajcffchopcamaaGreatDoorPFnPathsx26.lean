/- Several texts in one, in their order. -/
import Derived.Test.YtajcffchopcamaaGreatDoorShelf
import Derived.Test.YtajcffchopcamaaGreatDoorPFnPathsx25
import Derived.Test.YtajcffchopcamaaGreatDoorPFnPathsx14
import Derived.Test.YtajcffchopcamaaGreatDoorPFnPathsx24
import Derived.Test.YtajcffchopcamaaGreatDoorPFnPathsx22
import Derived.Deep.RegionHeld3
import Derived.Test.YtajcffchopcamaaGreatDoorPFnPathsx17
/- A set's keys, sorted: slices.Sorted(maps.Keys(..)) of a marking. -/
namespace Go.Proofs.YtajcffchopcamaaGreatDoor
open Go.RowKit Go.Maps Go.Sort Go.Shelf

/-- slices.Sort's two contracts here. -/
theorem sortsHere (m : Nat) : AnyZI.SortsIn Tryz.prog Tryz.sortedA_ren Fence.wide m :=
  ⟨fun blk off cap ss W hH hblk hsz => callsIn_wide.2 (AnyM.slices_Sort_int Tryz.sortA blk off cap ss W hH hblk hsz),
   fun p cap W => callsIn_wide.2 (AnyM.slices_Sort_int_none Tryz.sortA p cap W)⟩

theorem mergeSort_reachL {ss : List Int} {S : List Bool} (h : ss.Perm (reachL S)) : ss.mergeSort (fun x y => decide (x ≤ y)) = reachL S := by
  have e : ss.mergeSort leI = (reachL S).mergeSort leI := mergeSort_of_perm_i h
  have e2 : (reachL S).mergeSort leI = reachL S := List.mergeSort_of_pairwise (reachL_sorted S)
  exact e.trans e2

set_option maxHeartbeats 1000000 in
theorem reached_any {w0 w : World} {M mb most : Nat} {v : Value} {st : MSt} (hS : st.met.length = 32) (h : MkAt w0 w M mb v most st) :
    Calls Tryz.prog 43 #[.pointer (some ⟨M, 0, none⟩)] w fun e w' => ∃ a c, e = .returned (.slice a (reachL st.met).length c) ∧ OwnI w' w.heap.size w'.heap.size a c (reachL st.met) ∧ Below w.heap.size w w' := by
  obtain ⟨aS, cS, h⟩ := h
  have c1 := h.box.cell 1 _ rfl
  obtain ⟨nn, D0, hown, hsz, hpm⟩ := h.set.owns hS
  have hbl := hown.lt
  clear h
  refine (callsIn_wide (n := 6)).1 ?_
  have hseq : SeqGives Fence.wide 2 Tryz.prog 91 #[.pointer (some ⟨w.heap.size, 0, none⟩)] encZ (fun ss => ss.Perm (intKeys D0)) (Maps.size D0) (w.alloc (.cells #[.map (some mb)] 106)) :=
    AnyZI.keys_gives (ρ := Tryz.keysA_ren) { Tryz.keysA with } Fence.wide _ trivial rfl (by omega) w.heap.size mb nn D0 _ (by simp) (by simp) (by
      obtain ⟨es, clock, hb, Ft, hs, hD⟩ := hown
      exact ⟨es, clock, (Below.heap_alloc _ _ mb hbl).trans hb, Ft, hs, hD⟩)
  have cK : ∀ mb W, CallsIn Fence.wide 5 Tryz.prog 62 #[.map mb] W fun e w' => e = .returned (.func (.func 91) #[] #[.pointer (some ⟨W.heap.size, 0, none⟩)]) ∧ w' = W.alloc (.cells #[.map mb] 106) := fun mb W => AnyZI.keys_in Tryz.keysA Fence.wide 5 trivial rfl mb W
  have cS := AnyZI.sorted_in Tryz.sortedA Fence.wide 5 trivial trivial trivial trivial rfl (by omega) (sortsHere _) (enters_of Tryz.func90 (by kernel_rfl) rfl) 91 #[.pointer (some ⟨w.heap.size, 0, none⟩)] trivial (enters_of Tryz.func91 (by kernel_rfl) rfl) _ _ (by simp [maxLen]; omega) (by omega) _ hseq
  change CallsIn _ _ Tryz.prog 61 _ _ _ at cS
  have hfK : Fence.wide.fn 62 := trivial
  have hfS : Fence.wide.fn 61 := trivial
  clear hseq hown
  refine callsIn_of_wp Tryz.func43 rfl trivial ?_ rfl
  simp only [Tryz.ntmps43, List.size_toArray, List.length_cons, List.length_nil, Nat.reduceAdd, Nat.reduceSub, Array.replicate_succ, Array.replicate_zero, List.push_toArray, List.append_toArray, List.nil_append, List.cons_append]
  gi_wp2_with (first
    | (gi_at_call 62; refine (cK _ _).mono ?_; rintro e w' ⟨rfl, rfl⟩)
    | (gi_at_call 61; refine cS.mono ?_; rintro e w' ⟨vr, ss, rfl, hP, hrow, hnil, hb⟩))
  go_ret
  have hP2 := hP.trans hpm
  rw [mergeSort_reachL hP2, hP2.length_eq] at hrow
  have hB : Below w.heap.size w w' := ((Below.refl _ w).alloc (Nat.le_refl _) _).trans (hb.mono (by simp))
  have hrow2 : w'.ownsRow w.heap.size 3 1 vr (reachL st.met).length ((reachL st.met).map (Value.int .i64)) := ownsRow_base hrow (fun k hk => Nat.le_trans (by simp) (hrow.lt k hk).1)
  rcases hrow2.2 with ⟨hv, h0⟩ | ⟨g, cap, cur, hv, hrest⟩
  · have h0' : reachL st.met = [] := List.length_eq_zero_iff.1 h0
    refine ⟨none, 0, by rw [h0']; exact congrArg Ending.returned hv, ?_, hB⟩
    rw [h0']
    exact ownI_nil _ _ _ (Nat.le_refl _)
  · refine ⟨some ⟨g, 0, none⟩, cap, congrArg Ending.returned hv, ⟨?_, Nat.le_refl _, fun k hk => ?_⟩, hB⟩
    · rw [← hv]; exact hrow2
    · rw [← hv] at hk; exact (hrow2.lt k hk).2
end Go.Proofs.YtajcffchopcamaaGreatDoor

/- The walk of impl.Reach. -/
namespace Go.Proofs.YtajcffchopcamaaGreatDoor
open Go.RowKit

set_option maxHeartbeats 2000000 in
set_option maxRecDepth 100000 in
theorem implReach_any (a : Option Addr) (c : Nat) (ss : List SlotA) (root : Int) (w : World) (hg : ErrT w) (hr : ReadsVw w a ss) (hl : ss.length ≤ 1099511627776) (hf : Fit ss) :
    Calls Tryz.prog 13 #[.slice a ss.length c, .int .i64 root] w fun e w' => ReachAns w (reachV (vsOf ss) root) e w' := by
  have C := implViewOk_any a c ss w hg hr hl hf
  cases hvb : viewB (vsOf ss) with
  | false =>
    rw [hvb] at C
    have HR : Hid (reachV (vsOf ss) root = []) := by rw [Hid, reachV, hvb]; rfl
    rw [HR.out]
    clear hvb HR hr hf hg
    go_enter Tryz.func13, Tryz.ntmps13
    go_wp2_with fail
    refine C.mono ?_
    rintro e w1 ⟨rfl, hb1⟩
    have HA := reachAns_none hb1
    clear C
    go_wp2_with fail
    go_ret
    exact HA
  | true =>
    rw [hvb] at C
    have h32 : ss.length = 32 := by have := viewB_len32 hvb; rwa [vsOf_len] at this
    have H32 : Hid (ss.length = 32) := h32
    rw [h32] at C ⊢
    clear h32 hl
    by_cases hri : 1 ≤ root ∧ root ≤ 31
    · have CO := oidOk_in root hri.1 hri.2
      obtain ⟨rn, rfl⟩ : ∃ rn : Nat, root = rn := ⟨root.toNat, by omega⟩
      obtain ⟨b, off, rfl, _⟩ := hr (by intro e; have := H32.out; rw [e] at this; simp at this)
      have HR : Hid (reachV (vsOf ss) rn = reachL (runM (vsOf ss) 40 rn).met) := by rw [Hid, reachV, hvb]; simp [inB, hri.1, hri.2]
      have HLEN : Hid ((runM (vsOf ss) 40 rn).met.length = 32) := runM_len (viewB_rng hvb) (by omega) (by omega)
      have HFROM : Hid (∀ (w0 u : World) (M mb : Nat), Below w.heap.size w w0 → MkAt w0 u M mb (.slice (some ⟨b, off, none⟩) 32 c) 40 emptyM → Calls Tryz.prog 42 #[.pointer (some ⟨M, 0, none⟩), .int .i64 (rn : Int)] u fun e w' => (∃ v, e = .returned v) ∧ MkAt w0 w' M mb (.slice (some ⟨b, off, none⟩) 32 c) 40 (runM (vsOf ss) 40 rn)) := fun w0 u M mb hw h => from_any (by omega) (by omega) hvb rn (by omega) u (hr.below hw) H32.out h
      rw [HR.out]
      clear hvb HR hr hf hg H32
      generalize runM (vsOf ss) 40 rn = FN at *
      obtain ⟨RL, HRL⟩ : ∃ RL, Hid (reachL FN.met = RL) := ⟨_, rfl⟩
      rw [HRL.out]
      go_enter Tryz.func13, Tryz.ntmps13
      go_wp2_with fail
      refine C.mono ?_
      rintro e w1 ⟨rfl, hb1⟩
      clear C
      go_wp2_with fail
      refine (CO w1).mono ?_
      rintro e w2 ⟨rfl, rfl⟩
      clear CO
      go_wp2_with fail
      refine (markingOf_any (some ⟨b, off, none⟩) 32 c 40 w2).mono ?_
      rintro e w3 ⟨M, mb, rfl, hM3⟩
      have C3 := HFROM.out w2 w3 M mb hb1 hM3
      clear HFROM hM3
      go_wp2_with fail
      refine C3.mono ?_
      clear C3
      rintro e w4 ⟨⟨x4, rfl⟩, hM4⟩
      have C5 := reached_any HLEN.out hM4
      rw [HRL.out] at C5
      have hb4 := hM4.bel
      clear hM4
      go_wp2_with fail
      refine C5.mono ?_
      rintro e w5 ⟨a5, c5, rfl, ho5, hb5⟩
      have hB4 : Below w.heap.size w w4 := hb1.trans (hb4.mono hb1.size)
      have HA : Hid (ReachAns w RL (.returned (.slice a5 RL.length c5)) w5) := ⟨a5, c5, rfl, ho5.widen hB4.size (Nat.le_refl _) (Nat.le_refl _), hB4.trans (hb5.mono hB4.size)⟩
      clear C5 hb4 ho5 hb5 hB4
      go_wp2_with fail
      go_ret
      exact HA.out
    · have HR : Hid (reachV (vsOf ss) root = []) := by
        rw [Hid, reachV, if_neg]
        simp only [Bool.and_eq_true]
        exact fun h => hri (by simpa [inB] using h.2)
      have CO := oidOk_out root hri
      rw [HR.out]
      clear hvb HR hr hf hg hri
      go_enter Tryz.func13, Tryz.ntmps13
      go_wp2_with fail
      refine C.mono ?_
      rintro e w1 ⟨rfl, hb1⟩
      have HA := reachAns_none hb1
      clear C
      go_wp2_with fail
      refine (CO w1).mono ?_
      rintro e w2 ⟨rfl, rfl⟩
      clear CO
      go_wp2_with fail
      go_ret
      exact HA
end Go.Proofs.YtajcffchopcamaaGreatDoor

/- The walk of impl.Eval, whole: a set's keys sorted, and impl.Reach, by their contracts. -/
namespace Go.Proofs.YtajcffchopcamaaGreatDoor
open Go.RowKit Go.Maps Go.Sort Go.Shelf

set_option maxHeartbeats 1000000 in
theorem keysGive : KeysGive := by
  intro w mb S hS h
  have cK : ∀ mb W, CallsIn Fence.wide 5 Tryz.prog 62 #[.map mb] W fun e w' => e = .returned (.func (.func 91) #[] #[.pointer (some ⟨W.heap.size, 0, none⟩)]) ∧ w' = W.alloc (.cells #[.map mb] 106) := fun mb W => AnyZI.keys_in Tryz.keysA Fence.wide 5 trivial rfl mb W
  refine ⟨callsIn_wide.1 (cK (some mb) w), ?_⟩
  obtain ⟨nn, D0, hown, hsz, hpm⟩ := h.owns hS
  have hbl := hown.lt
  have hseq : SeqGives Fence.wide 2 Tryz.prog 91 #[.pointer (some ⟨w.heap.size, 0, none⟩)] encZ (fun ss => ss.Perm (intKeys D0)) (Maps.size D0) (w.alloc (.cells #[.map (some mb)] 106)) :=
    AnyZI.keys_gives (ρ := Tryz.keysA_ren) { Tryz.keysA with } Fence.wide _ trivial rfl (by omega) w.heap.size mb nn D0 _ (by simp) (by simp) (by
      obtain ⟨es, clock, hb, Ft, hs, hD⟩ := hown
      exact ⟨es, clock, (Below.heap_alloc _ _ mb hbl).trans hb, Ft, hs, hD⟩)
  have cS := AnyZI.sorted_in Tryz.sortedA Fence.wide 5 trivial trivial trivial trivial rfl (by omega) (sortsHere _) (enters_of Tryz.func90 (by kernel_rfl) rfl) 91 #[.pointer (some ⟨w.heap.size, 0, none⟩)] trivial (enters_of Tryz.func91 (by kernel_rfl) rfl) _ _ (by simp [maxLen]; omega) (by omega) _ hseq
  change CallsIn _ _ Tryz.prog 61 _ _ _ at cS
  refine (callsIn_wide.1 cS).mono ?_
  rintro e w' ⟨vr, ss, rfl, hP, hrow, hnil, hb⟩
  have hP2 := hP.trans hpm
  rw [mergeSort_reachL hP2, hP2.length_eq] at hrow
  have hB : Below w.heap.size w w' := ((Below.refl _ w).alloc (Nat.le_refl _) _).trans (hb.mono (by simp))
  have hrow2 : w'.ownsRow w.heap.size 3 1 vr (reachL S).length ((reachL S).map (Value.int .i64)) := ownsRow_base hrow (fun k hk => Nat.le_trans (by simp) (hrow.lt k hk).1)
  rcases hrow2.2 with ⟨hv, h0⟩ | ⟨g, cap, cur, hv, hrest⟩
  · have h0' : reachL S = [] := List.length_eq_zero_iff.1 h0
    refine ⟨none, 0, by rw [h0']; exact congrArg Ending.returned hv, ?_, hB⟩
    rw [h0']
    exact ownI_nil _ _ _ (Nat.le_refl _)
  · refine ⟨some ⟨g, 0, none⟩, cap, congrArg Ending.returned hv, ⟨?_, Nat.le_refl _, fun k hk => ?_⟩, hB⟩
    · rw [← hv]; exact hrow2
    · rw [← hv] at hk; exact (hrow2.lt k hk).2

theorem implEval_any (a : Option Addr) (c : Nat) (ss : List SlotA) (x : Int) (T : List StepV) (aT : Option Addr) (cT : Nat) (w : World) (hg : ErrT w) (hr : ReadsVw w a ss) (hl : ss.length ≤ 1099511627776) (hf : Fit ss) (hT : ReadsPh w aT T) (hlT : T.length ≤ 1099511627776) :
    Calls Tryz.prog 9 #[.slice a ss.length c, .agg #[.int .i64 x, .slice aT T.length cT]] w fun e w' => ReachAns w (evalV (vsOf ss) x T) e w' := by
  refine implEval_from keysGive a c ss x T aT cT w hg hr hl hf hT hlT (fun hv u hu k h1 hk => ?_)
  have h32 : ss.length = 32 := by have := viewB_len32 hv; rwa [vsOf_len] at this
  have := implReach_any a c ss k u (hg.keep hu) (hr.below hu) hl hf
  rw [h32] at this
  have e : reachV (vsOf ss) k = reachL (runM (vsOf ss) 40 k).met := by
    have hin : inB (k : Int) 1 31 = true := by simp [inB]; omega
    rw [reachV, hv, hin]
    rfl
  rw [e] at this
  exact this
end Go.Proofs.YtajcffchopcamaaGreatDoor

/- The walk of spec.Eval. -/
namespace Go.Proofs.YtajcffchopcamaaGreatDoor
open Go.RowKit

/-- A row of marks that was made. -/
theorem made_cmI {V w2 w3 : World} (hB : Below V.heap.size V w2) (h : w3.ownsRow w2.heap.size 4 1 (.slice (some ⟨w2.heap.size, 0, none⟩) 32 32) 32 (madeCells (Value.bool false).cells (32 * 1)).toList) (hg : w2.grownBy w3 none) : CmI V w2.heap.size w2.heap.size w3.heap.size w3 w3 noneS ∧ Below w2.heap.size w2 w3 := by
  have hB3 : Below w2.heap.size w2 w3 := (Below.refl _ _).grown hg (Nat.le_refl _) (fun k h => by cases h)
  refine ⟨⟨⟨?_, Nat.le_refl _, fun k hk => (h.lt k hk).2⟩, hB.trans (hB3.mono hB.size), Touch.refl _ _, noneS_len⟩, hB3⟩
  have := h
  rw [madeB] at this
  exact this
theorem CmI.rebase {w0 : World} {g lo hi : Nat} {w wr : World} {A : List Bool} (h : CmI w0 g lo hi w wr A) : CmI w0 g lo hi wr wr A := ⟨h.own, h.bel, Touch.refl _ _, h.len⟩

set_option maxHeartbeats 4000000 in
set_option maxRecDepth 100000 in
theorem specEval_any (a : Option Addr) (c : Nat) (ss : List SlotA) (x : Int) (T : List StepV) (aT : Option Addr) (cT : Nat) (w : World) (hr : ReadsVw w a ss) (hf : Fit ss) (hT : ReadsPh w aT T) (hlT : T.length ≤ 1099511627776) :
    Calls Tryz.prog 11 #[.slice a ss.length c, .agg #[.int .i64 x, .slice aT T.length cT]] w fun e w' => ReachAns w (evalV (vsOf ss) x T) e w' := by
  obtain ⟨V, HVV, b0, hbV, hsV, hoV⟩ : ∃ V, Hid ((w.alloc (.cells #[.int .i64 x, .slice aT T.length cT] 27)).alloc (.cells #[] 3) = V) ∧ Box V w.heap.size [.int .i64 x, .slice aT T.length cT] 27 ∧ Below w.heap.size w V ∧ w.heap.size + 1 < V.heap.size ∧ OwnI V w.heap.size V.heap.size (some ⟨w.heap.size + 1, 0, none⟩) 0 [] := by
    obtain ⟨U, hU, b, hb, hs⟩ := boxes1 w [.int .i64 x, .slice aT T.length cT] 27
    have ha := (Below.refl U.heap.size U).alloc (Nat.le_refl _) (.cells #[] 3)
    have hsU : U.heap.size = w.heap.size + 1 := hs
    have h1 := ownI_lit0 U
    rw [hsU] at h1
    refine ⟨U.alloc (.cells #[] 3), ?_, b.below ha b.lt, hb.trans (ha.mono hb.size), by simp; omega, h1.widen (by omega) (by simp; omega) (Nat.le_refl _)⟩
    rw [Hid, hU.out]
  have C1 := specViewOk_any a c ss V (hr.below hbV) hf
  have HC2 : Hid (∀ u, Below V.heap.size V u → Calls Tryz.prog 37 #[.agg #[.int .i64 x, .slice aT T.length cT]] u fun e w' => e = .returned (.bool (pathB x T)) ∧ Below u.heap.size u w') := fun u hu => specPathOk_any x T aT cT u ((hT.below hbV).below hu) hlT
  have HBX : Hid (∀ u, Below V.heap.size V u → Box u w.heap.size [.int .i64 x, .slice aT T.length cT] 27) := fun u hu => b0.below hu b0.lt
  have q0 := b0.cell 0 _ rfl
  have q1 := b0.cell 1 _ rfl
  have HNO : Hid (∀ u, Below V.heap.size V u → ReachAns w [] (.returned (.slice (some ⟨w.heap.size + 1, 0, none⟩) 0 0)) u) := fun u hu => ⟨_, _, rfl, (hoV.below hu).widen (Nat.le_refl _) hu.size (Nat.le_refl _), hbV.trans (hu.mono hbV.size)⟩
  clear b0
  cases hvb : viewB (vsOf ss) with
  | false =>
    rw [hvb] at C1
    have HR : Hid (evalV (vsOf ss) x T = []) := by rw [Hid, evalV, hvb]; rfl
    rw [HR.out]
    clear hvb HR hr hf hT HC2 HBX hoV
    go_enter Tryz.func11, Tryz.ntmps11
    go_upto_region 2 with fail
    rw [HVV.out]
    go_wp2_with fail
    refine C1.mono ?_
    rintro e w1 ⟨rfl, hb1⟩
    have HA : Hid (_) := HNO.out w1 hb1
    clear C1 HNO
    go_wp2_with fail
    go_ret
    exact HA.out
  | true =>
    rw [hvb] at C1
    cases hpb : pathB x T with
    | false =>
      have HR : Hid (evalV (vsOf ss) x T = []) := by rw [Hid, evalV, hpb, Bool.and_false]; rfl
      rw [HR.out]
      rw [hpb] at HC2
      clear hvb HR hr hf hT hoV hpb
      go_enter Tryz.func11, Tryz.ntmps11
      go_upto_region 2 with fail
      rw [HVV.out]
      go_wp2_with fail
      refine C1.mono ?_
      rintro e w1 ⟨rfl, hb1⟩
      have y0 := (HBX.out w1 hb1).cell 0 _ rfl
      have y1 := (HBX.out w1 hb1).cell 1 _ rfl
      have C2 := HC2.out w1 hb1
      clear C1 HC2 HBX q0 q1
      go_wp2_with fail
      refine C2.mono ?_
      rintro e w2 ⟨rfl, hb2⟩
      have HA : Hid (_) := HNO.out w2 (hb1.trans (hb2.mono hb1.size))
      clear C2 HNO
      go_wp2_with fail
      go_ret
      exact HA.out
    | true =>
      have HR : Hid (evalV (vsOf ss) x T = reachL (evalTo (vsOf ss) x T T.length)) := by rw [Hid, evalV, hvb, hpb]; rfl
      rw [HR.out]
      rw [hpb] at HC2
      have h32 : ss.length = 32 := by have := viewB_len32 hvb; rwa [vsOf_len] at this
      obtain ⟨b, off, rfl, _⟩ := hr (by intro e; rw [e] at h32; simp at h32)
      have hx := (pathB_from' hpb)
      obtain ⟨xn, rfl⟩ : ∃ xn : Nat, x = xn := ⟨x.toNat, by omega⟩
      have HV : Hid (∀ u, Below V.heap.size V u → u.cell? ⟨b, off + xn * 4, none⟩ = some (.bool ((vsOf ss).getD xn noS).has)) := fun u hu => (view_cells (hr.below hbV) h32 hu xn (by omega)).1
      have HST : Hid (∀ k, k < T.length → stepB (T.getD k zeroPh) = true) := (pathB_info hpb).2.2
      have HTL := (pathB_info hpb).2.1
      have HTC : Hid (∀ u, Below V.heap.size V u → ∀ k, k < T.length → ∃ bt ot, aT = some ⟨bt, ot, none⟩ ∧ u.cell? ⟨bt, ot + k * 2, none⟩ = some (.int .i64 (T.getD k zeroPh).kd) ∧ u.cell? ⟨bt, ot + k * 2 + 1, none⟩ = some (.int .i64 (T.getD k zeroPh).num)) := fun u hu k hk => by
        obtain ⟨bt, ot, ha, hc⟩ := ((hT.below hbV).below hu) (by intro e; rw [e] at hk; simp at hk)
        exact ⟨bt, ot, ha, hc k hk⟩
      have HCM : Hid (∀ (s : StepV), stepB s = true → ∀ (k : Nat), k < 32 → ∀ (g lo hi : Nat) (A : List Bool) (u : World), V.heap.size ≤ g → CmI V g lo hi u u A → Calls Tryz.prog 38 #[.slice (some ⟨b, off, none⟩) 32 c, .int .i64 (k : Int), .agg #[.int .i64 s.kd, .int .i64 s.num], .slice (some ⟨g, 0, none⟩) 32 32] u fun e w' => ComesAns V g lo hi u w' (comesS (vsOf ss) s A k) e) := fun s hs k hk g lo hi A u hg hI => l12Comes_any b off c ss (hr.below hbV) h32 hvb s hs k hk g lo hi A u hg hI
      rw [h32] at C1 ⊢
      clear hf hT hvb hpb HR hr h32 HNO
      obtain ⟨i0, hi, hz0, hz1, hz2⟩ := info_parts Tryz.infoBool
      generalize vsOf ss = vs at *
      go_enter Tryz.func11, Tryz.ntmps11
      go_upto_region 2 with fail
      rw [HVV.out]
      clear HVV
      go_wp2_with fail
      refine C1.mono ?_
      rintro e w1 ⟨rfl, hb1⟩
      have y0 := (HBX.out w1 hb1).cell 0 _ rfl
      have y1 := (HBX.out w1 hb1).cell 1 _ rfl
      have C2 := HC2.out w1 hb1
      clear C1 HC2 q0 q1
      go_wp2_with fail
      refine C2.mono ?_
      rintro e w2 ⟨rfl, hb2⟩
      have B2 : Below V.heap.size V w2 := hb1.trans (hb2.mono hb1.size)
      clear C2 y0 y1 hb1 hb2
      go_upto_region 5 with (first | (at_make; refine wpList_make_full _ rfl _ _ 73 rfl w2.heap.size 4 i0 (.bool false) 1 Tryz.underlying73 hi hz0 hz1 _ _ _ _ 32 rfl rfl rfl rfl (by rw [hz2]; omega) (by simp [maxLen]) (Nat.le_refl _) ?_; intro w3 hown3 hgrow3) | fail)
      obtain ⟨hM3, hB3⟩ := made_cmI B2 hown3 hgrow3
      have hM4 := hM3.below ((Below.refl w3.heap.size w3).drew)
      have hg : V.heap.size ≤ w2.heap.size := B2.size
      obtain ⟨W4, hW4, HX⟩ := hM4.rebase.mark hg xn (vs.getD xn noS).has
      have z0 := hM4.cell xn (by omega)
      have fz := hM4.own.1.frozenAt xn
      have p0 := (HBX.out _ hM4.bel).cell 0 _ rfl
      have v0 := HV.out _ hM4.bel
      have hxI : (xn : Int) < 32 := by omega
      have hx0 : (0 : Int) ≤ (xn : Int) := by omega
      have HS0 : Hid (startS vs xn = noneS.set xn (vs.getD xn noS).has) := by rw [Hid, startS, hasM, Int.toNat_natCast]
      clear hown3 hgrow3 hM3
      have hlow := hM4.own.lt _ rfl
      have hne1 : w2.heap.size ≠ w.heap.size := by omega
      have hh : w3.drew.cell? ⟨w.heap.size, 0, none⟩ = some (.int .i64 (xn : Int)) ∧ w3.drew.cell? ⟨b, off + xn * 4, none⟩ = some (.bool (vs.getD xn noS).has) := ⟨p0, v0⟩
      generalize (vs.getD xn noS).has = hb at *
      refine wp_region_late (· == 10) (S := fun u => u.cell? ⟨w.heap.size, 0, none⟩ = some (.int .i64 (xn : Int)) ∧ u.cell? ⟨b, off + xn * 4, none⟩ = some (.bool hb)) (by kernel_rfl) hh (fun hHeld => ?_)
      generalize w3.drew = d3 at *
      refine wpAnyL_take (i := 0) (v := .slice (some ⟨w2.heap.size, 0, none⟩) 32 32) rfl (by kernel_rfl) (fun _ _ _ h => h) (Or.inl ⟨by rfl, ?_⟩) hHeld ?_
      · intro w' hSw
        go_simp <;> rfl
      try simp only [Act.put, List.getElem_toArray, List.getElem_cons_zero, List.setIfInBounds_toArray, List.set_cons_zero, List.set_cons_succ]
      refine wpAnyL_take (i := 1) (v := .pointer (some ⟨w.heap.size, 0, none⟩)) rfl (by kernel_rfl) (fun _ _ _ h => h) (Or.inl ⟨by rfl, ?_⟩) hHeld ?_
      · intro w' hSw
        go_simp <;> rfl
      try simp only [Act.put, List.getElem_toArray, List.getElem_cons_zero, List.getElem_cons_succ, List.setIfInBounds_toArray, List.set_cons_zero, List.set_cons_succ]
      refine wpAnyL_take (i := 2) (v := .int .i64 (xn : Int)) rfl (by kernel_rfl) (fun _ _ _ h => h) (Or.inl ⟨by rfl, ?_⟩) hHeld ?_
      · intro w' hSw
        have hx := hSw.1
        go_simp <;> rfl
      try simp only [Act.put, List.getElem_toArray, List.getElem_cons_zero, List.getElem_cons_succ, List.setIfInBounds_toArray, List.set_cons_zero, List.set_cons_succ]
      refine wpAnyL_take (i := 3) (v := .slice (some ⟨b, off, none⟩) 32 c) rfl (by kernel_rfl) (fun _ _ _ h => h) (Or.inl ⟨by rfl, ?_⟩) hHeld ?_
      · intro w' hSw
        go_simp <;> rfl
      try simp only [Act.put, List.getElem_toArray, List.getElem_cons_zero, List.getElem_cons_succ, List.setIfInBounds_toArray, List.set_cons_zero, List.set_cons_succ]
      refine wpAnyL_take (i := 4) (v := .pointer (some ⟨w.heap.size, 0, none⟩)) rfl (by kernel_rfl) (fun _ _ _ h => h) (Or.inl ⟨by rfl, ?_⟩) hHeld ?_
      · intro w' hSw
        go_simp <;> rfl
      try simp only [Act.put, List.getElem_toArray, List.getElem_cons_zero, List.getElem_cons_succ, List.setIfInBounds_toArray, List.set_cons_zero, List.set_cons_succ]
      refine wpAnyL_take (i := 5) (v := .int .i64 (xn : Int)) rfl (by kernel_rfl) (fun _ _ _ h => h) (Or.inl ⟨by rfl, ?_⟩) hHeld ?_
      · intro w' hSw
        have hx := hSw.1
        go_simp <;> rfl
      try simp only [Act.put, List.getElem_toArray, List.getElem_cons_zero, List.getElem_cons_succ, List.setIfInBounds_toArray, List.set_cons_zero, List.set_cons_succ]
      refine wpAnyL_take (i := 6) (v := .pointer (some ⟨b, off + xn * 4, none⟩)) rfl (by kernel_rfl) (fun _ _ _ h => h) (Or.inl ⟨by rfl, ?_⟩) hHeld ?_
      · intro w' hSw
        go_simp <;> rfl
      try simp only [Act.put, List.getElem_toArray, List.getElem_cons_zero, List.getElem_cons_succ, List.setIfInBounds_toArray, List.set_cons_zero, List.set_cons_succ]
      refine wpAnyL_take (i := 7) (v := .pointer (some ⟨b, off + xn * 4, none⟩)) rfl (by kernel_rfl) (fun _ _ _ h => h) (Or.inl ⟨by rfl, ?_⟩) hHeld ?_
      · intro w' hSw
        go_simp <;> rfl
      try simp only [Act.put, List.getElem_toArray, List.getElem_cons_zero, List.getElem_cons_succ, List.setIfInBounds_toArray, List.set_cons_zero, List.set_cons_succ]
      refine wpAnyL_take (i := 8) (v := .bool hb) rfl (by kernel_rfl) (fun _ _ _ h => h) (Or.inl ⟨by rfl, ?_⟩) hHeld ?_
      · intro w' hSw
        have hx := hSw.2
        go_simp <;> rfl
      try simp only [Act.put, List.getElem_toArray, List.getElem_cons_zero, List.getElem_cons_succ, List.setIfInBounds_toArray, List.set_cons_zero, List.set_cons_succ]
      refine wpAnyL_take (i := 9) (v := .pointer (some ⟨w2.heap.size, xn, none⟩)) rfl (by kernel_rfl) (fun _ _ _ h => h) (Or.inl ⟨by rfl, ?_⟩) hHeld ?_
      · intro w' hSw
        go_simp <;> rfl
      try simp only [Act.put, List.getElem_toArray, List.getElem_cons_zero, List.getElem_cons_succ, List.setIfInBounds_toArray, List.set_cons_zero, List.set_cons_succ]
      refine wpAnyL_last 10 (by kernel_rfl) rfl rfl (fun K hK => ?_)
      go_simp
      rw [hW4.out]
      refine hK.out _ _ ?_
      clear hK K
      refine wpAnyL_done (by kernel_rfl) ?_ _
      rw [← HS0.out] at HX
      have HX4 : Hid (CmI V w2.heap.size w2.heap.size w3.heap.size W4 W4 (evalTo vs xn T 0)) := HX.out.rebase
      clear hHeld hW4 HX HS0 z0 fz p0 v0 hh hM4 hB3 hlow hne1 HV B2
      generalize w2.heap.size = g0 at *
      generalize w3.heap.size = h0 at *
      go_wp2_with fail
      go_loopw [6, 7] (fun v6 v7 wr => ∃ (i g lo hi : Nat), i ≤ T.length ∧ v6 = .slice (some ⟨g, 0, none⟩) 32 32 ∧ v7 = .int .i64 i ∧ V.heap.size ≤ g ∧ Hid (CmI V g lo hi wr wr (evalTo vs xn T i))) (fun _ v7 _ => T.length - (RowKit.intOf v7).toNat)
      case atStart => exact ⟨0, g0, _, _, Nat.zero_le _, rfl, rfl, hg, HX4⟩
      case round =>
        obtain ⟨i, g, lo, hiG, hi8, rfl, rfl, hgV, hJ⟩ := hrel
        clear HX4
        have y1 := (HBX.out wr hJ.out.bel).cell 1 _ rfl
        by_cases hlt : i < T.length
        · obtain ⟨bt, ot, rfl, -⟩ := HTC.out wr hJ.out.bel i hlt
          have HTC2 : Hid (∀ u, Below V.heap.size V u → u.cell? ⟨bt, ot + i * 2, none⟩ = some (.int .i64 (T.getD i zeroPh).kd) ∧ u.cell? ⟨bt, ot + i * 2 + 1, none⟩ = some (.int .i64 (T.getD i zeroPh).num)) := fun u hu => by
            obtain ⟨b', o', e, h1⟩ := HTC.out u hu i hlt
            cases e
            exact h1
          have hsb := HST.out i hlt
          have HEV : Hid (evalTo vs xn T (i + 1) = nextS vs (T.getD i zeroPh) (evalTo vs xn T i)) := evalTo_step vs xn T hlt
          have HIL : Hid ((i : Int) < (T.length : Int)) := by rw [Hid]; omega
          generalize T.getD i zeroPh = sv at *
          obtain ⟨SI, HSI⟩ : ∃ SI, Hid (evalTo vs xn T i = SI) := ⟨_, rfl⟩
          rw [HSI.out] at hJ HEV
          clear HSI
          generalize wr = wp at *
          go_upto_region 10 with (first | (at_make; refine wpList_make_full _ rfl _ _ 73 rfl wp.heap.size 4 i0 (.bool false) 1 Tryz.underlying73 hi hz0 hz1 _ _ _ _ 32 rfl rfl rfl rfl (by rw [hz2]; omega) (by simp [maxLen]) (Nat.le_refl _) ?_; intro w5 hown5 hgrow5) | fail)
          obtain ⟨hM5, hB5⟩ := made_cmI hJ.out.bel hown5 hgrow5
          have hgp : g < wp.heap.size := Nat.lt_of_lt_of_le (hJ.out.own.lt g rfl).2 hJ.out.own.2.1
          have hVp : V.heap.size ≤ wp.heap.size := hJ.out.bel.size
          have hO5 := hJ.out.below hB5
          have HOLD : Hid (∀ u A, CmI V wp.heap.size wp.heap.size w5.heap.size w5 u A → ∀ n, n < 32 → u.cell? ⟨g, n, none⟩ = some (.bool (SI.getD n false))) := fun u A h n hn => bl_cell (hO5.own.touch h.tch (fun q hq => by cases hq; simp; omega)) (by rw [hO5.len]; exact hn)
          have HM5 : Hid (CmI V wp.heap.size wp.heap.size w5.heap.size w5 w5 noneS) := hM5
          clear hown5 hgrow5 hM5 hO5 hB5 hJ y1
          generalize wp.heap.size = g2 at *
          generalize w5.heap.size = h5 at *
          go_wp2_with fail
          go_loopw [9] (fun v9 wr => ∃ n : Nat, n ≤ 32 ∧ v9 = .int .i64 n ∧ Hid (CmI V g2 g2 h5 w5 wr ((reachTo SI n).foldl (comesS vs sv) noneS))) (fun v9 _ => 32 - (RowKit.intOf v9).toNat)
          case atStart => exact ⟨0, Nat.zero_le _, rfl, HM5⟩
          case round =>
            obtain ⟨n, hn, rfl, hK⟩ := hrel
            clear HM5
            by_cases hnl : n < 32
            · have m0 := HOLD.out wr _ hK.out n hnl
              have HTS : Hid (_ = _) := reachTo_step SI n
              have hnI : (n : Int) < 32 := by omega
              generalize SI.getD n false = mt at *
              cases mt with
              | false =>
                have HQ : Hid (reachTo SI (n + 1) = reachTo SI n) := HTS.out
                clear HTS
                go_wp2_with fail
                go_roundw
                case rel => exact ⟨n + 1, by omega, by go_num, by rw [HQ.out]; exact hK⟩
                case measure => simp [RowKit.intOf]; omega
              | true =>
                have HQ : Hid ((reachTo SI (n + 1)).foldl (comesS vs sv) noneS = comesS vs sv ((reachTo SI n).foldl (comesS vs sv) noneS) n) := by
                  have e := HTS.out
                  rw [if_pos rfl] at e
                  rw [Hid, e, List.foldl_append]
                  rfl
                have y1 := (HBX.out wr hK.out.bel).cell 1 _ rfl
                obtain ⟨t0, t1⟩ := HTC2.out wr hK.out.bel
                have C := HCM.out sv hsb n hnl g2 g2 h5 _ wr hVp hK.out.rebase
                clear HTS
                go_wp2_with fail
                refine C.mono ?_
                clear C
                rintro e w6 ⟨⟨v6, rfl⟩, h6⟩
                have HN : Hid (CmI V g2 g2 h5 w5 w6 ((reachTo SI (n + 1)).foldl (comesS vs sv) noneS)) := by
                  rw [HQ.out]
                  exact ⟨h6.own, h6.bel, hK.out.tch.trans h6.tch, h6.len⟩
                clear hK h6 t0 t1 y1 m0
                go_wp2_with fail
                go_roundw
                case rel => exact ⟨n + 1, by omega, by go_num, HN⟩
                case measure => simp [RowKit.intOf]; omega
            · have HN : Hid (CmI V g2 g2 h5 wr wr (evalTo vs xn T (i + 1))) := by
                have h1 := hK.out.rebase
                rw [show n = 32 from by omega] at h1
                rw [HEV.out]
                exact h1
              clear hK HEV HOLD HTC2
              go_wp2_with fail
              go_roundw
              case rel => exact ⟨i + 1, g2, g2, h5, by omega, rfl, by go_num, hVp, HN⟩
              case measure => simp [RowKit.intOf]; omega
        · obtain rfl : i = T.length := by omega
          have HLEN : Hid ((evalTo vs xn T T.length).length = 32) := evalTo_len vs xn T T.length
          obtain ⟨FM, HFM⟩ : ∃ FM, Hid (evalTo vs xn T T.length = FM) := ⟨_, rfl⟩
          rw [HFM.out] at hJ HLEN
          have HS0 : Hid (OwnI wr w.heap.size wr.heap.size (some ⟨w.heap.size + 1, 0, none⟩) 0 (reachTo FM 0) ∧ OwnBl wr V.heap.size wr.heap.size (some ⟨g, 0, none⟩) 32 FM ∧ (∀ k, (Value.slice (some ⟨w.heap.size + 1, 0, none⟩) (reachTo FM 0).length 0).ownBlock = some k → k ≠ g) ∧ Below w.heap.size w wr) := by
            have hb := hJ.out.bel
            have hg1 := hJ.out.own.lt g rfl
            have hg2 := hJ.out.own.2.1
            refine ⟨(hoV.below hb).widen (Nat.le_refl _) hb.size (Nat.le_refl _), ⟨ownsRow_base hJ.out.own.1 (fun k hk => by cases hk; exact hgV), Nat.le_refl _, fun k hk => by cases hk; show g < _; omega⟩, fun k hk => ?_, hbV.trans (hb.mono hbV.size)⟩
            have h3 : k = w.heap.size + 1 := by cases hk; rfl
            omega
          have hlow : w.heap.size ≤ V.heap.size := hbV.size
          clear hJ HCM HTC HBX HST hoV hbV
          generalize wr = wq at *
          go_wp2_with fail
          clear y1
          go_loopw [5, 10] (fun v5 i wr => ∃ (n : Nat) (a : Option Addr) (c : Nat), n ≤ 32 ∧ (reachTo FM n).length ≤ n ∧ i = .int .i64 n ∧ v5 = .slice a (reachTo FM n).length c ∧ Hid (OwnI wr w.heap.size wr.heap.size a c (reachTo FM n) ∧ OwnBl wr V.heap.size wr.heap.size (some ⟨g, 0, none⟩) 32 FM ∧ (∀ k, (Value.slice a (reachTo FM n).length c).ownBlock = some k → k ≠ g) ∧ Below w.heap.size w wr)) (fun _ i _ => 32 - (RowKit.intOf i).toNat)
          case atStart => exact ⟨0, _, _, by omega, by simp [reachTo], rfl, rfl, HS0⟩
          case round =>
            obtain ⟨n, a, c5, hn, hln, rfl, rfl, hI⟩ := hrel
            clear HS0
            by_cases hlt : n < 32
            · have m0 := bl_cell hI.out.2.1 (k := n) (by rw [HLEN.out]; exact hlt)
              have HST : Hid (_ = _) := reachTo_step FM n
              have hnI : (n : Int) < 32 := by omega
              have HLN2 : Hid (_) := reachTo_len FM (n + 1)
              generalize FM.getD n false = mt at *
              obtain ⟨R, HRR⟩ : ∃ R, Hid (reachTo FM n = R) := ⟨_, rfl⟩
              rw [HRR.out] at hI hln HST ⊢
              cases mt with
              | false =>
                have HQ : Hid (reachTo FM (n + 1) = R) := HST.out
                clear HST HRR
                go_wp2_with fail
                go_roundw
                case rel => exact ⟨n + 1, a, c5, by omega, by rw [HQ.out]; omega, by go_num, by rw [HQ.out], by rw [HQ.out]; exact hI⟩
                case measure => simp [RowKit.intOf]; omega
              | true =>
                have HQ : Hid (reachTo FM (n + 1) = R ++ [(n : Int)]) := HST.out
                have hlo := hI.out.2.2.2.size
                have ha := (Below.refl wr.heap.size wr).alloc (Nat.le_refl _) (.cells #[.int .i64 (n : Int)] 3)
                have ho := hI.out.1.below ha
                clear HST HRR
                go_wp2_with (first | (at_builtin; refine append_intsM rfl _ _ rfl w.heap.size wr.heap.size a c5 R rfl ho _ _ [(n : Int)] rfl (readsI_one wr n _) (fun h => by cases h) (by simp; omega) (by simp; omega) ?_; intro a4 c4 y4 w4 hy4 ho4 hg4 hk4) | fail)
                have HN : Hid (reachTo FM (n + 1) = y4 ∧ OwnI w4 w.heap.size w4.heap.size a4 c4 y4 ∧ OwnBl w4 V.heap.size w4.heap.size (some ⟨g, 0, none⟩) 32 FM ∧ (∀ k, (Value.slice a4 y4.length c4).ownBlock = some k → k ≠ g) ∧ Below w.heap.size w w4) := by
                  obtain ⟨i1, i2, i3, i4⟩ := hI.out
                  have hglt : g < wr.heap.size := i2.2.2 g rfl
                  have hm := i2.below ha
                  refine ⟨by rw [HQ.out, hy4.out], ho4, ⟨ownsRow_block hm.1 (fun k hk2 => hg4.block k (hm.1.lt k hk2).2 (fun e => by cases hk2; exact i3 g e.symm rfl)), Nat.le_refl _, fun k hk2 => Nat.lt_of_lt_of_le (hm.1.lt k hk2).2 hg4.size⟩, fun k hk2 => ?_, (i4.trans (ha.mono i4.size)).grown hg4 (Nat.le_trans i4.size ha.size) (fun j hj => (i1.1.lt j hj).1)⟩
                  rcases hk4 k hk2 with h2 | h2
                  · exact i3 k h2
                  · simp at h2; omega
                clear ho4 hg4 hk4 hy4 ho hI HQ ha
                go_roundw
                case rel => exact ⟨n + 1, a4, c4, by omega, HLN2.out, by go_num, by rw [HN.out.1], by rw [HN.out.1]; exact HN.out.2⟩
                case measure => simp [RowKit.intOf]; omega
            · obtain rfl : n = 32 := by omega
              have HQ : Hid (ReachAns w (reachL (evalTo vs xn T T.length)) (.returned (.slice a (reachTo FM 32).length c5)) wr) := by rw [HFM.out]; exact ⟨a, c5, rfl, hI.out.1, hI.out.2.2.2⟩
              clear hI
              go_wp2_with fail
              go_ret
              exact HQ.out
end Go.Proofs.YtajcffchopcamaaGreatDoor

/- Plain mathematics of the law of drawn paths: what a path asks is there and reached; a path of one deep step asks for what is reached. -/
namespace Go.Proofs.YtajcffchopcamaaGreatDoor

theorem metM_setAll {l : List Int} (hl : ∀ x ∈ l, 0 ≤ x ∧ x ≤ 31) : ∀ {A : List Bool}, A.length = 32 → ∀ i, 0 ≤ i → (metM (setAll A l) i = true ↔ (metM A i = true ∨ i ∈ l)) := by
  induction l with
  | nil => intro A _ i _; simp [setAll]
  | cons x l ih =>
    intro A hA i hi
    have h1 := ih (fun y hy => hl y (List.mem_cons_of_mem _ hy)) (A := A.set x.toNat true) (by rw [List.length_set]; exact hA) i hi
    have e : setAll A (x :: l) = setAll (A.set x.toNat true) l := rfl
    rw [e, h1, metM_set hA (hl x List.mem_cons_self) hi]
    simp only [Bool.or_eq_true, decide_eq_true_eq, List.mem_cons]
    constructor
    · rintro ((h | h) | h)
      · exact .inl h
      · exact .inr (.inl h)
      · exact .inr (.inr h)
    · rintro (h | h | h)
      · exact .inl (.inl h)
      · exact .inl (.inr h)
      · exact .inr h
theorem ReachM.rootHas {vs : List SlotV} {r i : Int} (h : ReachM vs r i) : hasM vs r = true := by
  induction h with
  | root h => exact h
  | step _ _ _ ih => exact ih

theorem eval_deep {vs : List SlotV} (hv : viewB vs = true) (xn : Nat) (hx : 1 ≤ (xn : Int) ∧ (xn : Int) ≤ 31) : evalV vs xn [⟨3, 0⟩] = reachL (runM vs 40 xn).met := by
  have hp : pathB (xn : Int) [⟨3, 0⟩] = true := by
    simp [pathB, stepB, inB, hx.1, hx.2]
  obtain ⟨hl, _, hi⟩ := runM_reach (viewB_rng hv) (most := 40) (by omega) (by omega) (show 0 ≤ (xn : Int) ∧ (xn : Int) ≤ 31 by omega)
  rw [evalV, hv, hp, Bool.and_self, if_pos rfl]
  congr 1
  have e1 : evalTo vs xn [⟨3, 0⟩] ([⟨3, 0⟩] : List StepV).length = nextS vs ⟨3, 0⟩ (startS vs xn) := rfl
  rw [e1]
  refine met_ext (nextS_len vs _ _) hl (fun i hi0 => ?_)
  rw [hi i hi0, nextS, reachL_start xn (by omega), List.filter_cons]
  cases hh : hasM vs (xn : Int) with
  | false =>
    rw [if_neg (by decide)]
    simp only [List.filter_nil, List.foldl_nil]
    rw [metM_none]
    constructor
    · intro h; cases h
    · intro h; have := h.rootHas; rw [hh] at this; cases this
  | true =>
    rw [if_pos rfl]
    simp only [List.filter_nil, List.foldl_cons, List.foldl_nil]
    rw [comesS, comes_3, metM_setAll (fun y hy => ?_) noneS_len i hi0, metM_none, reachL_in hl]
    · constructor
      · rintro (h | h)
        · cases h
        · exact (hi i hi0).1 h.2
      · intro h; exact .inr ⟨hi0, (hi i hi0).2 h⟩
    · have h1 := (reachL_in hl y).1 hy
      exact ReachM.rng (viewB_rng hv) (by omega) ((hi y h1.1).1 h1.2)

/-- What a path asks is there, and reached from where it begins. -/
theorem asked_there {vs : List SlotV} (hv : viewB vs = true) {x : Int} (hx : 1 ≤ x ∧ x ≤ 31) (T : List StepV) (n : Nat) : ∀ y ∈ reachL (evalTo vs x T n), ∃ k : Nat, y = k ∧ k < 32 ∧ (vs.getD k noS).has = true ∧ (reachL (runM vs 40 x).met).any (· == y) = true := by
  intro y hy
  obtain ⟨h1, h2⟩ := (evalTo_good (viewB_rng hv) hx T n).mem y hy
  obtain ⟨hl, _, hi⟩ := runM_reach (viewB_rng hv) (most := 40) (by omega) (by omega) (show 0 ≤ x ∧ x ≤ 31 by omega)
  refine ⟨y.toNat, by omega, by omega, h2.has, ?_⟩
  rw [List.any_eq_true]
  exact ⟨y, (reachL_in hl y).2 ⟨h1.1, (hi y h1.1).2 h2⟩, by simp⟩
end Go.Proofs.YtajcffchopcamaaGreatDoor
