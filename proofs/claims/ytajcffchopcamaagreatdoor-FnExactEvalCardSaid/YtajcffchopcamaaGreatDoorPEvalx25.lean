/- Several texts in one, in their order. -/
import Derived.Test.YtajcffchopcamaaGreatDoorPEvalx16
import Derived.Test.YtajcffchopcamaaGreatDoorPEvalx24
import Derived.Test.YtajcffchopcamaaGreatDoorPEvalx19
import Derived.Test.YtajcffchopcamaaGreatDoorPEvalx20
import Derived.Test.YtajcffchopcamaaGreatDoorPEvalx17
/- The walks of impl.allSlotsOk, ViewOk. -/
namespace Go.Proofs.YtajcffchopcamaaGreatDoor
open Go.RowKit

set_option maxHeartbeats 1000000 in
set_option maxRecDepth 100000 in
theorem allSlotsOk_any (a : Option Addr) (c : Nat) (ss : List SlotA) (w : World) (hg : ErrT w) (hr : ReadsVw w a ss) (hl : ss.length ≤ 1099511627776) (hf : Fit ss) :
    Calls Tryz.prog 58 #[.slice a ss.length c] w fun e w' => e = .returned (.bool ((vsOf ss).all slotB)) ∧ Below w.heap.size w w' := by
  have HC : Hid (∀ u, Below w.heap.size w u → ∀ k, k < ss.length → ∃ b off, a = some ⟨b, off, none⟩ ∧ u.rangeAt b (off + k * 4) (ss.getD k zeroS).cells ∧ (ss.getD k zeroS).reads u ∧ Fit [ss.getD k zeroS] ∧ ErrT u) := fun u hu k hk => by
    obtain ⟨b, off, ha, hc⟩ := (hr.below hu) (by intro e; rw [e] at hk; simp at hk)
    exact ⟨b, off, ha, (hc k hk).1, (hc k hk).2, hf.one hk, hg.keep hu⟩
  have HL := vsOf_len ss
  have HHIT : Hid (∀ k, k < ss.length → slotB (ss.getD k zeroS).v = false → (vsOf ss).all slotB = false) := fun k hk h => all_hit (z := noS) (k := k) (by omega) (by rw [vsOf_at]; exact h)
  have HSTEP : Hid (∀ k, k < ss.length → ((vsOf ss).take k).all slotB = true → slotB (ss.getD k zeroS).v = true → ((vsOf ss).take (k + 1)).all slotB = true) := fun k hk h h1 => all_step (z := noS) (by omega) h (by rw [vsOf_at]; exact h1)
  have HEND : Hid (∀ k, ¬ k < ss.length → ((vsOf ss).take k).all slotB = true → (vsOf ss).all slotB = true) := fun k hk h => all_end (by omega) h
  clear hr hf HL hg
  generalize (vsOf ss).all slotB = R at *
  generalize vsOf ss = L at *
  go_enter Tryz.func58, Tryz.ntmps58
  go_wp2
  go_loopw [7] (fun i wr => ∃ k : Nat, k ≤ ss.length ∧ i = .int .i64 k ∧ Hid ((L.take k).all slotB = true) ∧ Below w.heap.size w wr) (fun i _ => ss.length - (RowKit.intOf i).toNat)
  case atStart => exact ⟨0, Nat.zero_le _, rfl, (show (L.take 0).all slotB = true by simp), Below.refl _ _⟩
  case round =>
    obtain ⟨k, hk, rfl, hall, hbl⟩ := hrel
    by_cases hlt : k < ss.length
    · obtain ⟨b, off, rfl, hra, hrz, hfz, hgz⟩ := HC.out wr hbl k hlt
      have HH1 : Hid (slotB (ss.getD k zeroS).v = false → R = false) := fun h => HHIT.out k hlt h
      have HH2 : Hid (slotB (ss.getD k zeroS).v = true → (L.take (k + 1)).all slotB = true) := fun h => HSTEP.out k hlt hall.out h
      clear HC HHIT HSTEP HEND hall
      generalize ss.getD k zeroS = z at *
      obtain ⟨V, hV, bz, hbV, hsV⟩ := boxes1 wr z.cells 41
      have C := slotOk_any z V (hgz.keep hbV) (ReadsO.below hrz hbV) hfz
      have hB : Below w.heap.size w V := hbl.trans (hbV.mono hbl.size)
      simp only [SlotA.cells] at hV bz hra C
      have c0 := hra 0 _ rfl
      have c1 := hra 1 _ rfl
      have c2 := hra 2 _ rfl
      have c3 := hra 3 _ rfl
      rw [Nat.add_zero] at c0
      obtain ⟨q0, q1, q2, q3, _⟩ := bz.four
      generalize slotB z.v = zb at *
      clear hsV hbV hra hrz hfz hgz bz
      cases zb with
      | false =>
        have HR : Hid (R = false) := HH1.out rfl
        clear HH1 HH2
        go_wp2_with fail
        rw [hV.out]
        go_wp2_with fail
        refine C.mono ?_
        rintro e w1 ⟨rfl, hb1⟩
        go_wp2
        go_ret
        exact ⟨ret_bool HR.out.symm, hB.trans (hb1.mono hB.size)⟩
      | true =>
        have HN : Hid ((L.take (k + 1)).all slotB = true) := HH2.out rfl
        clear HH1 HH2
        go_wp2_with fail
        rw [hV.out]
        go_wp2_with fail
        refine C.mono ?_
        rintro e w1 ⟨rfl, hb1⟩
        have hB1 : Below w.heap.size w w1 := hB.trans (hb1.mono hB.size)
        clear C hV hb1 hB
        go_wp2_with fail
        go_roundw
        case rel => exact ⟨k + 1, by omega, by go_num, HN, hB1⟩
        case measure => simp [RowKit.intOf]; omega
    · have HR : Hid (R = true) := HEND.out k hlt hall.out
      clear HC HHIT HSTEP HEND hall
      go_wp2
      go_ret
      exact ⟨ret_bool HR.out.symm, hbl⟩

set_option maxHeartbeats 1000000 in
set_option maxRecDepth 100000 in
theorem implViewOk_any (a : Option Addr) (c : Nat) (ss : List SlotA) (w : World) (hg : ErrT w) (hr : ReadsVw w a ss) (hl : ss.length ≤ 1099511627776) (hf : Fit ss) :
    Calls Tryz.prog 33 #[.slice a ss.length c] w fun e w' => e = .returned (.bool (viewB (vsOf ss))) ∧ Below w.heap.size w w' := by
  have C := allSlotsOk_any a c ss w hg hr hl hf
  by_cases h32 : ss.length = 32
  · have HV : Hid (viewB (vsOf ss) = (!(ss.getD 0 zeroS).v.has && (vsOf ss).all slotB)) := by
      rw [Hid, viewB_zero (by rw [vsOf_len]; exact h32), vsOf_at]
    obtain ⟨b, off, rfl, hc⟩ := hr (by intro e; rw [e] at h32; simp at h32)
    have hra := (hc 0 (by omega)).1
    rw [Nat.zero_mul, Nat.add_zero] at hra
    generalize viewB (vsOf ss) = R at *
    generalize (vsOf ss).all slotB = B at *
    generalize ss.getD 0 zeroS = z at *
    have c0 : w.cell? ⟨b, off, none⟩ = some (.bool z.v.has) := hra 0 _ rfl
    rw [h32] at C ⊢
    clear hc hra h32 hl hf hr hg
    generalize z.v.has = zb at *
    cases zb with
    | true =>
      have HR : Hid (R = false) := HV.out
      clear HV C
      go_enter Tryz.func33, Tryz.ntmps33
      go_wp2
      go_ret
      exact ⟨ret_bool HR.out.symm, Below.refl _ _⟩
    | false =>
      have HR : Hid (R = B) := HV.out
      clear HV
      go_enter Tryz.func33, Tryz.ntmps33
      go_wp2_with fail
      refine C.mono ?_
      rintro e w1 ⟨rfl, hb1⟩
      go_wp2
      go_ret
      exact ⟨ret_bool HR.out.symm, hb1⟩
  · have HR : Hid (viewB (vsOf ss) = false) := viewB_len (by rw [vsOf_len]; exact h32)
    have hne : ((ss.length : Int) == 32) = false := by rw [beq_eq_false_iff_ne]; omega
    generalize viewB (vsOf ss) = R at *
    clear C hf hr hg
    go_enter Tryz.func33, Tryz.ntmps33
    go_wp2
    go_ret
    exact ⟨ret_bool HR.out.symm, Below.refl _ _⟩
end Go.Proofs.YtajcffchopcamaaGreatDoor

/- The walk of impl.Mark. -/
namespace Go.Proofs.YtajcffchopcamaaGreatDoor
open Go.RowKit

theorem loopM_len {vs : List SlotV} (hv : RngM vs) {most : Nat} (h40 : most ≤ 40) : ∀ (n : Nat) (st : MSt), GoodM most st → st.stack = [] → (loopM vs most n st).met.length = 32 := by
  intro n
  induction n with
  | zero => intro st g _; exact g.len
  | succ n ih =>
    intro st g e
    unfold loopM
    split
    · obtain ⟨_, _, hg⟩ := anewM_good (vs := vs) g
      obtain ⟨g2, e2, _⟩ := drainM_good hv 72 _ hg (hg.size h40)
      exact ih _ g2 e2
    · exact g.len
theorem madeB (n : Nat) : (madeCells (Value.bool false).cells n).toList = (List.replicate n false).map Value.bool := by
  apply List.ext_getElem?
  intro i
  by_cases h : i < n
  · simp [madeCells, h]
    show (#[Value.bool false] : Array Value)[i % 1]! = _
    rw [Nat.mod_one]
    rfl
  · rw [List.getElem?_eq_none (by simp [size_madeCells]; omega), List.getElem?_eq_none (by simp; omega)]

theorem runM_len {vs : List SlotV} (hv : RngM vs) {most : Nat} (h40 : most ≤ 40) {root : Int} (hr : 0 ≤ root ∧ root ≤ 31) : (runM vs most root).met.length = 32 := loopM_len hv h40 65 _ (firstM_good hv h40 hr).1 (firstM_good hv h40 hr).2
/-- What holds while the keys come: the row's marks are those that have come. -/
structure RgI (w : World) (M mb r g : Nat) (cs : List Value) (lo : Nat) (ks dn : List Int) (R : List Bool) (n : Nat) : Prop where
  rng : RangeK w mb r ks dn n
  box : Box w M cs 117
  own : OwnBl w lo w.heap.size (some ⟨g, 0, none⟩) 32 R
  len : R.length = 32
  mks : ∀ i : Nat, i < 32 → (R.getD i false = true ↔ (i : Int) ∈ dn)
  dif : g ≠ M ∧ g ≠ mb ∧ g ≠ r ∧ r ≠ M
theorem RgI.next {w w' : World} {M mb r g : Nat} {cs : List Value} {lo : Nat} {ks dn : List Int} {R : List Bool} {n : Nat} (h : RgI w M mb r g cs lo ks dn R n) (hg : w.grownBy w' (some r)) : Box w' M cs 117 ∧ OwnBl w' lo w'.heap.size (some ⟨g, 0, none⟩) 32 R := by
  obtain ⟨d1, d2, d3, d4⟩ := h.dif
  refine ⟨h.box.block (hg.block M h.box.lt (fun e => d4 (Option.some.inj e).symm)), ownsRow_block h.own.1 (fun k hk => hg.block k (h.own.2.2 k hk) (fun e => ?_)), Nat.le_refl _, fun k hk => Nat.lt_of_lt_of_le (h.own.2.2 k hk) hg.size⟩
  cases hk
  exact d3 (Option.some.inj e)
theorem RgI.mark {w w' W : World} {M mb r g : Nat} {cs : List Value} {lo : Nat} {ks dn : List Int} {R : List Bool} {n m k : Nat} (h : RgI w M mb r g cs lo ks dn R n) (hk : k < 32) (hr : RangeK w' mb r ks ((k : Int) :: dn) m) (hg : w.grownBy w' (some r)) (hW : w'.setCell ⟨g, k, none⟩ (.bool true) = W) : RgI W M mb r g cs lo ks ((k : Int) :: dn) (R.set k true) m ∧ w'.grownBy W (some g) := by
  obtain ⟨d1, d2, d3, d4⟩ := h.dif
  obtain ⟨b1, o1⟩ := h.next hg
  obtain ⟨W', hW', o2, g2, s2⟩ := o1.stored k true
  have e : W' = W := hW'.out.symm.trans hW
  subst e
  have hl := hr.lt
  refine ⟨⟨hr.keep (g2.block mb hl.1 (fun e => d2 (Option.some.inj e).symm)) (g2.block r hl.2 (fun e => d3 (Option.some.inj e).symm)), b1.block (g2.block M b1.lt (fun e => d1 (Option.some.inj e).symm)), ?_, by simp [h.len], fun i hi => ?_, h.dif⟩, g2⟩
  · rw [s2]; exact o2
  · rw [List.mem_cons]
    by_cases e : i = k
    · subst e
      simp [List.getD, h.len, hi]
    · have e2 : (R.set k true).getD i false = R.getD i false := by simp [List.getD, List.getElem?_set_ne (Ne.symm e)]
      rw [e2, h.mks i hi]
      constructor
      · exact .inr
      · rintro (h1 | h1)
        · exact absurd (by omega) e
        · exact h1
theorem RgI.done {w : World} {M mb r g : Nat} {cs : List Value} {lo : Nat} {ks dn : List Int} {R S : List Bool} {n : Nat} (h : RgI w M mb r g cs lo ks dn R n) (hS : S.length = 32) (hks : ∀ k : Int, k ∈ ks ↔ (0 ≤ k ∧ metM S k = true)) (hall : ∀ k ∈ ks, k ∈ dn) : R = S := by
  have hdn : ∀ k ∈ dn, k ∈ ks := by
    obtain ⟨es, clock, seen, _, _, he, _, _, hd⟩ := h.rng
    intro k hk
    obtain ⟨e, hem, hek, _⟩ := (hd k).1 hk
    obtain ⟨k2, hk2, h2, _⟩ := (key_mem he).1 e hem
    rw [hek] at h2
    simp only [Value.int.injEq, true_and] at h2
    rw [h2]; exact hk2
  apply List.ext_getElem (by rw [h.len, hS])
  intro i h1 h2
  have hi : i < 32 := by rw [h.len] at h1; exact h1
  have a1 : R.getD i false = R[i] := by simp [List.getD, h1]
  have a2 : metM S (i : Int) = S[i] := by simp [metM, List.getD, h2]
  rw [← a1, ← a2, Bool.eq_iff_iff, h.mks i hi]
  exact ⟨fun hh => ((hks i).1 (hdn _ hh)).2, fun hh => hall _ ((hks i).2 ⟨by omega, hh⟩)⟩

set_option maxHeartbeats 400000 in
theorem oidOk_in (x : Int) (h1 : 1 ≤ x) (h2 : x ≤ 31) (w : World) : Calls Tryz.prog 39 #[.int .i64 x] w fun e w' => e = .returned (.bool true) ∧ w' = w := by
  go_enter Tryz.func39, Tryz.ntmps39
  go_wp2
  go_ret
  exact ⟨rfl, rfl⟩
set_option maxHeartbeats 400000 in
theorem oidOk_out (x : Int) (h : ¬ (1 ≤ x ∧ x ≤ 31)) (w : World) : Calls Tryz.prog 39 #[.int .i64 x] w fun e w' => e = .returned (.bool false) ∧ w' = w := by
  by_cases h1 : 1 ≤ x
  · have h2 : ¬ x ≤ 31 := fun h2 => h ⟨h1, h2⟩
    clear h
    go_enter Tryz.func39, Tryz.ntmps39
    go_wp2
    go_ret
    exact ⟨rfl, rfl⟩
  · clear h
    go_enter Tryz.func39, Tryz.ntmps39
    go_wp2
    go_ret
    exact ⟨rfl, rfl⟩
end Go.Proofs.YtajcffchopcamaaGreatDoor

/- The walks of spec.l11Reach, Reach. -/
namespace Go.Proofs.YtajcffchopcamaaGreatDoor
open Go.RowKit

set_option maxHeartbeats 8000000 in
set_option maxRecDepth 100000 in
theorem l11Reach_any (b off c : Nat) (ss : List SlotA) (rn : Nat) (hrn : rn ≤ 31) (hv : viewB (vsOf ss) = true) (w : World) (hr : ReadsVw w (some ⟨b, off, none⟩) ss) (h32 : ss.length = 32) :
    Calls Tryz.prog 66 #[.slice (some ⟨b, off, none⟩) 32 c, .int .i64 (rn : Int)] w fun e w' => ∃ g, e = .returned (.slice (some ⟨g, 0, none⟩) 32 32) ∧ OwnBl w' w.heap.size w'.heap.size (some ⟨g, 0, none⟩) 32 (runM (vsOf ss) 40 rn).met ∧ Below w.heap.size w w' := by
  obtain ⟨i0, hi, hz0, hz1, hz2⟩ := info_parts Tryz.infoBool
  have HV : Hid (∀ u, Below w.heap.size w u → ∀ k : Nat, k < 32 → u.cell? ⟨b, off + k * 4, none⟩ = some (.bool ((vsOf ss).getD k noS).has)) := fun u hu k hk => (view_cells hr h32 hu k hk).1
  have HF : Hid (∀ k : Nat, k < 32 → ∃ aR cR, ∀ u, Below w.heap.size w u → u.cell? ⟨b, off + k * 4 + 3, none⟩ = some (.slice aR (refsM (vsOf ss) k).length cR) ∧ ReadsI u aR (refsM (vsOf ss) k)) := fun k hk => view_refs hr h32 k hk
  have HRG : Hid (RngM (vsOf ss)) := viewB_rng hv
  have HLN : Hid (∀ i, (refsM (vsOf ss) i).length ≤ 5) := viewB_refs hv
  have HHAS : Hid (∀ k : Nat, hasM (vsOf ss) k = ((vsOf ss).getD k noS).has) := fun k => by rw [hasM, Int.toNat_natCast]
  clear hr h32 hv
  generalize vsOf ss = vs at *
  have HRUN : Hid (∀ S Q k, Bfs vs rn S Q k → ¬ k < Q.length → S = (runM vs 40 rn).met) := fun S Q k h hk => bfs_run HRG.out (by omega) h hk
  generalize (runM vs 40 rn).met = FM at *
  have hrI : (rn : Int) < 32 := by omega
  go_enter Tryz.func66, Tryz.ntmps66
  go_upto_region 2 with (first | (at_make; refine wpList_make_full _ rfl _ _ 73 rfl w.heap.size 4 i0 (.bool false) 1 Tryz.underlying73 hi hz0 hz1 _ _ _ _ 32 rfl rfl rfl rfl (by rw [hz2]; omega) (by simp [maxLen]) (Nat.le_refl _) ?_; intro w3 hown3 hgrow3) | fail)
  have hB3 : Below w.heap.size w w3 := (Below.refl _ _).grown hgrow3 (Nat.le_refl _) (fun k h => by cases h)
  have hg3 : w.heap.size < w3.heap.size := (hown3.lt _ rfl).2
  have ho3 : OwnBl w3 w.heap.size w3.heap.size (some ⟨w.heap.size, 0, none⟩) 32 (List.replicate 32 false) := by
    refine ⟨?_, Nat.le_refl _, fun k hk => by cases hk; exact hg3⟩
    have := hown3
    rw [madeB] at this
    exact this
  obtain ⟨V, HVV⟩ : ∃ V, Hid (w3.alloc (.cells #[] 3) = V) := ⟨_, rfl⟩
  have HS0 : Hid (SpI w V w.heap.size (some ⟨w3.heap.size, 0, none⟩) 0 (List.replicate 32 false) []) := by
    have ha := (Below.refl w3.heap.size w3).alloc (Nat.le_refl _) (.cells #[] 3)
    have h1 := ownI_lit0 w3
    rw [HVV.out] at ha h1
    refine ⟨(ho3.below ha).widen (Nat.le_refl _) ha.size (Nat.le_refl _), h1.widen (by have := hB3.size; omega) (by rw [← HVV.out]; simp) (Nat.le_refl _), fun k hk => by cases hk; show w3.heap.size ≠ w.heap.size; omega, hB3.trans (ha.mono hB3.size)⟩
  have v0 := HV.out V HS0.out.bel rn (by omega)
  clear hown3 hgrow3 ho3 hB3
  go_upto_region 3 with fail
  rw [HVV.out]
  clear HVV
  obtain ⟨g, hg⟩ : ∃ g, Hid (w.heap.size = g) := ⟨_, rfl⟩
  rw [hg.out] at HS0 ⊢
  generalize w3.heap.size = g2 at *
  clear hg3
  cases hhas : (vs.getD rn noS).has with
  | false =>
    rw [hhas] at v0
    have HX : Hid (SpI w V g (some ⟨g2, 0, none⟩) 0 (List.replicate 32 false) [] ∧ Bfs vs rn (List.replicate 32 false) [] 0) := ⟨HS0.out, bfs_none (by rw [HHAS.out]; exact hhas)⟩
    clear HS0 hhas
    go_wp2_with fail
    go_loopw [6, 7] (fun v6 v7 wr => ∃ (S : List Bool) (Q : List Int) (k : Nat) (a : Option Addr) (c : Nat), k ≤ Q.length ∧ Q.length ≤ 32 ∧ v6 = .slice a Q.length c ∧ v7 = .int .i64 k ∧ Hid (SpI w wr g a c S Q ∧ Bfs vs rn S Q k)) (fun _ v7 _ => 33 - (RowKit.intOf v7).toNat)
    case atStart => exact ⟨_, _, 0, _, _, Nat.zero_le _, by have := HX.out.2.sum; omega, rfl, rfl, HX.out⟩
    case round =>
      obtain ⟨S, Q, k, a, c6, hkQ, hQ32, rfl, rfl, hI⟩ := hrel
      clear HX
      by_cases hlt : k < Q.length
      · obtain ⟨xn, hxe, hx32⟩ : ∃ xn : Nat, Q.getD k 0 = xn ∧ xn < 32 := by
          have := hI.out.2.rng _ (mem_getDM hlt)
          exact ⟨(Q.getD k 0).toNat, by omega, by omega⟩
        have HXM : Hid ((xn : Int) ∈ Q ∧ Q.getD k 0 = xn) := ⟨by rw [← hxe]; exact mem_getDM hlt, hxe⟩
        obtain ⟨bt, offt, rfl, hct⟩ := hI.out.1.stk.reads (by intro e; rw [e] at hlt; simp at hlt)
        have t0 := hct k hlt
        rw [hxe] at t0
        obtain ⟨aF, cF, hFR⟩ := HF.out xn hx32
        have hF0 := (hFR wr hI.out.1.bel).1
        have HFI : Hid (_) := HRG.out xn
        have HFL := HLN.out xn
        have HFV : Hid (∀ u, Below w.heap.size w u → ReadsI u aF (refsM vs xn)) := fun u hu => (hFR u hu).2
        have HFE : Hid (∀ r, r ∈ refsM vs xn ↔ r ∈ refsM vs xn) := fun r => Iff.rfl
        obtain ⟨F, HFF⟩ : ∃ F, Hid (refsM vs xn = F) := ⟨_, rfl⟩
        rw [HFF.out] at hF0 HFI HFL HFV
        have hxI : (xn : Int) < 32 := by omega
        have HSP : Hid (SpI w wr g (some ⟨bt, offt, none⟩) c6 S Q ∧ Bfs vs rn S Q k) := hI.out
        clear hI hct hFR hxe HFE
        generalize wr = wp at *
        go_wp2_with fail
        clear t0 hF0
        go_loopw [6, 9] (fun v6 i wr => ∃ (n : Nat) (S1 : List Bool) (Q1 : List Int) (a : Option Addr) (c : Nat), n ≤ F.length ∧ Q1.length ≤ 32 ∧ k < Q1.length ∧ i = .int .i64 n ∧ v6 = .slice a Q1.length c ∧ Hid (SpI w wr g a c S1 Q1 ∧ Bfs vs rn S1 Q1 k ∧ (xn : Int) ∈ Q1 ∧ Q1.getD k 0 = xn ∧ ∀ r ∈ F.take n, hasM vs r = true → metM S1 r = true)) (fun _ i _ => F.length - (RowKit.intOf i).toNat)
        case atStart => exact ⟨0, S, Q, _, _, Nat.zero_le _, hQ32, hlt, rfl, rfl, HSP.out.1, HSP.out.2, HXM.out.1, HXM.out.2, fun r hr => by simp at hr⟩
        case round =>
          obtain ⟨n, S1, Q1, a, c1, hn, hQ1, hkQ1, rfl, rfl, hJ⟩ := hrel
          clear HSP HXM
          by_cases hnl : n < F.length
          · obtain ⟨bf, offf, rfl, hcf⟩ := HFV.out wr hJ.out.1.bel (by intro e; rw [e] at hnl; simp at hnl)
            have f0 := hcf n hnl
            obtain ⟨y, hye, hy32⟩ : ∃ y : Nat, F.getD n 0 = y ∧ y < 32 := by
              have := HFI.out _ (mem_getDM hnl)
              exact ⟨(F.getD n 0).toNat, by omega, by omega⟩
            have HTS : Hid (F.take (n + 1) = F.take n ++ [(y : Int)]) := by rw [Hid, take_step F 0 n hnl, hye]
            have HYM : Hid ((y : Int) ∈ refsM vs xn) := by rw [Hid, HFF.out, ← hye]; exact mem_getDM hnl
            have RNG : Hid (_) := HFI.out
            have HFW : Hid (∀ u, Below w.heap.size w u → u.cell? ⟨bf, offf + n, none⟩ = some (.int .i64 (y : Int))) := fun u hu => by
              obtain ⟨b', o', e, hc⟩ := HFV.out u hu (by intro e; rw [e] at hnl; simp at hnl)
              simp only [Option.some.injEq, Addr.mk.injEq, and_true] at e
              obtain ⟨rfl, rfl⟩ := e
              have := hc n hnl
              rw [hye] at this
              exact this
            rw [hye] at f0
            have v0 := HV.out wr hJ.out.1.bel y hy32
            have m0 := hJ.out.1.cell hJ.out.2.1.len y hy32
            have hyI : (y : Int) < 32 := by omega
            have HJ : Hid (_) := hJ.out
            have HHY : Hid (hasM vs y = (vs.getD y noS).has ∧ metM S1 (y : Int) = S1.getD y false) := ⟨HHAS.out y, by rw [metM, Int.toNat_natCast]⟩
            clear hcf hye hJ HV HHAS HFI HFV HFF
            generalize (vs.getD y noS).has = hb at *
            generalize hmt : S1.getD y false = mt at *
            clear hmt
            cases hb with
            | false =>
              have HQ : Hid (SpI w wr g a c1 S1 Q1 ∧ Bfs vs rn S1 Q1 k ∧ (xn : Int) ∈ Q1 ∧ Q1.getD k 0 = xn ∧ ∀ r ∈ F.take (n + 1), hasM vs r = true → metM S1 r = true) := by
                obtain ⟨j1, j2, j3, j4, j5⟩ := HJ.out
                refine ⟨j1, j2, j3, j4, fun r hr hh => ?_⟩
                rw [HTS.out] at hr
                rcases List.mem_append.1 hr with hr | hr
                · exact j5 r hr hh
                · rw [List.mem_singleton.1 hr, HHY.out.1] at hh
                  cases hh
              clear HJ HTS HYM HFW HHY
              go_wp2_with fail
              go_roundw
              case rel => exact ⟨n + 1, S1, Q1, _, _, by omega, hQ1, hkQ1, by go_num, rfl, HQ⟩
              case measure => simp [RowKit.intOf]; omega
            | true =>
              cases mt with
              | true =>
                have HQ : Hid (SpI w wr g a c1 S1 Q1 ∧ Bfs vs rn S1 Q1 k ∧ (xn : Int) ∈ Q1 ∧ Q1.getD k 0 = xn ∧ ∀ r ∈ F.take (n + 1), hasM vs r = true → metM S1 r = true) := by
                  obtain ⟨j1, j2, j3, j4, j5⟩ := HJ.out
                  refine ⟨j1, j2, j3, j4, fun r hr hh => ?_⟩
                  rw [HTS.out] at hr
                  rcases List.mem_append.1 hr with hr | hr
                  · exact j5 r hr hh
                  · rw [List.mem_singleton.1 hr]; exact HHY.out.2
                clear HJ HTS HYM HFW HHY
                go_wp2_with fail
                go_roundw
                case rel => exact ⟨n + 1, S1, Q1, _, _, by omega, hQ1, hkQ1, by go_num, rfl, HQ⟩
                case measure => simp [RowKit.intOf]; omega
              | false =>
                have z7 := HJ.out.1.met.1.frozenAt y
                obtain ⟨W1, hW1, hSW1⟩ := HJ.out.1.set y
                have fW := HFW.out W1 hSW1.bel
                have HSW : Hid (SpI w W1 g a c1 (S1.set y true) Q1) := hSW1
                have hlo := hSW1.bel.size
                have HB : Hid (Bfs vs rn (S1.set y true) (Q1 ++ [(y : Int)]) k ∧ (xn : Int) ∈ Q1 ++ [(y : Int)] ∧ (Q1 ++ [(y : Int)]).getD k 0 = xn ∧ (Q1 ++ [(y : Int)]).length ≤ 32 ∧ ∀ r ∈ F.take (n + 1), hasM vs r = true → metM (S1.set y true) r = true) := by
                  obtain ⟨j1, j2, j3, j4, j5⟩ := HJ.out
                  have hp := j2.push j3 HYM.out (by omega) (HHY.out.1) (HHY.out.2) (by omega)
                  rw [Int.toNat_natCast] at hp
                  refine ⟨hp, List.mem_append.2 (.inl j3), ?_, by have := hp.sum; omega, fun r hr hh => ?_⟩
                  · rw [← j4]; simp [List.getD, List.getElem?_append_left hkQ1]
                  · have hset := metM_set (S := S1) (x := (y : Int)) (i := r) j2.len (by omega)
                    rw [Int.toNat_natCast] at hset
                    rw [HTS.out] at hr
                    rcases List.mem_append.1 hr with hr | hr
                    · have h5 := j5 r hr hh
                      by_cases h0 : 0 ≤ r
                      · rw [hset h0, h5]; rfl
                      · exfalso; have := RNG.out r (List.take_subset _ _ hr); omega
                    · rw [List.mem_singleton.1 hr] at hset ⊢
                      rw [hset (by omega)]; simp
                clear HJ HTS HYM HHY hSW1
                go_upto_region 15 with fail
                rw [hW1.out]
                clear hW1 f0 m0 v0 z7
                have ho := HSW.out.stk.below ((Below.refl _ _).alloc (Nat.le_refl _) (.cells #[.int .i64 (y : Int)] 3))
                go_wp2_with (first | (at_builtin; refine append_intsM rfl _ _ rfl w.heap.size W1.heap.size a c1 Q1 rfl ho _ _ [(y : Int)] rfl (readsI_one W1 y _) (fun h => by cases h) (by simp; omega) (by simp; omega) ?_; intro a4 c4 y4 w4 hy4 ho4 hg4 hk4) | fail)
                have HQ : Hid (SpI w w4 g a4 c4 (S1.set y true) y4 ∧ Bfs vs rn (S1.set y true) y4 k ∧ (xn : Int) ∈ y4 ∧ y4.getD k 0 = xn ∧ ∀ r ∈ F.take (n + 1), hasM vs r = true → metM (S1.set y true) r = true) := by
                  rw [hy4.out]
                  exact ⟨by rw [← hy4.out]; exact HSW.out.push ho4 hg4 hk4, HB.out.1, HB.out.2.1, HB.out.2.2.1, HB.out.2.2.2.2⟩
                have HY4 : Hid (y4.length ≤ 32 ∧ k < y4.length) := by
                  rw [hy4.out]
                  refine ⟨HB.out.2.2.2.1, ?_⟩
                  simp only [List.length_append, List.length_cons, List.length_nil]
                  omega
                clear ho4 hg4 hk4 hy4 HSW ho HB
                go_roundw
                case rel => exact ⟨n + 1, S1.set y true, y4, a4, c4, by omega, HY4.out.1, HY4.out.2, by go_num, rfl, HQ⟩
                case measure => simp [RowKit.intOf]; omega
          · have HQ : Hid (SpI w wr g a c1 S1 Q1 ∧ Bfs vs rn S1 Q1 (k + 1)) := by
              obtain ⟨j1, j2, j3, j4, j5⟩ := hJ.out
              rw [List.take_of_length_le (by omega)] at j5
              exact ⟨j1, j2.next (by rw [j4, HFF.out]; exact j5)⟩
            clear hJ HFI HFV HFF HV HHAS
            go_wp2_with fail
            go_roundw
            case rel => exact ⟨S1, Q1, k + 1, a, c1, by omega, hQ1, rfl, by go_num, HQ⟩
            case measure => simp [RowKit.intOf]; omega
      · have HE : Hid (S = FM) := HRUN.out S Q k hI.out.2 hlt
        have HQ : Hid (OwnBl wr w.heap.size wr.heap.size (some ⟨g, 0, none⟩) 32 FM ∧ Below w.heap.size w wr) := ⟨by rw [← HE.out]; exact hI.out.1.met, hI.out.1.bel⟩
        clear hI HE HV HF HRG HLN HHAS HRUN
        go_wp2_with fail
        go_ret
        exact ⟨g, rfl, HQ.out⟩
  | true =>
    rw [hhas] at v0
    have z0 := HS0.out.met.1.frozenAt rn
    have m0 := HS0.out.cell (by simp) rn (by omega)
    obtain ⟨W, hW, hSW⟩ := HS0.out.set rn
    have HSW : Hid (SpI w W g (some ⟨g2, 0, none⟩) 0 ((List.replicate 32 false).set rn true) []) := hSW
    have hlo := hSW.bel.size
    have ho := hSW.stk.below ((Below.refl _ _).alloc (Nat.le_refl _) (.cells #[.int .i64 (rn : Int)] 3))
    have HX0 : Hid (Bfs vs rn ((List.replicate 32 false).set rn true) [(rn : Int)] 0) := by
      have := bfs_one (vs := vs) (root := rn) (by omega) (by rw [HHAS.out]; exact hhas)
      rwa [Int.toNat_natCast] at this
    clear HS0 hhas hSW
    go_upto_region 5 with fail
    rw [hW.out]
    clear hW z0 m0 v0
    go_upto_region 6 with (first | (at_builtin; refine append_intsM rfl _ _ rfl w.heap.size W.heap.size (some ⟨g2, 0, none⟩) 0 [] rfl ho _ _ [(rn : Int)] rfl (readsI_one W rn _) (fun h => by cases h) (by simp) (by simp; omega) ?_; intro a4 c4 y4 w4 hy4 ho4 hg4 hk4) | fail)
    have HX : Hid (SpI w w4 g a4 c4 ((List.replicate 32 false).set rn true) y4 ∧ Bfs vs rn ((List.replicate 32 false).set rn true) y4 0) := by
      have e : y4 = [(rn : Int)] := hy4.out
      exact ⟨HSW.out.push ho4 hg4 hk4, by rw [e]; exact HX0.out⟩
    clear ho4 hg4 hk4 hy4 HSW ho HX0 hlo
    go_wp2_with fail
    go_loopw [6, 7] (fun v6 v7 wr => ∃ (S : List Bool) (Q : List Int) (k : Nat) (a : Option Addr) (c : Nat), k ≤ Q.length ∧ Q.length ≤ 32 ∧ v6 = .slice a Q.length c ∧ v7 = .int .i64 k ∧ Hid (SpI w wr g a c S Q ∧ Bfs vs rn S Q k)) (fun _ v7 _ => 33 - (RowKit.intOf v7).toNat)
    case atStart => exact ⟨_, _, 0, _, _, Nat.zero_le _, by have := HX.out.2.sum; omega, rfl, rfl, HX.out⟩
    case round =>
      obtain ⟨S, Q, k, a, c6, hkQ, hQ32, rfl, rfl, hI⟩ := hrel
      clear HX
      by_cases hlt : k < Q.length
      · obtain ⟨xn, hxe, hx32⟩ : ∃ xn : Nat, Q.getD k 0 = xn ∧ xn < 32 := by
          have := hI.out.2.rng _ (mem_getDM hlt)
          exact ⟨(Q.getD k 0).toNat, by omega, by omega⟩
        have HXM : Hid ((xn : Int) ∈ Q ∧ Q.getD k 0 = xn) := ⟨by rw [← hxe]; exact mem_getDM hlt, hxe⟩
        obtain ⟨bt, offt, rfl, hct⟩ := hI.out.1.stk.reads (by intro e; rw [e] at hlt; simp at hlt)
        have t0 := hct k hlt
        rw [hxe] at t0
        obtain ⟨aF, cF, hFR⟩ := HF.out xn hx32
        have hF0 := (hFR wr hI.out.1.bel).1
        have HFI : Hid (_) := HRG.out xn
        have HFL := HLN.out xn
        have HFV : Hid (∀ u, Below w.heap.size w u → ReadsI u aF (refsM vs xn)) := fun u hu => (hFR u hu).2
        have HFE : Hid (∀ r, r ∈ refsM vs xn ↔ r ∈ refsM vs xn) := fun r => Iff.rfl
        obtain ⟨F, HFF⟩ : ∃ F, Hid (refsM vs xn = F) := ⟨_, rfl⟩
        rw [HFF.out] at hF0 HFI HFL HFV
        have hxI : (xn : Int) < 32 := by omega
        have HSP : Hid (SpI w wr g (some ⟨bt, offt, none⟩) c6 S Q ∧ Bfs vs rn S Q k) := hI.out
        clear hI hct hFR hxe HFE
        generalize wr = wp at *
        go_wp2_with fail
        clear t0 hF0
        go_loopw [6, 9] (fun v6 i wr => ∃ (n : Nat) (S1 : List Bool) (Q1 : List Int) (a : Option Addr) (c : Nat), n ≤ F.length ∧ Q1.length ≤ 32 ∧ k < Q1.length ∧ i = .int .i64 n ∧ v6 = .slice a Q1.length c ∧ Hid (SpI w wr g a c S1 Q1 ∧ Bfs vs rn S1 Q1 k ∧ (xn : Int) ∈ Q1 ∧ Q1.getD k 0 = xn ∧ ∀ r ∈ F.take n, hasM vs r = true → metM S1 r = true)) (fun _ i _ => F.length - (RowKit.intOf i).toNat)
        case atStart => exact ⟨0, S, Q, _, _, Nat.zero_le _, hQ32, hlt, rfl, rfl, HSP.out.1, HSP.out.2, HXM.out.1, HXM.out.2, fun r hr => by simp at hr⟩
        case round =>
          obtain ⟨n, S1, Q1, a, c1, hn, hQ1, hkQ1, rfl, rfl, hJ⟩ := hrel
          clear HSP HXM
          by_cases hnl : n < F.length
          · obtain ⟨bf, offf, rfl, hcf⟩ := HFV.out wr hJ.out.1.bel (by intro e; rw [e] at hnl; simp at hnl)
            have f0 := hcf n hnl
            obtain ⟨y, hye, hy32⟩ : ∃ y : Nat, F.getD n 0 = y ∧ y < 32 := by
              have := HFI.out _ (mem_getDM hnl)
              exact ⟨(F.getD n 0).toNat, by omega, by omega⟩
            have HTS : Hid (F.take (n + 1) = F.take n ++ [(y : Int)]) := by rw [Hid, take_step F 0 n hnl, hye]
            have HYM : Hid ((y : Int) ∈ refsM vs xn) := by rw [Hid, HFF.out, ← hye]; exact mem_getDM hnl
            have RNG : Hid (_) := HFI.out
            have HFW : Hid (∀ u, Below w.heap.size w u → u.cell? ⟨bf, offf + n, none⟩ = some (.int .i64 (y : Int))) := fun u hu => by
              obtain ⟨b', o', e, hc⟩ := HFV.out u hu (by intro e; rw [e] at hnl; simp at hnl)
              simp only [Option.some.injEq, Addr.mk.injEq, and_true] at e
              obtain ⟨rfl, rfl⟩ := e
              have := hc n hnl
              rw [hye] at this
              exact this
            rw [hye] at f0
            have v0 := HV.out wr hJ.out.1.bel y hy32
            have m0 := hJ.out.1.cell hJ.out.2.1.len y hy32
            have hyI : (y : Int) < 32 := by omega
            have HJ : Hid (_) := hJ.out
            have HHY : Hid (hasM vs y = (vs.getD y noS).has ∧ metM S1 (y : Int) = S1.getD y false) := ⟨HHAS.out y, by rw [metM, Int.toNat_natCast]⟩
            clear hcf hye hJ HV HHAS HFI HFV HFF
            generalize (vs.getD y noS).has = hb at *
            generalize hmt : S1.getD y false = mt at *
            clear hmt
            cases hb with
            | false =>
              have HQ : Hid (SpI w wr g a c1 S1 Q1 ∧ Bfs vs rn S1 Q1 k ∧ (xn : Int) ∈ Q1 ∧ Q1.getD k 0 = xn ∧ ∀ r ∈ F.take (n + 1), hasM vs r = true → metM S1 r = true) := by
                obtain ⟨j1, j2, j3, j4, j5⟩ := HJ.out
                refine ⟨j1, j2, j3, j4, fun r hr hh => ?_⟩
                rw [HTS.out] at hr
                rcases List.mem_append.1 hr with hr | hr
                · exact j5 r hr hh
                · rw [List.mem_singleton.1 hr, HHY.out.1] at hh
                  cases hh
              clear HJ HTS HYM HFW HHY
              go_wp2_with fail
              go_roundw
              case rel => exact ⟨n + 1, S1, Q1, _, _, by omega, hQ1, hkQ1, by go_num, rfl, HQ⟩
              case measure => simp [RowKit.intOf]; omega
            | true =>
              cases mt with
              | true =>
                have HQ : Hid (SpI w wr g a c1 S1 Q1 ∧ Bfs vs rn S1 Q1 k ∧ (xn : Int) ∈ Q1 ∧ Q1.getD k 0 = xn ∧ ∀ r ∈ F.take (n + 1), hasM vs r = true → metM S1 r = true) := by
                  obtain ⟨j1, j2, j3, j4, j5⟩ := HJ.out
                  refine ⟨j1, j2, j3, j4, fun r hr hh => ?_⟩
                  rw [HTS.out] at hr
                  rcases List.mem_append.1 hr with hr | hr
                  · exact j5 r hr hh
                  · rw [List.mem_singleton.1 hr]; exact HHY.out.2
                clear HJ HTS HYM HFW HHY
                go_wp2_with fail
                go_roundw
                case rel => exact ⟨n + 1, S1, Q1, _, _, by omega, hQ1, hkQ1, by go_num, rfl, HQ⟩
                case measure => simp [RowKit.intOf]; omega
              | false =>
                have z7 := HJ.out.1.met.1.frozenAt y
                obtain ⟨W1, hW1, hSW1⟩ := HJ.out.1.set y
                have fW := HFW.out W1 hSW1.bel
                have HSW : Hid (SpI w W1 g a c1 (S1.set y true) Q1) := hSW1
                have hlo := hSW1.bel.size
                have HB : Hid (Bfs vs rn (S1.set y true) (Q1 ++ [(y : Int)]) k ∧ (xn : Int) ∈ Q1 ++ [(y : Int)] ∧ (Q1 ++ [(y : Int)]).getD k 0 = xn ∧ (Q1 ++ [(y : Int)]).length ≤ 32 ∧ ∀ r ∈ F.take (n + 1), hasM vs r = true → metM (S1.set y true) r = true) := by
                  obtain ⟨j1, j2, j3, j4, j5⟩ := HJ.out
                  have hp := j2.push j3 HYM.out (by omega) (HHY.out.1) (HHY.out.2) (by omega)
                  rw [Int.toNat_natCast] at hp
                  refine ⟨hp, List.mem_append.2 (.inl j3), ?_, by have := hp.sum; omega, fun r hr hh => ?_⟩
                  · rw [← j4]; simp [List.getD, List.getElem?_append_left hkQ1]
                  · have hset := metM_set (S := S1) (x := (y : Int)) (i := r) j2.len (by omega)
                    rw [Int.toNat_natCast] at hset
                    rw [HTS.out] at hr
                    rcases List.mem_append.1 hr with hr | hr
                    · have h5 := j5 r hr hh
                      by_cases h0 : 0 ≤ r
                      · rw [hset h0, h5]; rfl
                      · exfalso; have := RNG.out r (List.take_subset _ _ hr); omega
                    · rw [List.mem_singleton.1 hr] at hset ⊢
                      rw [hset (by omega)]; simp
                clear HJ HTS HYM HHY hSW1
                go_upto_region 15 with fail
                rw [hW1.out]
                clear hW1 f0 m0 v0 z7
                have ho := HSW.out.stk.below ((Below.refl _ _).alloc (Nat.le_refl _) (.cells #[.int .i64 (y : Int)] 3))
                go_wp2_with (first | (at_builtin; refine append_intsM rfl _ _ rfl w.heap.size W1.heap.size a c1 Q1 rfl ho _ _ [(y : Int)] rfl (readsI_one W1 y _) (fun h => by cases h) (by simp; omega) (by simp; omega) ?_; intro a4 c4 y4 w4 hy4 ho4 hg4 hk4) | fail)
                have HQ : Hid (SpI w w4 g a4 c4 (S1.set y true) y4 ∧ Bfs vs rn (S1.set y true) y4 k ∧ (xn : Int) ∈ y4 ∧ y4.getD k 0 = xn ∧ ∀ r ∈ F.take (n + 1), hasM vs r = true → metM (S1.set y true) r = true) := by
                  rw [hy4.out]
                  exact ⟨by rw [← hy4.out]; exact HSW.out.push ho4 hg4 hk4, HB.out.1, HB.out.2.1, HB.out.2.2.1, HB.out.2.2.2.2⟩
                have HY4 : Hid (y4.length ≤ 32 ∧ k < y4.length) := by
                  rw [hy4.out]
                  refine ⟨HB.out.2.2.2.1, ?_⟩
                  simp only [List.length_append, List.length_cons, List.length_nil]
                  omega
                clear ho4 hg4 hk4 hy4 HSW ho HB
                go_roundw
                case rel => exact ⟨n + 1, S1.set y true, y4, a4, c4, by omega, HY4.out.1, HY4.out.2, by go_num, rfl, HQ⟩
                case measure => simp [RowKit.intOf]; omega
          · have HQ : Hid (SpI w wr g a c1 S1 Q1 ∧ Bfs vs rn S1 Q1 (k + 1)) := by
              obtain ⟨j1, j2, j3, j4, j5⟩ := hJ.out
              rw [List.take_of_length_le (by omega)] at j5
              exact ⟨j1, j2.next (by rw [j4, HFF.out]; exact j5)⟩
            clear hJ HFI HFV HFF HV HHAS
            go_wp2_with fail
            go_roundw
            case rel => exact ⟨S1, Q1, k + 1, a, c1, by omega, hQ1, rfl, by go_num, HQ⟩
            case measure => simp [RowKit.intOf]; omega
      · have HE : Hid (S = FM) := HRUN.out S Q k hI.out.2 hlt
        have HQ : Hid (OwnBl wr w.heap.size wr.heap.size (some ⟨g, 0, none⟩) 32 FM ∧ Below w.heap.size w wr) := ⟨by rw [← HE.out]; exact hI.out.1.met, hI.out.1.bel⟩
        clear hI HE HV HF HRG HLN HHAS HRUN
        go_wp2_with fail
        go_ret
        exact ⟨g, rfl, HQ.out⟩
end Go.Proofs.YtajcffchopcamaaGreatDoor

/- The walk of spec.Reach. -/
namespace Go.Proofs.YtajcffchopcamaaGreatDoor
open Go.RowKit

def reachV (vs : List SlotV) (root : Int) : List Int := if (viewB vs && inB root 1 31) = true then reachL (runM vs 40 root).met else []
def ReachAns (w : World) (R : List Int) (e : Ending) (w' : World) : Prop := ∃ a' c', e = .returned (.slice a' R.length c') ∧ OwnI w' w.heap.size w'.heap.size a' c' R ∧ Below w.heap.size w w'
theorem reachAns_none {w w1 : World} (hb : Below w.heap.size w w1) : ReachAns w [] (.returned (.slice (some ⟨w1.heap.size, 0, none⟩) 0 0)) (w1.alloc (.cells #[] 3)) := ⟨_, _, rfl, (ownI_lit0 w1).widen hb.size (by simp) (Nat.le_refl _), hb.alloc hb.size _⟩
theorem bl_cell {w : World} {lo hi g c : Nat} {S : List Bool} (h : OwnBl w lo hi (some ⟨g, 0, none⟩) c S) {k : Nat} (hk : k < S.length) : w.cell? ⟨g, k, none⟩ = some (.bool (S.getD k false)) := by
  obtain ⟨b, off, e, hc⟩ := h.reads (by intro e; rw [e] at hk; simp at hk)
  simp only [Option.some.injEq, Addr.mk.injEq, and_true] at e
  obtain ⟨rfl, rfl⟩ := e
  have := hc k hk
  rwa [Nat.zero_add] at this

end Go.Proofs.YtajcffchopcamaaGreatDoor
