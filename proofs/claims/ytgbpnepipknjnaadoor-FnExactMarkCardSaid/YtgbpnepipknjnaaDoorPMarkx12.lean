/- Several texts in one, in their order. -/
import Derived.Test.YtgbpnepipknjnaaDoorPMarkx4
import Derived.Test.YtgbpnepipknjnaaDoorPMarkx9
import Derived.Test.YtgbpnepipknjnaaDoorPMarkx6
import Derived.Test.YtgbpnepipknjnaaDoorPMarkx11
import Derived.Test.YtgbpnepipknjnaaDoorPMarkx5
import Derived.Test.YtgbpnepipknjnaaDoorPMarkx10
import Derived.Maps.RangeWalk
import Derived.Test.YtgbpnepipknjnaaDoorPMarkx1
import Derived.Deep.QuietTactic
import Derived.BigQuiet
/- The walk of spec.FreeSlot. -/
namespace Go.Proofs.YtgbpnepipknjnaaDoor
open Go.RowKit

end Go.Proofs.YtgbpnepipknjnaaDoor

/- The walks of spec.l3Slot and spec.PageOk. -/
namespace Go.Proofs.YtgbpnepipknjnaaDoor
open Go.RowKit

theorem slotB_of (o : ObjV) (a b c : Bool) (h1 : decide (o.kind = 0) = a) (h2 : decide (o.ints.length = 0) = b) (h3 : decide (o.refs.length = 0) = c) : slotB ⟨false, o⟩ = (a && (b && c)) := by
  rw [← h1, ← h2, ← h3]; rfl

set_option maxHeartbeats 400000 in
set_option maxRecDepth 100000 in
theorem l3Slot_any (s : SlotA) (w : World) (hr : s.reads w) (hl : Fit [s]) :
    Calls Tryd.prog 42 #[.agg s.cells.toArray] w fun e w' => e = .returned (.bool (slotB s.v)) ∧ Below w.heap.size w w' := by
  obtain ⟨h1, h2⟩ := hl s (List.mem_singleton.2 rfl)
  obtain ⟨W, hW, b0, hbW, hsW⟩ := boxes1 w s.cells 37
  have hr' : s.reads W := ReadsO.below hr hbW
  obtain ⟨⟨h, o⟩, aI, cI, aR, cR⟩ := s
  simp only [SlotA.cells, SlotA.reads] at *
  cases h with
  | true =>
    have C1 := specObjOk_any o aI cI aR cR W hr' (by omega) (by omega)
    have HE : Hid (slotB ⟨true, o⟩ = okB o) := slotB_has rfl
    generalize slotB ⟨true, o⟩ = R at *
    go_enter Tryd.func42, Tryd.ntmps42
    go_wp2_with fail
    rw [hW.out]
    refine C1.mono ?_
    rintro e w1 ⟨rfl, hb1⟩
    go_wp2
    go_ret
    exact ⟨ret_bool HE.out.symm, hbW.trans (hb1.mono hbW.size)⟩
  | false =>
    have HE := slotB_of o
    generalize slotB ⟨false, o⟩ = R at *
    obtain ⟨k, ints, refs⟩ := o
    obtain ⟨x0, x1, x2, x3, _⟩ := b0.four
    simp only at *
    by_cases hk : k = 0
    case neg =>
      have HR : Hid (R = false) := HE false _ _ (decide_eq_false hk) rfl rfl
      have hkb : (k == 0) = false := by simpa using hk
      clear HE hk
      go_enter Tryd.func42, Tryd.ntmps42
      go_wp2
      go_ret
      exact ⟨ret_bool HR.out.symm, by rw [hW.out]; exact hbW⟩
    case pos =>
    subst hk
    by_cases hi : ints.length = 0
    case neg =>
      have HR : Hid (R = false) := HE true false _ (decide_eq_true rfl) (decide_eq_false hi) rfl
      have hib : ((ints.length : Int) == 0) = false := by simp; exact fun e => hi (by rw [e]; rfl)
      clear HE hi
      go_enter Tryd.func42, Tryd.ntmps42
      go_wp2
      go_ret
      exact ⟨ret_bool HR.out.symm, by rw [hW.out]; exact hbW⟩
    case pos =>
    by_cases hj : refs.length = 0
    case neg =>
      have HR : Hid (R = false) := HE true true false (decide_eq_true rfl) (decide_eq_true hi) (decide_eq_false hj)
      have hib : ((ints.length : Int) == 0) = true := by simp; exact List.length_eq_zero_iff.1 hi
      have hjb : ((refs.length : Int) == 0) = false := by simp; exact fun e => hj (by rw [e]; rfl)
      clear HE hi hj
      go_enter Tryd.func42, Tryd.ntmps42
      go_wp2
      go_ret
      exact ⟨ret_bool HR.out.symm, by rw [hW.out]; exact hbW⟩
    case pos =>
      have HR : Hid (R = true) := HE true true true (decide_eq_true rfl) (decide_eq_true hi) (decide_eq_true hj)
      have hib : ((ints.length : Int) == 0) = true := by simp; exact List.length_eq_zero_iff.1 hi
      have hjb : ((refs.length : Int) == 0) = true := by simp; exact List.length_eq_zero_iff.1 hj
      clear HE hi hj
      go_enter Tryd.func42, Tryd.ntmps42
      go_wp2
      go_ret
      exact ⟨ret_bool HR.out.symm, by rw [hW.out]; exact hbW⟩

end Go.Proofs.YtgbpnepipknjnaaDoor

/- The walk of spec.ViewOk. -/
namespace Go.Proofs.YtgbpnepipknjnaaDoor
open Go.RowKit

set_option maxHeartbeats 1000000 in
set_option maxRecDepth 100000 in
theorem specViewOk_any (a : Option Addr) (c : Nat) (ss : List SlotA) (w : World) (hr : ReadsVw w a ss) (hf : Fit ss) :
    Calls Tryd.prog 20 #[.slice a ss.length c] w fun e w' => e = .returned (.bool (viewB (vsOf ss))) ∧ Below w.heap.size w w' := by
  by_cases h32 : ss.length = 32
  · have HV : Hid (viewB (vsOf ss) = (!(ss.getD 0 zeroS).v.has && (vsOf ss).all slotB)) := by
      rw [Hid, viewB_zero (by rw [vsOf_len]; exact h32), vsOf_at]
    obtain ⟨b, off, rfl, hc⟩ := hr (by intro e; rw [e] at h32; simp at h32)
    have hra := (hc 0 (by omega)).1
    rw [Nat.zero_mul, Nat.add_zero] at hra
    have HC : Hid (∀ u, Below w.heap.size w u → ∀ k, k < 32 → u.rangeAt b (off + k * 4) (ss.getD k zeroS).cells ∧ (ss.getD k zeroS).reads u ∧ Fit [ss.getD k zeroS]) := fun u hu k hk => by
      rw [← h32] at hk
      obtain ⟨h1, h2⟩ := hc k hk
      exact ⟨range_belowV h1 hu, ReadsO.below h2 hu, hf.one hk⟩
    have HL := vsOf_len ss
    have HHIT : Hid (∀ k, k < 32 → slotB (ss.getD k zeroS).v = false → (vsOf ss).all slotB = false) := fun k hk h => all_hit (z := noS) (k := k) (by omega) (by rw [vsOf_at]; exact h)
    have HSTEP : Hid (∀ k, k < 32 → ((vsOf ss).take k).all slotB = true → slotB (ss.getD k zeroS).v = true → ((vsOf ss).take (k + 1)).all slotB = true) := fun k hk h h1 => all_step (z := noS) (by omega) h (by rw [vsOf_at]; exact h1)
    have HEND : Hid (∀ k, ¬ k < 32 → ((vsOf ss).take k).all slotB = true → (vsOf ss).all slotB = true) := fun k hk h => all_end (by omega) h
    generalize viewB (vsOf ss) = R at *
    generalize (vsOf ss).all slotB = B at *
    generalize vsOf ss = L at *
    have c0 : w.cell? ⟨b, off, none⟩ = some (.bool (ss.getD 0 zeroS).v.has) := hra 0 _ rfl
    rw [h32]
    clear hc hra h32 hf hr HL
    generalize (ss.getD 0 zeroS).v.has = zb at *
    cases zb with
    | true =>
      have HR : Hid (R = false) := HV.out
      clear HV HC HHIT HSTEP HEND
      go_enter Tryd.func20, Tryd.ntmps20
      go_wp2
      go_ret
      exact ⟨ret_bool HR.out.symm, Below.refl _ _⟩
    | false =>
      have HR : Hid (R = B) := HV.out
      clear HV
      go_enter Tryd.func20, Tryd.ntmps20
      go_wp2
      clear c0
      go_loopw [3] (fun i wr => ∃ k : Nat, k ≤ 32 ∧ i = .int .i64 k ∧ Hid ((L.take k).all slotB = true) ∧ Below w.heap.size w wr) (fun i _ => 32 - (intOf i).toNat)
      case atStart => exact ⟨0, by omega, rfl, (show (L.take 0).all slotB = true by simp), Below.refl _ _⟩
      case round =>
        obtain ⟨k, hk, rfl, hall, hbl⟩ := hrel
        by_cases hlt : k < 32
        · obtain ⟨hra, hrz, hfz⟩ := HC.out wr hbl k hlt
          have HH1 : Hid (slotB (ss.getD k zeroS).v = false → B = false) := fun h => HHIT.out k hlt h
          have HH2 : Hid (slotB (ss.getD k zeroS).v = true → (L.take (k + 1)).all slotB = true) := fun h => HSTEP.out k hlt hall.out h
          clear HC HHIT HSTEP HEND hall
          generalize ss.getD k zeroS = z at *
          have C := l3Slot_any z wr hrz hfz
          simp only [SlotA.cells] at hra C
          have c0 := hra 0 _ rfl
          have c1 := hra 1 _ rfl
          have c2 := hra 2 _ rfl
          have c3 := hra 3 _ rfl
          rw [Nat.add_zero] at c0
          generalize slotB z.v = zb at *
          clear hra hrz hfz
          cases zb with
          | false =>
            have HF : Hid (R = false) := HR.out.trans (HH1.out rfl)
            clear HH1 HH2 HR
            go_wp2_with fail
            refine C.mono ?_
            rintro e w1 ⟨rfl, hb1⟩
            go_wp2
            go_ret
            exact ⟨ret_bool HF.out.symm, hbl.trans (hb1.mono hbl.size)⟩
          | true =>
            have HN : Hid ((L.take (k + 1)).all slotB = true) := HH2.out rfl
            clear HH1 HH2
            go_wp2_with fail
            refine C.mono ?_
            rintro e w1 ⟨rfl, hb1⟩
            have hB1 : Below w.heap.size w w1 := hbl.trans (hb1.mono hbl.size)
            clear C hb1 hbl c0 c1 c2 c3
            go_wp2_with fail
            go_roundw
            case rel => exact ⟨k + 1, by omega, by go_num, HN, hB1⟩
            case measure => simp [intOf]; omega
        · have HT : Hid (R = true) := HR.out.trans (HEND.out k hlt hall.out)
          obtain rfl : k = 32 := by omega
          clear HC HHIT HSTEP HEND hall HR
          go_wp2
          go_ret
          exact ⟨ret_bool HT.out.symm, hbl⟩
  · have HR : Hid (viewB (vsOf ss) = false) := viewB_len (by rw [vsOf_len]; exact h32)
    have hne : ((ss.length : Int) == 32) = false := by rw [beq_eq_false_iff_ne]; omega
    generalize viewB (vsOf ss) = R at *
    clear hf hr
    go_enter Tryd.func20, Tryd.ntmps20
    go_wp2
    go_ret
    exact ⟨ret_bool HR.out.symm, Below.refl _ _⟩
end Go.Proofs.YtgbpnepipknjnaaDoor

/- The walks of spec.l11Call, l11Lacks, Mark. -/
namespace Go.Proofs.YtgbpnepipknjnaaDoor
open Go.RowKit

set_option maxHeartbeats 1000000 in
set_option maxRecDepth 100000 in
theorem l11Call_any (a : Option Addr) (c : Nat) (ss : List SlotA) (root : Int) (w : World) (hr : ReadsVw w a ss) (hf : Fit ss) :
    Calls Tryd.prog 45 #[.slice a ss.length c, .int .i64 root] w fun e w' => e = .returned (.bool (viewB (vsOf ss) && inB root 1 31)) ∧ Below w.heap.size w w' := by
  have C := specViewOk_any a c ss w hr hf
  generalize viewB (vsOf ss) = B at *
  have HL : Hid (∀ u, Calls Tryd.prog 47 #[.int .i64 root, .int .i64 1, .int .i64 31] u fun e w' => e = .returned (.bool (inB root 1 31)) ∧ w' = u) := fun u => l1In_any root 1 31 u
  generalize inB root 1 31 = I at *
  clear hr hf
  cases B with
  | false =>
    go_enter Tryd.func45, Tryd.ntmps45
    go_wp2_with fail
    refine C.mono ?_
    rintro e w1 ⟨rfl, hb1⟩
    go_wp2
    go_ret
    exact ⟨rfl, hb1⟩
  | true =>
    go_enter Tryd.func45, Tryd.ntmps45
    go_wp2_with fail
    refine C.mono ?_
    rintro e w1 ⟨rfl, hb1⟩
    clear C
    go_wp2_with fail
    refine (HL.out w1).mono ?_
    rintro e w2 ⟨rfl, rfl⟩
    go_wp2
    go_ret
    exact ⟨ret_bool (by simp), hb1⟩

set_option maxHeartbeats 1000000 in
set_option maxRecDepth 100000 in
theorem l11Lacks_any {w0 : World} {b off c g : Nat} {ss : List SlotA} {S : List Bool} (hv : viewB (vsOf ss) = true) (i : Nat) (hi : i < 32) (w : World) (hr : ReadsVw w0 (some ⟨b, off, none⟩) ss) (h32 : ss.length = 32) (hb : Below w0.heap.size w0 w) (hm : ∀ k, k < 32 → w.cell? ⟨g, k, none⟩ = some (.bool (S.getD k false))) :
    Calls Tryd.prog 48 #[.slice (some ⟨b, off, none⟩) 32 c, .slice (some ⟨g, 0, none⟩) 32 32, .int .i64 (i : Int)] w fun e w' => e = .returned (.bool (lackM (vsOf ss) S i)) ∧ w' = w := by
  obtain ⟨aF, cF, hF⟩ := view_refs hr h32 i hi
  obtain ⟨r0, hFR⟩ := hF w hb
  have HV : Hid (∀ k : Nat, k < 32 → w.cell? ⟨b, off + k * 4, none⟩ = some (.bool ((vsOf ss).getD k noS).has)) := fun k hk => (view_cells hr h32 hb k hk).1
  have HM : Hid (∀ k, k < 32 → w.cell? ⟨g, k, none⟩ = some (.bool (S.getD k false))) := hm
  have HFI : Hid (_) := viewB_rng hv i
  have HFL := viewB_refs hv i
  have HMISS : Hid (∀ k : Nat, missM (vsOf ss) S k = (((vsOf ss).getD k noS).has && !(S.getD k false))) := fun k => by rw [missM, hasM, metM, Int.toNat_natCast]
  obtain ⟨p, hp⟩ : ∃ p, missM (vsOf ss) S = p := ⟨_, rfl⟩
  have HLK : Hid (lackM (vsOf ss) S i = (refsM (vsOf ss) i).any p) := by rw [Hid, ← hp]; rfl
  rw [HLK.out]
  rw [hp] at HMISS
  generalize refsM (vsOf ss) i = F at *
  have HFV : Hid (ReadsI w aF F) := hFR
  have HHIT : Hid (∀ k, k < F.length → p (F.getD k 0) = true → F.any p = true) := fun k h1 h2 => any_hit h1 h2
  have HEND : Hid (∀ k, ¬ k < F.length → (F.take k).any p = false → F.any p = false) := fun k h1 h2 => any_end h1 h2
  have HSTEP : Hid (∀ k, k < F.length → (F.take k).any p = false → p (F.getD k 0) = false → (F.take (k + 1)).any p = false) := fun k h1 h2 h3 => any_step h1 h2 h3
  have hiI : (i : Int) < 32 := by omega
  generalize F.any p = R at *
  clear hF hFR hm hr h32 hb hv hp HLK hi
  go_enter Tryd.func48, Tryd.ntmps48
  go_wp2_with fail
  clear r0
  go_loopw [8] (fun v wr => ∃ n : Nat, n ≤ F.length ∧ v = .int .i64 n ∧ Hid ((F.take n).any p = false) ∧ wr = w) (fun v _ => F.length - (intOf v).toNat)
  case atStart => exact ⟨0, Nat.zero_le _, rfl, (show (F.take 0).any p = false by simp), rfl⟩
  case round =>
    obtain ⟨n, hn, rfl, hany, rfl⟩ := hrel
    by_cases hlt : n < F.length
    · obtain ⟨bf, offf, rfl, hcf⟩ := HFV.out (by intro e; rw [e] at hlt; simp at hlt)
      have f0 := hcf n hlt
      have HH1 : Hid (p (F.getD n 0) = true → R = true) := fun h => HHIT.out n hlt h
      have HH2 : Hid (p (F.getD n 0) = false → (F.take (n + 1)).any p = false) := fun h => HSTEP.out n hlt hany.out h
      obtain ⟨y, hye, hy32⟩ : ∃ y : Nat, F.getD n 0 = y ∧ y < 32 := by
        have := HFI.out _ (mem_getDM hlt)
        exact ⟨(F.getD n 0).toNat, by omega, by omega⟩
      rw [hye, HMISS.out y] at HH1 HH2
      rw [hye] at f0
      have v0 := HV.out y hy32
      have m0 := HM.out y hy32
      have hyI : (y : Int) < 32 := by omega
      clear hcf hye HHIT HSTEP HEND HMISS HV HM HFI HFV
      generalize ((vsOf ss).getD y noS).has = hb at *
      generalize S.getD y false = mb at *
      cases hb with
      | false =>
        have HN : Hid ((F.take (n + 1)).any p = false) := HH2.out rfl
        clear HH1 HH2
        go_wp2_with fail
        go_roundw
        case rel => exact ⟨n + 1, by omega, by go_num, HN, trivial⟩
        case measure => simp [intOf]; omega
      | true =>
        cases mb with
        | true =>
          have HN : Hid ((F.take (n + 1)).any p = false) := HH2.out rfl
          clear HH1 HH2
          go_wp2_with fail
          go_roundw
          case rel => exact ⟨n + 1, by omega, by go_num, HN, trivial⟩
          case measure => simp [intOf]; omega
        | false =>
          have HR : Hid (R = true) := HH1.out rfl
          clear HH1 HH2
          go_wp2
          go_ret
          exact ⟨ret_bool HR.out.symm, rfl⟩
    · have HR : Hid (R = false) := HEND.out n hlt hany.out
      clear HHIT HSTEP HEND HFV HFI HV HM
      go_wp2
      go_ret
      exact ⟨ret_bool HR.out.symm, rfl⟩

/-- Marks in a row at g and a stack at a, made since w0. -/
structure SpI (w0 w : World) (g : Nat) (a : Option Addr) (c : Nat) (S : List Bool) (T : List Int) : Prop where
  met : OwnBl w w0.heap.size w.heap.size (some ⟨g, 0, none⟩) 32 S
  stk : OwnI w w0.heap.size w.heap.size a c T
  ne : ∀ k, (Value.slice a T.length c).ownBlock = some k → k ≠ g
  bel : Below w0.heap.size w0 w
theorem SpI.cell {w0 w : World} {g : Nat} {a : Option Addr} {c : Nat} {S : List Bool} {T : List Int} (h : SpI w0 w g a c S T) (hS : S.length = 32) (k : Nat) (hk : k < 32) : w.cell? ⟨g, k, none⟩ = some (.bool (S.getD k false)) := by
  obtain ⟨b, off, e, hc⟩ := h.met.reads (by intro e; rw [e] at hS; simp at hS)
  simp only [Option.some.injEq, Addr.mk.injEq, and_true] at e
  obtain ⟨rfl, rfl⟩ := e
  have := hc k (by omega)
  rwa [Nat.zero_add] at this
theorem SpI.set {w0 w : World} {g : Nat} {a : Option Addr} {c : Nat} {S : List Bool} {T : List Int} (h : SpI w0 w g a c S T) (y : Nat) : ∃ W, Hid (w.setCell ⟨g, y, none⟩ (.bool true) = W) ∧ SpI w0 W g a c (S.set y true) T := by
  obtain ⟨W, hW, h1, h2, h3⟩ := h.met.stored y true
  have hlo : w0.heap.size ≤ g := (h.met.1.lt _ rfl).1
  refine ⟨W, hW, by rw [h3]; exact h1, ⟨ownsRow_block h.stk.1 (fun k hk => h2.block k (h.stk.2.2 k hk) (fun e => h.ne k hk (Option.some.inj e))), Nat.le_refl _, fun k hk => Nat.lt_of_lt_of_le (h.stk.2.2 k hk) h2.size⟩, h.ne, h.bel.grown h2 h.bel.size (fun j hj => by cases hj; exact hlo)⟩
theorem SpI.push {w0 w w4 : World} {o : Obj} {g : Nat} {a a4 : Option Addr} {c c4 : Nat} {S : List Bool} {T y4 : List Int} (h : SpI w0 w g a c S T) (ho : OwnI w4 w0.heap.size w4.heap.size a4 c4 y4) (hg : (w.alloc o).grownBy w4 (Value.slice a T.length c).ownBlock) (hk : ∀ k, (Value.slice a4 y4.length c4).ownBlock = some k → (Value.slice a T.length c).ownBlock = some k ∨ k = (w.alloc o).heap.size) : SpI w0 w4 g a4 c4 S y4 := by
  have ha := (Below.refl w.heap.size w).alloc (Nat.le_refl _) o
  have hglt : g < w.heap.size := h.met.2.2 g rfl
  have hm := h.met.below ha
  refine ⟨⟨ownsRow_block hm.1 (fun k hk2 => hg.block k (hm.1.lt k hk2).2 (fun e => by cases hk2; exact h.ne g e.symm rfl)), Nat.le_refl _, fun k hk2 => Nat.lt_of_lt_of_le (hm.1.lt k hk2).2 hg.size⟩, ho, fun k hk2 => ?_, (h.bel.trans (ha.mono h.bel.size)).grown hg (Nat.le_trans h.bel.size ha.size) (fun j hj => (h.stk.1.lt j hj).1)⟩
  rcases hk k hk2 with h2 | h2
  · exact h.ne k h2
  · simp at h2; omega
theorem SpI.cut {w0 w : World} {g bt offt : Nat} {c : Nat} {S : List Bool} {T : List Int} {x : Int} (h : SpI w0 w g (some ⟨bt, offt, none⟩) c S (T ++ [x])) : SpI w0 w g (some ⟨bt, offt, none⟩) c S T := by
  have := h.stk.cut T.length (by simp)
  rw [List.take_left] at this
  exact ⟨h.met, this, fun k hk => h.ne k (by simpa [Value.ownBlock] using hk), h.bel⟩

end Go.Proofs.YtgbpnepipknjnaaDoor

/- A range over a set: which keys have come. -/
namespace Go.Proofs.YtgbpnepipknjnaaDoor
open Go.RowKit Go.Maps Go.MapKept
open Go.ChangeMaps (setBlock)

/-- Block B is a map whose keys are ks, block r goes through it: done have come, n are left. -/
def RangeK (w : World) (B r : Nat) (ks dn : List Int) (n : Nat) : Prop := ∃ es clock seen, w.heap[B]? = some (.map es clock) ∧ w.heap[r]? = some (.mapIter (some B) clock seen clock) ∧ es.toList.map (fun e => (e.key, e.val)) = ks.map entK ∧ BornK es clock ∧ (leftOf es seen).size = n ∧ ∀ k : Int, k ∈ dn ↔ ∃ e ∈ es.toList, e.key = .int .i64 k ∧ seen.contains e.born = true
theorem RangeK.lt {w : World} {B r : Nat} {ks dn : List Int} {n : Nat} (h : RangeK w B r ks dn n) : B < w.heap.size ∧ r < w.heap.size := by
  obtain ⟨es, clock, seen, h1, h2, _⟩ := h
  constructor
  · rcases Nat.lt_or_ge B w.heap.size with h | h
    · exact h
    · rw [Array.getElem?_eq_none h] at h1; cases h1
  · rcases Nat.lt_or_ge r w.heap.size with h | h
    · exact h
    · rw [Array.getElem?_eq_none h] at h2; cases h2
theorem RangeK.keep {w w' : World} {B r : Nat} {ks dn : List Int} {n : Nat} (h : RangeK w B r ks dn n) (hb : w'.heap[B]? = w.heap[B]?) (hr : w'.heap[r]? = w.heap[r]?) : RangeK w' B r ks dn n := by
  obtain ⟨es, clock, seen, h1, h2, h3⟩ := h
  exact ⟨es, clock, seen, by rw [hb]; exact h1, by rw [hr]; exact h2, h3⟩
/-- The keys of the entries are the set's. -/
theorem key_mem {es : Array MapEntry} {ks : List Int} (he : es.toList.map (fun e => (e.key, e.val)) = ks.map entK) : (∀ e ∈ es.toList, ∃ k ∈ ks, e.key = .int .i64 k ∧ e.val = .agg #[]) ∧ ∀ k ∈ ks, ∃ e ∈ es.toList, e.key = .int .i64 k := by
  constructor
  · intro e hm
    have : (e.key, e.val) ∈ es.toList.map (fun e => (e.key, e.val)) := List.mem_map.2 ⟨e, hm, rfl⟩
    rw [he] at this
    obtain ⟨k, hk, h⟩ := List.mem_map.1 this
    simp only [entK, Prod.mk.injEq] at h
    exact ⟨k, hk, h.1.symm, h.2.symm⟩
  · intro k hk
    have : entK k ∈ ks.map entK := List.mem_map.2 ⟨k, hk, rfl⟩
    rw [← he] at this
    obtain ⟨e, hm, h⟩ := List.mem_map.1 this
    simp only [entK, Prod.mk.injEq] at h
    exact ⟨e, hm, h.1⟩
theorem wpList_range_k {w : World} {ops : Array Oper} {rest : List Oper} {o : Oper} {a : Act} {Q : Exit → Act → World → Prop} (hg : o.guard = none) (m : Operand) (hop : o.op = Op.range 61 m)
    (B : Nat) (ks : List Int) (hm : a.eval m = .map (some B)) (h : KeysAt w B ks)
    (hK : ∀ w' n, RangeK w' B w.heap.size ks [] n → Below w.heap.size w w' → w'.heap.size = w.heap.size + 1 → wpList Tryd.prog ops Q rest (a.put o.dst (.pointer (some ⟨w.heap.size, 0, none⟩))) w') : wpList Tryd.prog ops Q (o :: rest) a w := by
  refine wpList_plain hg fun K' hK' => ?_
  obtain ⟨es, clock, hb, he, hbn⟩ := h
  have hrun := run_range_map (P := Tryd.prog) w 61 3 85 B es clock Tryd.underlying61 hb
  unfold Oper.wp
  simp [execOp, hop, hm, hrun, Result.andThen]
  have hB : B < w.heap.size := (Array.getElem?_eq_some_iff.1 hb).1
  refine hK' _ _ (hK _ (leftOf es #[]).size ⟨es, clock, #[], by rw [Below.heap_alloc w _ B hB]; exact hb, (heap_alloc w _).1, he, hbn, rfl, fun k => ⟨fun h => by simp at h, fun ⟨e, _, _, h⟩ => by simp at h⟩⟩ ((Below.refl _ _).alloc (Nat.le_refl _) _) (by simp))
theorem wpList_next_k {w : World} {ops : Array Oper} {rest : List Oper} {o : Oper} {a : Act} {Q : Exit → Act → World → Prop} (hg : o.guard = none) (it : Operand) (hop : o.op = Op.next it false)
    (B r : Nat) (ks dn : List Int) (n : Nat) (hit : a.eval it = .pointer (some ⟨r, 0, none⟩)) (h : RangeK w B r ks dn n)
    (hDone : (∀ k ∈ ks, k ∈ dn) → wpList Tryd.prog ops Q rest (a.put o.dst (.tuple #[.bool false])) w)
    (hMore : ∀ (k : Int) (w' : World) (m : Nat), k ∈ ks → RangeK w' B r ks (k :: dn) m → m < n → w.grownBy w' (some r) → w'.heap.size = w.heap.size → (Instr.entry (.pointer (some ⟨r, 0, none⟩))).run Tryd.prog w' = .ok (.tuple #[.int .i64 k, .agg #[]]) w' → wpList Tryd.prog ops Q rest (a.put o.dst (.tuple #[.bool true, .int .i64 k, .agg #[]])) w') : wpList Tryd.prog ops Q (o :: rest) a w := by
  refine wpList_plain hg fun K' hK' => ?_
  obtain ⟨es, clock, seen, hb, hr, he, hbn, hn, hd⟩ := h
  obtain ⟨km1, km2⟩ := key_mem he
  unfold Oper.wp
  rcases run_next_at (P := Tryd.prog) w o.type r B clock clock seen es clock hr hb hbn.1 (Nat.le_refl _) with ⟨h0, hrun⟩ | ⟨e, hel, w1, hw1, hrun⟩
  · simp [execOp, hop, hit, hrun, Result.andThen]
    refine hK' _ _ (hDone (fun k hk => ?_))
    obtain ⟨e, hem, hek⟩ := km2 k hk
    exact (hd k).2 ⟨e, hem, hek, all_seen es seen h0 e hem⟩
  · obtain ⟨hem, hes⟩ := mem_left hel
    obtain ⟨k, hk, hek, hev⟩ := km1 e hem
    have hsh := left_shrinks es seen e hel
    rw [hek, hev] at hrun
    simp [execOp, hop, hit, hrun, Result.andThen]
    have hrs : r < w.heap.size := (Array.getElem?_eq_some_iff.1 hr).1
    have hne : r ≠ B := fun e => by rw [e, hb] at hr; cases hr
    have hw1h : w1.heap = w.heap := by rcases hw1 with rfl | rfl <;> rfl
    have h1 : (setBlock w1 r (.mapIter (some B) clock (seen.push e.born) clock)).heap[B]? = some (.map es clock) := by
      simp only [setBlock, hw1h]
      rw [Array.getElem?_setIfInBounds_ne hne]
      exact hb
    have h2 : (setBlock w1 r (.mapIter (some B) clock (seen.push e.born) clock)).heap[r]? = some (.mapIter (some B) clock (seen.push e.born) clock) := by
      simp only [setBlock, hw1h]
      simp [hrs]
    have hgr : w.grownBy (setBlock w1 r (.mapIter (some B) clock (seen.push e.born) clock)) (some r) := by
      refine ⟨?_, ?_, ?_, by simp [setBlock, hw1h], fun i hi hne2 => ?_⟩
      · rcases hw1 with rfl | rfl <;> rfl
      · rcases hw1 with rfl | rfl <;> rfl
      · rcases hw1 with rfl | rfl <;> rfl
      · simp only [setBlock, hw1h]
        rw [Array.getElem?_setIfInBounds_ne (fun e => hne2 (by rw [e]))]
    refine hK' _ _ (hMore k _ (leftOf es (seen.push e.born)).size hk ⟨es, clock, seen.push e.born, h1, h2, he, hbn, rfl, fun j => ?_⟩ (by omega) hgr (by simp [setBlock, hw1h]) ?_)
    · rw [List.mem_cons, hd j]
      constructor
      · rintro (rfl | ⟨x, hx, hxk, hxs⟩)
        · exact ⟨e, hem, hek, by simp⟩
        · refine ⟨x, hx, hxk, ?_⟩
          simp only [Array.contains_eq_mem, Array.mem_push, decide_eq_true_eq] at hxs ⊢
          exact .inl hxs
      · rintro ⟨x, hx, hxk, hxs⟩
        simp only [Array.contains_eq_mem, Array.mem_push, decide_eq_true_eq] at hxs
        rcases hxs with hxs | hxs
        · exact .inr ⟨x, hx, hxk, by simp only [Array.contains_eq_mem, decide_eq_true_eq]; exact hxs⟩
        · left
          have : x = e := by
            have f1 := find_born e es.toList hbn.2 hem
            have f2 := find_born x es.toList hbn.2 hx
            rw [hxs] at f2
            rw [f1] at f2
            exact (Option.some.inj f2).symm
          rw [this, hek] at hxk
          simp only [Value.int.injEq, true_and] at hxk
          exact hxk.symm
    · have := run_entry_at (P := Tryd.prog) _ r B clock seen es clock e h2 h1 hem hbn.2
      rw [hek, hev] at this
      exact this
end Go.Proofs.YtgbpnepipknjnaaDoor

/- The walks of spec.l2SameInts, spec.l2Same and spec.SameObj. -/
namespace Go.Proofs.YtgbpnepipknjnaaDoor
open Go.RowKit

theorem ne_at {xs ys : List Int} (j : Nat) (h : xs.getD j 0 ≠ ys.getD j 0) : decide (xs = ys) = false := by
  rw [decide_eq_false_iff_not]
  intro e
  exact h (by rw [e])
theorem ne_len {xs ys : List Int} (h : xs.length ≠ ys.length) : decide (xs = ys) = false := by
  rw [decide_eq_false_iff_not]
  intro e
  exact h (by rw [e])
theorem eq_all {xs ys : List Int} (hl : xs.length = ys.length) (h : ∀ t, t < xs.length → xs.getD t 0 = ys.getD t 0) : decide (xs = ys) = true := by
  rw [decide_eq_true_eq]
  apply List.ext_getElem hl
  intro i h1 h2
  have := h i h1
  simpa [List.getD, h1, h2] using this

def sameO (a b : ObjV) : Bool := decide (a.kind = b.kind) && (decide (a.ints = b.ints) && decide (a.refs = b.refs))

end Go.Proofs.YtgbpnepipknjnaaDoor
