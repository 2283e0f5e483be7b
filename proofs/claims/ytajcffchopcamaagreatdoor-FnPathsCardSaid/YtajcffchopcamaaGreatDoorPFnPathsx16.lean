/- Several texts in one, in their order. -/
import Derived.Test.YtajcffchopcamaaGreatDoorPFnPathsx8
import Derived.Test.YtajcffchopcamaaGreatDoorPFnPathsx13
import Derived.Test.YtajcffchopcamaaGreatDoorPFnPathsx7
import Derived.Test.YtajcffchopcamaaGreatDoorPFnPathsx15
import Derived.Test.YtajcffchopcamaaGreatDoorPFnPathsx6
import Derived.Test.YtajcffchopcamaaGreatDoorPFnPathsx14
import Derived.Maps.RangeWalk
/- The walk of spec.FreeSlot. -/
namespace Go.Proofs.YtajcffchopcamaaGreatDoor
open Go.RowKit

end Go.Proofs.YtajcffchopcamaaGreatDoor

/- The walks of spec.l3Slot and spec.PageOk. -/
namespace Go.Proofs.YtajcffchopcamaaGreatDoor
open Go.RowKit

theorem slotB_of (o : ObjV) (a b c : Bool) (h1 : decide (o.kind = 0) = a) (h2 : decide (o.ints.length = 0) = b) (h3 : decide (o.refs.length = 0) = c) : slotB ⟨false, o⟩ = (a && (b && c)) := by
  rw [← h1, ← h2, ← h3]; rfl

set_option maxHeartbeats 400000 in
set_option maxRecDepth 100000 in
theorem l3Slot_any (s : SlotA) (w : World) (hr : s.reads w) (hl : Fit [s]) :
    Calls Tryz.prog 63 #[.agg s.cells.toArray] w fun e w' => e = .returned (.bool (slotB s.v)) ∧ Below w.heap.size w w' := by
  obtain ⟨h1, h2⟩ := hl s (List.mem_singleton.2 rfl)
  obtain ⟨W, hW, b0, hbW, hsW⟩ := boxes1 w s.cells 41
  have hr' : s.reads W := ReadsO.below hr hbW
  obtain ⟨⟨h, o⟩, aI, cI, aR, cR⟩ := s
  simp only [SlotA.cells, SlotA.reads] at *
  cases h with
  | true =>
    have C1 := specObjOk_any o aI cI aR cR W hr' (by omega) (by omega)
    have HE : Hid (slotB ⟨true, o⟩ = okB o) := slotB_has rfl
    generalize slotB ⟨true, o⟩ = R at *
    go_enter Tryz.func63, Tryz.ntmps63
    go_wp2_with fail
    rw [hW.out]
    refine C1.mono ?_
    rintro e w1 ⟨rfl, hb1⟩
    go_wp2
    go_ret
    exact ⟨ret_bool HE.out.symm, hbW.trans (hb1.mono hbW.size)⟩
  | false =>
    have HE := slotB_of o
    generalize slotB ⟨false, o⟩ = R at *
    obtain ⟨k, ints, refs⟩ := o
    obtain ⟨x0, x1, x2, x3, _⟩ := b0.four
    simp only at *
    by_cases hk : k = 0
    case neg =>
      have HR : Hid (R = false) := HE false _ _ (decide_eq_false hk) rfl rfl
      have hkb : (k == 0) = false := by simpa using hk
      clear HE hk
      go_enter Tryz.func63, Tryz.ntmps63
      go_wp2
      go_ret
      exact ⟨ret_bool HR.out.symm, by rw [hW.out]; exact hbW⟩
    case pos =>
    subst hk
    by_cases hi : ints.length = 0
    case neg =>
      have HR : Hid (R = false) := HE true false _ (decide_eq_true rfl) (decide_eq_false hi) rfl
      have hib : ((ints.length : Int) == 0) = false := by simp; exact fun e => hi (by rw [e]; rfl)
      clear HE hi
      go_enter Tryz.func63, Tryz.ntmps63
      go_wp2
      go_ret
      exact ⟨ret_bool HR.out.symm, by rw [hW.out]; exact hbW⟩
    case pos =>
    by_cases hj : refs.length = 0
    case neg =>
      have HR : Hid (R = false) := HE true true false (decide_eq_true rfl) (decide_eq_true hi) (decide_eq_false hj)
      have hib : ((ints.length : Int) == 0) = true := by simp; exact List.length_eq_zero_iff.1 hi
      have hjb : ((refs.length : Int) == 0) = false := by simp; exact fun e => hj (by rw [e]; rfl)
      clear HE hi hj
      go_enter Tryz.func63, Tryz.ntmps63
      go_wp2
      go_ret
      exact ⟨ret_bool HR.out.symm, by rw [hW.out]; exact hbW⟩
    case pos =>
      have HR : Hid (R = true) := HE true true true (decide_eq_true rfl) (decide_eq_true hi) (decide_eq_true hj)
      have hib : ((ints.length : Int) == 0) = true := by simp; exact List.length_eq_zero_iff.1 hi
      have hjb : ((refs.length : Int) == 0) = true := by simp; exact List.length_eq_zero_iff.1 hj
      clear HE hi hj
      go_enter Tryz.func63, Tryz.ntmps63
      go_wp2
      go_ret
      exact ⟨ret_bool HR.out.symm, by rw [hW.out]; exact hbW⟩

end Go.Proofs.YtajcffchopcamaaGreatDoor

/- The walk of spec.ViewOk. -/
namespace Go.Proofs.YtajcffchopcamaaGreatDoor
open Go.RowKit

set_option maxHeartbeats 1000000 in
set_option maxRecDepth 100000 in
theorem specViewOk_any (a : Option Addr) (c : Nat) (ss : List SlotA) (w : World) (hr : ReadsVw w a ss) (hf : Fit ss) :
    Calls Tryz.prog 36 #[.slice a ss.length c] w fun e w' => e = .returned (.bool (viewB (vsOf ss))) ∧ Below w.heap.size w w' := by
  by_cases h32 : ss.length = 32
  · have HV : Hid (viewB (vsOf ss) = (!(ss.getD 0 zeroS).v.has && (vsOf ss).all slotB)) := by
      rw [Hid, viewB_zero (by rw [vsOf_len]; exact h32), vsOf_at]
    obtain ⟨b, off, rfl, hc⟩ := hr (by intro e; rw [e] at h32; simp at h32)
    have hra := (hc 0 (by omega)).1
    rw [Nat.zero_mul, Nat.add_zero] at hra
    have HC : Hid (∀ u, Below w.heap.size w u → ∀ k, k < 32 → u.rangeAt b (off + k * 4) (ss.getD k zeroS).cells ∧ (ss.getD k zeroS).reads u ∧ Fit [ss.getD k zeroS]) := fun u hu k hk => by
      rw [← h32] at hk
      obtain ⟨h1, h2⟩ := hc k hk
      exact ⟨range_belowV h1 hu, ReadsO.below h2 hu, hf.one hk⟩
    have HL := vsOf_len ss
    have HHIT : Hid (∀ k, k < 32 → slotB (ss.getD k zeroS).v = false → (vsOf ss).all slotB = false) := fun k hk h => all_hit (z := noS) (k := k) (by omega) (by rw [vsOf_at]; exact h)
    have HSTEP : Hid (∀ k, k < 32 → ((vsOf ss).take k).all slotB = true → slotB (ss.getD k zeroS).v = true → ((vsOf ss).take (k + 1)).all slotB = true) := fun k hk h h1 => all_step (z := noS) (by omega) h (by rw [vsOf_at]; exact h1)
    have HEND : Hid (∀ k, ¬ k < 32 → ((vsOf ss).take k).all slotB = true → (vsOf ss).all slotB = true) := fun k hk h => all_end (by omega) h
    generalize viewB (vsOf ss) = R at *
    generalize (vsOf ss).all slotB = B at *
    generalize vsOf ss = L at *
    have c0 : w.cell? ⟨b, off, none⟩ = some (.bool (ss.getD 0 zeroS).v.has) := hra 0 _ rfl
    rw [h32]
    clear hc hra h32 hf hr HL
    generalize (ss.getD 0 zeroS).v.has = zb at *
    cases zb with
    | true =>
      have HR : Hid (R = false) := HV.out
      clear HV HC HHIT HSTEP HEND
      go_enter Tryz.func36, Tryz.ntmps36
      go_wp2
      go_ret
      exact ⟨ret_bool HR.out.symm, Below.refl _ _⟩
    | false =>
      have HR : Hid (R = B) := HV.out
      clear HV
      go_enter Tryz.func36, Tryz.ntmps36
      go_wp2
      clear c0
      go_loopw [3] (fun i wr => ∃ k : Nat, k ≤ 32 ∧ i = .int .i64 k ∧ Hid ((L.take k).all slotB = true) ∧ Below w.heap.size w wr) (fun i _ => 32 - (RowKit.intOf i).toNat)
      case atStart => exact ⟨0, by omega, rfl, (show (L.take 0).all slotB = true by simp), Below.refl _ _⟩
      case round =>
        obtain ⟨k, hk, rfl, hall, hbl⟩ := hrel
        by_cases hlt : k < 32
        · obtain ⟨hra, hrz, hfz⟩ := HC.out wr hbl k hlt
          have HH1 : Hid (slotB (ss.getD k zeroS).v = false → B = false) := fun h => HHIT.out k hlt h
          have HH2 : Hid (slotB (ss.getD k zeroS).v = true → (L.take (k + 1)).all slotB = true) := fun h => HSTEP.out k hlt hall.out h
          clear HC HHIT HSTEP HEND hall
          generalize ss.getD k zeroS = z at *
          have C := l3Slot_any z wr hrz hfz
          simp only [SlotA.cells] at hra C
          have c0 := hra 0 _ rfl
          have c1 := hra 1 _ rfl
          have c2 := hra 2 _ rfl
          have c3 := hra 3 _ rfl
          rw [Nat.add_zero] at c0
          generalize slotB z.v = zb at *
          clear hra hrz hfz
          cases zb with
          | false =>
            have HF : Hid (R = false) := HR.out.trans (HH1.out rfl)
            clear HH1 HH2 HR
            go_wp2_with fail
            refine C.mono ?_
            rintro e w1 ⟨rfl, hb1⟩
            go_wp2
            go_ret
            exact ⟨ret_bool HF.out.symm, hbl.trans (hb1.mono hbl.size)⟩
          | true =>
            have HN : Hid ((L.take (k + 1)).all slotB = true) := HH2.out rfl
            clear HH1 HH2
            go_wp2_with fail
            refine C.mono ?_
            rintro e w1 ⟨rfl, hb1⟩
            have hB1 : Below w.heap.size w w1 := hbl.trans (hb1.mono hbl.size)
            clear C hb1 hbl c0 c1 c2 c3
            go_wp2_with fail
            go_roundw
            case rel => exact ⟨k + 1, by omega, by go_num, HN, hB1⟩
            case measure => simp [RowKit.intOf]; omega
        · have HT : Hid (R = true) := HR.out.trans (HEND.out k hlt hall.out)
          obtain rfl : k = 32 := by omega
          clear HC HHIT HSTEP HEND hall HR
          go_wp2
          go_ret
          exact ⟨ret_bool HT.out.symm, hbl⟩
  · have HR : Hid (viewB (vsOf ss) = false) := viewB_len (by rw [vsOf_len]; exact h32)
    have hne : ((ss.length : Int) == 32) = false := by rw [beq_eq_false_iff_ne]; omega
    generalize viewB (vsOf ss) = R at *
    clear hf hr
    go_enter Tryz.func36, Tryz.ntmps36
    go_wp2
    go_ret
    exact ⟨ret_bool HR.out.symm, Below.refl _ _⟩
end Go.Proofs.YtajcffchopcamaaGreatDoor

/- The walks of spec.l11Call, l11Lacks, Mark. -/
namespace Go.Proofs.YtajcffchopcamaaGreatDoor
open Go.RowKit

/-- Marks in a row at g and a stack at a, made since w0. -/
structure SpI (w0 w : World) (g : Nat) (a : Option Addr) (c : Nat) (S : List Bool) (T : List Int) : Prop where
  met : OwnBl w w0.heap.size w.heap.size (some ⟨g, 0, none⟩) 32 S
  stk : OwnI w w0.heap.size w.heap.size a c T
  ne : ∀ k, (Value.slice a T.length c).ownBlock = some k → k ≠ g
  bel : Below w0.heap.size w0 w
theorem SpI.cell {w0 w : World} {g : Nat} {a : Option Addr} {c : Nat} {S : List Bool} {T : List Int} (h : SpI w0 w g a c S T) (hS : S.length = 32) (k : Nat) (hk : k < 32) : w.cell? ⟨g, k, none⟩ = some (.bool (S.getD k false)) := by
  obtain ⟨b, off, e, hc⟩ := h.met.reads (by intro e; rw [e] at hS; simp at hS)
  simp only [Option.some.injEq, Addr.mk.injEq, and_true] at e
  obtain ⟨rfl, rfl⟩ := e
  have := hc k (by omega)
  rwa [Nat.zero_add] at this
theorem SpI.set {w0 w : World} {g : Nat} {a : Option Addr} {c : Nat} {S : List Bool} {T : List Int} (h : SpI w0 w g a c S T) (y : Nat) : ∃ W, Hid (w.setCell ⟨g, y, none⟩ (.bool true) = W) ∧ SpI w0 W g a c (S.set y true) T := by
  obtain ⟨W, hW, h1, h2, h3⟩ := h.met.stored y true
  have hlo : w0.heap.size ≤ g := (h.met.1.lt _ rfl).1
  refine ⟨W, hW, by rw [h3]; exact h1, ⟨ownsRow_block h.stk.1 (fun k hk => h2.block k (h.stk.2.2 k hk) (fun e => h.ne k hk (Option.some.inj e))), Nat.le_refl _, fun k hk => Nat.lt_of_lt_of_le (h.stk.2.2 k hk) h2.size⟩, h.ne, h.bel.grown h2 h.bel.size (fun j hj => by cases hj; exact hlo)⟩
theorem SpI.push {w0 w w4 : World} {o : Obj} {g : Nat} {a a4 : Option Addr} {c c4 : Nat} {S : List Bool} {T y4 : List Int} (h : SpI w0 w g a c S T) (ho : OwnI w4 w0.heap.size w4.heap.size a4 c4 y4) (hg : (w.alloc o).grownBy w4 (Value.slice a T.length c).ownBlock) (hk : ∀ k, (Value.slice a4 y4.length c4).ownBlock = some k → (Value.slice a T.length c).ownBlock = some k ∨ k = (w.alloc o).heap.size) : SpI w0 w4 g a4 c4 S y4 := by
  have ha := (Below.refl w.heap.size w).alloc (Nat.le_refl _) o
  have hglt : g < w.heap.size := h.met.2.2 g rfl
  have hm := h.met.below ha
  refine ⟨⟨ownsRow_block hm.1 (fun k hk2 => hg.block k (hm.1.lt k hk2).2 (fun e => by cases hk2; exact h.ne g e.symm rfl)), Nat.le_refl _, fun k hk2 => Nat.lt_of_lt_of_le (hm.1.lt k hk2).2 hg.size⟩, ho, fun k hk2 => ?_, (h.bel.trans (ha.mono h.bel.size)).grown hg (Nat.le_trans h.bel.size ha.size) (fun j hj => (h.stk.1.lt j hj).1)⟩
  rcases hk k hk2 with h2 | h2
  · exact h.ne k h2
  · simp at h2; omega
theorem SpI.cut {w0 w : World} {g bt offt : Nat} {c : Nat} {S : List Bool} {T : List Int} {x : Int} (h : SpI w0 w g (some ⟨bt, offt, none⟩) c S (T ++ [x])) : SpI w0 w g (some ⟨bt, offt, none⟩) c S T := by
  have := h.stk.cut T.length (by simp)
  rw [List.take_left] at this
  exact ⟨h.met, this, fun k hk => h.ne k (by simpa [Value.ownBlock] using hk), h.bel⟩

end Go.Proofs.YtajcffchopcamaaGreatDoor

/- A range over a set: which keys have come. -/
namespace Go.Proofs.YtajcffchopcamaaGreatDoor
open Go.RowKit Go.Maps Go.MapKept
open Go.ChangeMaps (setBlock)

/-- Block B is a map whose keys are ks, block r goes through it: done have come, n are left. -/
def RangeK (w : World) (B r : Nat) (ks dn : List Int) (n : Nat) : Prop := ∃ es clock seen, w.heap[B]? = some (.map es clock) ∧ w.heap[r]? = some (.mapIter (some B) clock seen clock) ∧ es.toList.map (fun e => (e.key, e.val)) = ks.map entK ∧ BornK es clock ∧ (leftOf es seen).size = n ∧ ∀ k : Int, k ∈ dn ↔ ∃ e ∈ es.toList, e.key = .int .i64 k ∧ seen.contains e.born = true
theorem RangeK.lt {w : World} {B r : Nat} {ks dn : List Int} {n : Nat} (h : RangeK w B r ks dn n) : B < w.heap.size ∧ r < w.heap.size := by
  obtain ⟨es, clock, seen, h1, h2, _⟩ := h
  constructor
  · rcases Nat.lt_or_ge B w.heap.size with h | h
    · exact h
    · rw [Array.getElem?_eq_none h] at h1; cases h1
  · rcases Nat.lt_or_ge r w.heap.size with h | h
    · exact h
    · rw [Array.getElem?_eq_none h] at h2; cases h2
theorem RangeK.keep {w w' : World} {B r : Nat} {ks dn : List Int} {n : Nat} (h : RangeK w B r ks dn n) (hb : w'.heap[B]? = w.heap[B]?) (hr : w'.heap[r]? = w.heap[r]?) : RangeK w' B r ks dn n := by
  obtain ⟨es, clock, seen, h1, h2, h3⟩ := h
  exact ⟨es, clock, seen, by rw [hb]; exact h1, by rw [hr]; exact h2, h3⟩
/-- The keys of the entries are the set's. -/
theorem key_mem {es : Array MapEntry} {ks : List Int} (he : es.toList.map (fun e => (e.key, e.val)) = ks.map entK) : (∀ e ∈ es.toList, ∃ k ∈ ks, e.key = .int .i64 k ∧ e.val = .agg #[]) ∧ ∀ k ∈ ks, ∃ e ∈ es.toList, e.key = .int .i64 k := by
  constructor
  · intro e hm
    have : (e.key, e.val) ∈ es.toList.map (fun e => (e.key, e.val)) := List.mem_map.2 ⟨e, hm, rfl⟩
    rw [he] at this
    obtain ⟨k, hk, h⟩ := List.mem_map.1 this
    simp only [entK, Prod.mk.injEq] at h
    exact ⟨k, hk, h.1.symm, h.2.symm⟩
  · intro k hk
    have : entK k ∈ ks.map entK := List.mem_map.2 ⟨k, hk, rfl⟩
    rw [← he] at this
    obtain ⟨e, hm, h⟩ := List.mem_map.1 this
    simp only [entK, Prod.mk.injEq] at h
    exact ⟨e, hm, h.1⟩
end Go.Proofs.YtajcffchopcamaaGreatDoor
