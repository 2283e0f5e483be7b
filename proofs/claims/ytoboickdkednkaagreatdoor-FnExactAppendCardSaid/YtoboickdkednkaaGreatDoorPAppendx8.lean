/- Several texts in one, in their order. -/
import Derived.Test.YtoboickdkednkaaGreatDoorPAppendx5
import Derived.Test.YtoboickdkednkaaGreatDoorPAppendx3
import Derived.Deep.QuietTactic
import Derived.BigQuiet
import Derived.Test.YtoboickdkednkaaGreatDoorPAppendx6
import Derived.Test.YtoboickdkednkaaGreatDoorPAppendx7
import Derived.Test.YtoboickdkednkaaGreatDoorPAppendx4
import Derived.Deep.Cut
/- The walks of slices.Equal over what is under way, impl.sameSlot and impl.sameRec. -/
namespace Go.Proofs.YtoboickdkednkaaGreatDoor
open Go.RowKit

def sameL (a b : LiveV) : Bool := decide (a.tx = b.tx) && (decide (a.last = b.last) && (a.aborts == b.aborts))
theorem sameL_iff {a b : LiveV} : sameL a b = true ↔ a = b := by
  obtain ⟨a1, a2, a3⟩ := a
  obtain ⟨b1, b2, b3⟩ := b
  simp [sameL]
def sameLs (xs ys : List LiveV) : Bool := decide (xs.length = ys.length) && (List.range xs.length).all fun k => sameL (xs.getD k zeroL) (ys.getD k zeroL)
theorem sameLs_len {xs ys : List LiveV} (h : ¬ xs.length = ys.length) : sameLs xs ys = false := by simp [sameLs, h]
theorem sameLs_no {xs ys : List LiveV} (k : Nat) (hk : k < xs.length) (h : sameL (xs.getD k zeroL) (ys.getD k zeroL) = false) : sameLs xs ys = false := by
  have : ((List.range xs.length).all fun k => sameL (xs.getD k zeroL) (ys.getD k zeroL)) = false := by
    rw [List.all_eq_false]
    exact ⟨k, List.mem_range.2 hk, by rw [h]; decide⟩
  unfold sameLs
  rw [this, Bool.and_false]
theorem sameLs_all {xs ys : List LiveV} (hl : xs.length = ys.length) (h : ∀ k, k < xs.length → sameL (xs.getD k zeroL) (ys.getD k zeroL) = true) : sameLs xs ys = true := by
  have : ((List.range xs.length).all fun k => sameL (xs.getD k zeroL) (ys.getD k zeroL)) = true := by
    rw [List.all_eq_true]
    exact fun k hk => h k (List.mem_range.1 hk)
  unfold sameLs
  rw [this, Bool.and_true]
  exact decide_eq_true hl
theorem sameLs_refl (xs : List LiveV) : sameLs xs xs = true := sameLs_all rfl (fun _ _ => sameL_iff.2 rfl)
theorem sameLs_nil (xs : List LiveV) : sameLs [] xs = decide (xs.length = 0) := by
  cases xs with
  | nil => rfl
  | cons x r => rw [sameLs_len (by simp)]; simp

theorem run_neq_live (a b : LiveV) (w : World) : (binOp .neq 112 (.agg #[.int .i64 a.tx, .int .i64 a.last, .bool a.aborts]) (.agg #[.int .i64 b.tx, .int .i64 b.last, .bool b.aborts])).run Tryz.prog w = .ok (.bool (!sameL a b)) w := by
  obtain ⟨a1, a2, a3⟩ := a
  obtain ⟨b1, b2, b3⟩ := b
  have hp : Tryz.prog.stoodInHeld 112 = false := by kernel_rfl
  by_cases h1 : a1 = b1 <;> by_cases h2 : a2 = b2 <;> cases a3 <;> cases b3 <;> go_simp <;> simp_all [sameL]

set_option maxHeartbeats 2000000 in
set_option maxRecDepth 100000 in
theorem equalLives_any (a b : Option Addr) (ca cb : Nat) (xs ys : List LiveV) (w : World) (ha : ReadsL w a xs) (hb : ReadsL w b ys) (hl : xs.length ≤ 1099511627776) (hl2 : ys.length ≤ 1099511627776) :
    Calls Tryz.prog 94 #[.slice a xs.length ca, .slice b ys.length cb] w fun e w' => e = .returned (.bool (sameLs xs ys)) ∧ ∃ n, w' = w.drewN n := by
  by_cases hle : xs.length = ys.length
  case neg =>
    have HE : Hid (_ = _) := sameLs_len hle
    have hle' : ((xs.length : Int) == (ys.length : Int)) = false := by simp; omega
    go_enter Tryz.func94, Tryz.ntmps94
    go_wp2
    go_ret
    exact ⟨ret_bool HE.out.symm, 0, rfl⟩
  case pos =>
  have HL : Hid (xs.length = ys.length) := hle
  have hle' : ((xs.length : Int) == (ys.length : Int)) = true := by simp; omega
  rcases ha.cases with rfl | ⟨b1, o1, rfl, hpos, hc1⟩
  · obtain rfl : ys = [] := List.length_eq_zero_iff.1 (by simpa using hle.symm)
    have HE : Hid (sameLs [] [] = true) := rfl
    clear hle hle' HL
    go_enter Tryz.func94, Tryz.ntmps94
    go_wp2
    refine wp_loop_rounds 1 ?_
    rw [rounds_succ]
    go_wp2
    go_ret
    exact ⟨ret_bool HE.out.symm, 0, rfl⟩
  · rcases hb.cases with rfl | ⟨b2, o2, rfl, _, hc2⟩
    · simp at hle; simp [hle] at hpos
    · clear hle
      go_enter Tryz.func94, Tryz.ntmps94
      go_wp2
      go_loopw [13] (fun i wr => ∃ k : Nat, k ≤ xs.length ∧ i = .int .i64 k ∧ Hid (∀ t, t < k → sameL (xs.getD t zeroL) (ys.getD t zeroL) = true) ∧ ∃ n, wr = w.drewN n) (fun i _ => xs.length - (intOf i).toNat)
      case atStart => exact ⟨0, Nat.zero_le _, rfl, fun t ht => by omega, 0, rfl⟩
      case round =>
        obtain ⟨k, hk, rfl, hall, n, rfl⟩ := hrel
        by_cases hlt : k < xs.length
        · obtain ⟨h10, h11, h12⟩ := hc1 k hlt
          obtain ⟨h20, h21, h22⟩ := hc2 k (by have := HL.out; omega)
          have hlt2 : (k : Int) < (ys.length : Int) := by have := HL.out; omega
          have hnl := run_neq_live (xs.getD k zeroL) (ys.getD k zeroL)
          clear hc1 hc2
          cases hz : sameL (xs.getD k zeroL) (ys.getD k zeroL) with
          | true =>
            have HN : Hid (∀ t, t < k + 1 → sameL (xs.getD t zeroL) (ys.getD t zeroL) = true) := by
              intro t ht
              by_cases e : t = k
              · rw [e]; exact hz
              · exact hall.out t (by omega)
            rw [hz] at hnl
            clear hz
            generalize xs.getD k zeroL = z at *
            generalize ys.getD k zeroL = y at *
            go_wp2
            go_quiet (fail)
            go_wp2
            go_roundw
            case rel => exact ⟨k + 1, by omega, by go_num, HN, _, rfl⟩
            case measure => simp [intOf]; omega
          | false =>
            have HE : Hid (_ = _) := sameLs_no k hlt hz
            rw [hz] at hnl
            clear hz
            generalize xs.getD k zeroL = z at *
            generalize ys.getD k zeroL = y at *
            go_wp2
            go_quiet (fail)
            go_wp2
            go_ret
            exact ⟨ret_bool HE.out.symm, n + nq, by first | rfl | simp⟩
        · have HE : Hid (_ = _) := sameLs_all HL.out (fun t ht => hall.out t (by omega))
          go_wp2
          go_ret
          exact ⟨ret_bool HE.out.symm, n, rfl⟩

def sameS (a b : SlotV) : Bool := (a.has == b.has) && sameO a.o b.o
set_option maxHeartbeats 1000000 in
set_option maxRecDepth 100000 in
theorem implSameSlot_any (s t : SlotA) (w : World) (hs : s.reads w) (ht : t.reads w) (hls : Fit [s]) (hlt : Fit [t]) :
    Calls Tryz.prog 93 #[.agg s.cells.toArray, .agg t.cells.toArray] w fun e w' => e = .returned (.bool (sameS s.v t.v)) ∧ Below w.heap.size w w' := by
  obtain ⟨h1, h2⟩ := hls s (List.mem_singleton.2 rfl)
  obtain ⟨h3, h4⟩ := hlt t (List.mem_singleton.2 rfl)
  obtain ⟨W, hW, b0, b1, hbW, hsW⟩ := boxes2 w s.cells t.cells 36 36
  have C1 := implSameObj_any s.v.o t.v.o s.aI s.cI s.aR s.cR t.aI t.cI t.aR t.cR W (ReadsO.below hs hbW) (ReadsO.below ht hbW) h1 h2 h3 h4
  have HZ : Hid (sameS s.v t.v = ((s.v.has == t.v.has) && sameO s.v.o t.v.o)) := rfl
  generalize sameS s.v t.v = R at *
  simp only [SlotA.cells] at *
  obtain ⟨x0, x1, x2, x3, _⟩ := b0.four
  obtain ⟨y0, y1, y2, y3, _⟩ := b1.four
  clear hsW b0 b1
  cases hb : (s.v.has == t.v.has) with
  | false =>
    have HR : Hid (R = false) := by rw [Hid, HZ.out]; simp [hb]
    clear HZ C1
    go_enter Tryz.func93, Tryz.ntmps93
    go_wp2
    go_ret
    exact ⟨ret_bool HR.out.symm, by rw [hW.out]; exact hbW⟩
  | true =>
    have HR : Hid (R = sameO s.v.o t.v.o) := by rw [Hid, HZ.out]; simp [hb]
    clear HZ
    go_enter Tryz.func93, Tryz.ntmps93
    go_wp2_with fail
    rw [hW.out]
    refine C1.mono ?_
    clear C1 x0 x1 x2 x3 y0 y1 y2 y3
    rintro e w1 ⟨rfl, hb1⟩
    go_wp2
    go_ret
    exact ⟨ret_bool HR.out.symm, hbW.trans (hb1.mono hbW.size)⟩

def sameR (r t : RecV) : Bool := ((r.lsn == t.lsn) && ((r.tx == t.tx) && ((r.prev == t.prev) && ((r.kind == t.kind) && ((r.oid == t.oid) && (sameS r.bf t.bf && (sameS r.af t.af && ((r.next == t.next) && sameLs r.txs t.txs))))))))
set_option maxHeartbeats 4000000 in
set_option maxRecDepth 100000 in
theorem sameRec_any (r t : RecA) (w : World) (hr : r.reads w) (ht : t.reads w) (hlr : r.short 1099511627776) (hlt : t.short 1099511627776) :
    Calls Tryz.prog 68 #[.agg r.cells.toArray, .agg t.cells.toArray] w fun e w' => e = .returned (.bool (sameR r.v t.v)) ∧ Below w.heap.size w w' := by
  obtain ⟨W, hW, b0, b1, hbW, hsW⟩ := boxes2 w r.cells t.cells 39 39
  have HZ : Hid (sameR r.v t.v = ((r.lsn == t.lsn) && ((r.tx == t.tx) && ((r.prev == t.prev) && ((r.kind == t.kind) && ((r.oid == t.oid) && (sameS r.bf.v t.bf.v && (sameS r.af.v t.af.v && ((r.next == t.next) && sameLs r.txs t.txs))))))))) := rfl
  have HB : Hid (∀ u, Below w.heap.size w u → Calls _ _ _ _ _) := fun u hu => implSameSlot_any r.bf t.bf u (ReadsO.below hr.bf hu) (ReadsO.below ht.bf hu) (fun s hs => by obtain rfl := List.mem_singleton.1 hs; exact hlr.bf) (fun s hs => by obtain rfl := List.mem_singleton.1 hs; exact hlt.bf)
  have HA : Hid (∀ u, Below w.heap.size w u → Calls _ _ _ _ _) := fun u hu => implSameSlot_any r.af t.af u (ReadsO.below hr.af hu) (ReadsO.below ht.af hu) (fun s hs => by obtain rfl := List.mem_singleton.1 hs; exact hlr.af) (fun s hs => by obtain rfl := List.mem_singleton.1 hs; exact hlt.af)
  have HL : Hid (∀ u, Below w.heap.size w u → Calls _ _ _ _ _) := fun u hu => equalLives_any r.aL t.aL r.cL t.cL r.txs t.txs u (hr.txs.below hu) (ht.txs.below hu) hlr.txs hlt.txs
  have HX : Hid (∀ u, Below W.heap.size W u → Box u w.heap.size r.cells 39 ∧ Box u (w.heap.size + 1) t.cells 39) := fun u hu => ⟨b0.below hu b0.lt, b1.below hu b1.lt⟩
  generalize sameR r.v t.v = R at *
  clear hsW hr ht hlr hlt b0 b1
  simp only [RecA.cells, SlotA.cells] at *
  have l0 : Below W.heap.size W W := Below.refl _ _
  obtain ⟨x0, x1, x2, x3, x4, x5, x6, x7, x8, x9, x10, x11, x12, x13, x14⟩ := fifteen (HX.out W l0).1
  obtain ⟨y0, y1, y2, y3, y4, y5, y6, y7, y8, y9, y10, y11, y12, y13, y14⟩ := fifteen (HX.out W l0).2
  go_enter Tryz.func68, Tryz.ntmps68
  cases c0 : (r.lsn == t.lsn) with
  | false =>
    have HR : Hid (R = false) := by rw [Hid, HZ.out]; simp [c0]
    clear HZ
    go_wp2
    go_ret
    exact ⟨ret_bool HR.out.symm, by rw [hW.out]; exact hbW⟩
  | true =>
    cases c1 : (r.tx == t.tx) with
    | false =>
      have HR : Hid (R = false) := by rw [Hid, HZ.out]; simp [c0, c1]
      clear HZ
      go_wp2
      go_ret
      exact ⟨ret_bool HR.out.symm, by rw [hW.out]; exact hbW⟩
    | true =>
      cases c2 : (r.prev == t.prev) with
      | false =>
        have HR : Hid (R = false) := by rw [Hid, HZ.out]; simp [c0, c1, c2]
        clear HZ
        go_wp2
        go_ret
        exact ⟨ret_bool HR.out.symm, by rw [hW.out]; exact hbW⟩
      | true =>
        cases c3 : (r.kind == t.kind) with
        | false =>
          have HR : Hid (R = false) := by rw [Hid, HZ.out]; simp [c0, c1, c2, c3]
          clear HZ
          go_wp2
          go_ret
          exact ⟨ret_bool HR.out.symm, by rw [hW.out]; exact hbW⟩
        | true =>
          cases c4 : (r.oid == t.oid) with
          | false =>
            have HR : Hid (R = false) := by rw [Hid, HZ.out]; simp [c0, c1, c2, c3, c4]
            clear HZ
            go_wp2
            go_ret
            exact ⟨ret_bool HR.out.symm, by rw [hW.out]; exact hbW⟩
          | true =>
            go_wp2_with fail
            rw [hW.out]
            clear hW
            refine (HB.out W hbW).mono ?_
            clear x0 x1 x2 x3 x4 x5 x6 x7 x8 x9 x10 x11 x12 x13 x14 y0 y1 y2 y3 y4 y5 y6 y7 y8 y9 y10 y11 y12 y13 y14
            rintro e u5 ⟨rfl, hb5⟩
            have b_5 : Below w.heap.size w u5 := (hbW).trans (hb5.mono (hbW).size)
            have l_5 : Below W.heap.size W u5 := (l0).trans (hb5.mono (l0).size)
            obtain ⟨x0, x1, x2, x3, x4, x5, x6, x7, x8, x9, x10, x11, x12, x13, x14⟩ := fifteen (HX.out u5 l_5).1
            obtain ⟨y0, y1, y2, y3, y4, y5, y6, y7, y8, y9, y10, y11, y12, y13, y14⟩ := fifteen (HX.out u5 l_5).2
            clear hb5
            cases c5 : sameS r.bf.v t.bf.v with
            | false =>
              have HR : Hid (R = false) := by rw [Hid, HZ.out]; simp [c0, c1, c2, c3, c4, c5]
              clear HZ
              go_wp2
              go_ret
              exact ⟨ret_bool HR.out.symm, b_5⟩
            | true =>
              go_wp2_with fail
              refine (HA.out u5 b_5).mono ?_
              clear x0 x1 x2 x3 x4 x5 x6 x7 x8 x9 x10 x11 x12 x13 x14 y0 y1 y2 y3 y4 y5 y6 y7 y8 y9 y10 y11 y12 y13 y14
              rintro e u6 ⟨rfl, hb6⟩
              have b_6 : Below w.heap.size w u6 := (b_5).trans (hb6.mono (b_5).size)
              have l_6 : Below W.heap.size W u6 := (l_5).trans (hb6.mono (l_5).size)
              obtain ⟨x0, x1, x2, x3, x4, x5, x6, x7, x8, x9, x10, x11, x12, x13, x14⟩ := fifteen (HX.out u6 l_6).1
              obtain ⟨y0, y1, y2, y3, y4, y5, y6, y7, y8, y9, y10, y11, y12, y13, y14⟩ := fifteen (HX.out u6 l_6).2
              clear hb6
              cases c6 : sameS r.af.v t.af.v with
              | false =>
                have HR : Hid (R = false) := by rw [Hid, HZ.out]; simp [c0, c1, c2, c3, c4, c5, c6]
                clear HZ
                go_wp2
                go_ret
                exact ⟨ret_bool HR.out.symm, b_6⟩
              | true =>
                cases c7 : (r.next == t.next) with
                | false =>
                  have HR : Hid (R = false) := by rw [Hid, HZ.out]; simp [c0, c1, c2, c3, c4, c5, c6, c7]
                  clear HZ
                  go_wp2
                  go_ret
                  exact ⟨ret_bool HR.out.symm, b_6⟩
                | true =>
                  go_wp2_with fail
                  refine (HL.out u6 b_6).mono ?_
                  clear x0 x1 x2 x3 x4 x5 x6 x7 x8 x9 x10 x11 x12 x13 x14 y0 y1 y2 y3 y4 y5 y6 y7 y8 y9 y10 y11 y12 y13 y14
                  rintro e u8 ⟨rfl, nn, hnn⟩
                  have hb8 : Below (u6).heap.size u6 u8 := by rw [hnn]; exact below_drewN (Below.refl _ _) nn
                  clear hnn
                  have b_8 : Below w.heap.size w u8 := (b_6).trans (hb8.mono (b_6).size)
                  have l_8 : Below W.heap.size W u8 := (l_6).trans (hb8.mono (l_6).size)
                  have HR : Hid (R = sameLs r.txs t.txs) := by rw [Hid, HZ.out]; simp [c0, c1, c2, c3, c4, c5, c6, c7]
                  clear HZ
                  go_wp2
                  go_ret
                  exact ⟨ret_bool HR.out.symm, b_8⟩
end Go.Proofs.YtoboickdkednkaaGreatDoor

/- The walk of impl.RecOk. -/
namespace Go.Proofs.YtoboickdkednkaaGreatDoor
open Go.RowKit

/-- Is what the record tells right? -/
def deedB (n : Int) (r : RecV) : Bool :=
  if r.kind == 1 then (linkB n r.tx r.prev && (inB r.oid 1 31 && (slotB r.bf && slotB r.af)))
  else if r.kind == 2 then linkB n r.tx r.prev
  else if r.kind == 3 then linkB n r.tx r.prev
  else if r.kind == 4 then (linkB n r.tx r.prev && (inB r.oid 1 31 && (slotB r.af && inB r.next 0 (n - 1))))
  else if r.kind == 5 then linkB n r.tx r.prev
  else if r.kind == 6 then livesB n r.txs
  else false
/-- The record that tells this and nothing else. -/
def cutA (n : Int) (r : RecA) : RecA :=
  if r.kind == 1 then ⟨n, r.tx, r.prev, 1, r.oid, r.bf, r.af, 0, [], none, 0⟩
  else if r.kind == 2 then recA n r.tx r.prev 2
  else if r.kind == 3 then recA n r.tx r.prev 3
  else if r.kind == 4 then ⟨n, r.tx, r.prev, 4, r.oid, zeroS, r.af, r.next, [], none, 0⟩
  else if r.kind == 5 then recA n r.tx r.prev 5
  else if r.kind == 6 then ⟨n, 0, 0, 6, 0, zeroS, zeroS, 0, r.txs, r.aL, r.cL⟩
  else recA 0 0 0 0
theorem one_fit {s : SlotA} (h : s.v.o.ints.length ≤ 1099511627776 ∧ s.v.o.refs.length ≤ 1099511627776) : Fit [s] := fun t ht => by obtain rfl := List.mem_singleton.1 ht; exact h

theorem deedOk_any (n : Int) (r : RecA) (w : World) (hg : ErrT w) (hr : r.reads w) (hl : r.short 1099511627776) :
    Calls Tryz.prog 67 #[.int .i64 n, deedV r] w fun e w' => e = .returned (.bool (deedB n r.v)) ∧ Below w.heap.size w w' := by
  cases k1 : (r.kind == 1) with
  | true =>
    have e1 : deedV r = issetDeed (setD r.tx r.prev r.oid r.bf r.af) := by simp [deedV, k1]
    have e2 : deedB n r.v = (linkB n r.tx r.prev && (inB r.oid 1 31 && (slotB r.bf.v && slotB r.af.v))) := by simp [deedB, RecA.v, k1]
    rw [e1, e2]
    exact deedOk_set n r.tx r.prev r.oid r.bf r.af w hg hr.bf hr.af (one_fit hl.bf) (one_fit hl.af)
  | false =>
    cases k2 : (r.kind == 2) with
    | true =>
      have e1 : deedV r = iscommitDeed (linkD r.tx r.prev) := by simp [deedV, k1, k2]
      have e2 : deedB n r.v = linkB n r.tx r.prev := by simp [deedB, RecA.v, k1, k2]
      rw [e1, e2]
      exact deedOk_commit n r.tx r.prev w
    | false =>
      cases k3 : (r.kind == 3) with
      | true =>
        have e1 : deedV r = isabortDeed (linkD r.tx r.prev) := by simp [deedV, k1, k2, k3]
        have e2 : deedB n r.v = linkB n r.tx r.prev := by simp [deedB, RecA.v, k1, k2, k3]
        rw [e1, e2]
        exact deedOk_abort n r.tx r.prev w
      | false =>
        cases k4 : (r.kind == 4) with
        | true =>
          have e1 : deedV r = isbackDeed (backD r.tx r.prev r.oid r.af r.next) := by simp [deedV, k1, k2, k3, k4]
          have e2 : deedB n r.v = (linkB n r.tx r.prev && (inB r.oid 1 31 && (slotB r.af.v && inB r.next 0 (n - 1)))) := by simp [deedB, RecA.v, k1, k2, k3, k4]
          rw [e1, e2]
          exact deedOk_back n r.tx r.prev r.oid r.af r.next w hg hr.af (one_fit hl.af)
        | false =>
          cases k5 : (r.kind == 5) with
          | true =>
            have e1 : deedV r = isendDeed (linkD r.tx r.prev) := by simp [deedV, k1, k2, k3, k4, k5]
            have e2 : deedB n r.v = linkB n r.tx r.prev := by simp [deedB, RecA.v, k1, k2, k3, k4, k5]
            rw [e1, e2]
            exact deedOk_end n r.tx r.prev w
          | false =>
            cases k6 : (r.kind == 6) with
            | true =>
              have e1 : deedV r = ischeckDeed (checkD r.txs r.aL r.cL) := by simp [deedV, k1, k2, k3, k4, k5, k6]
              have e2 : deedB n r.v = livesB n r.txs := by simp [deedB, RecA.v, k1, k2, k3, k4, k5, k6]
              rw [e1, e2]
              exact deedOk_check n r.txs r.aL r.cL w hr.txs hl.txs
            | false =>
              have e1 : deedV r = .nilIface := by simp [deedV, k1, k2, k3, k4, k5, k6]
              have e2 : deedB n r.v = false := by simp [deedB, RecA.v, k1, k2, k3, k4, k5, k6]
              rw [e1, e2]
              exact deedOk_nil n w
theorem recOf_any (n : Int) (r : RecA) (w : World) :
    Calls Tryz.prog 69 #[.int .i64 n, deedV r] w fun e w' => e = .returned (.agg (cutA n r).cells.toArray) ∧ Below w.heap.size w w' := by
  cases k1 : (r.kind == 1) with
  | true =>
    have e1 : deedV r = issetDeed (setD r.tx r.prev r.oid r.bf r.af) := by simp [deedV, k1]
    have e2 : cutA n r = ⟨n, r.tx, r.prev, 1, r.oid, r.bf, r.af, 0, [], none, 0⟩ := by simp [cutA, k1]
    rw [e1, e2]
    exact recOf_set n r.tx r.prev r.oid r.bf r.af w
  | false =>
    cases k2 : (r.kind == 2) with
    | true =>
      have e1 : deedV r = iscommitDeed (linkD r.tx r.prev) := by simp [deedV, k1, k2]
      have e2 : cutA n r = recA n r.tx r.prev 2 := by simp [cutA, k1, k2]
      rw [e1, e2]
      exact recOf_commit n r.tx r.prev w
    | false =>
      cases k3 : (r.kind == 3) with
      | true =>
        have e1 : deedV r = isabortDeed (linkD r.tx r.prev) := by simp [deedV, k1, k2, k3]
        have e2 : cutA n r = recA n r.tx r.prev 3 := by simp [cutA, k1, k2, k3]
        rw [e1, e2]
        exact recOf_abort n r.tx r.prev w
      | false =>
        cases k4 : (r.kind == 4) with
        | true =>
          have e1 : deedV r = isbackDeed (backD r.tx r.prev r.oid r.af r.next) := by simp [deedV, k1, k2, k3, k4]
          have e2 : cutA n r = ⟨n, r.tx, r.prev, 4, r.oid, zeroS, r.af, r.next, [], none, 0⟩ := by simp [cutA, k1, k2, k3, k4]
          rw [e1, e2]
          exact recOf_back n r.tx r.prev r.oid r.af r.next w
        | false =>
          cases k5 : (r.kind == 5) with
          | true =>
            have e1 : deedV r = isendDeed (linkD r.tx r.prev) := by simp [deedV, k1, k2, k3, k4, k5]
            have e2 : cutA n r = recA n r.tx r.prev 5 := by simp [cutA, k1, k2, k3, k4, k5]
            rw [e1, e2]
            exact recOf_end n r.tx r.prev w
          | false =>
            cases k6 : (r.kind == 6) with
            | true =>
              have e1 : deedV r = ischeckDeed (checkD r.txs r.aL r.cL) := by simp [deedV, k1, k2, k3, k4, k5, k6]
              have e2 : cutA n r = ⟨n, 0, 0, 6, 0, zeroS, zeroS, 0, r.txs, r.aL, r.cL⟩ := by simp [cutA, k1, k2, k3, k4, k5, k6]
              rw [e1, e2]
              exact recOf_check n r.txs r.aL r.cL w
            | false =>
              have e1 : deedV r = .nilIface := by simp [deedV, k1, k2, k3, k4, k5, k6]
              have e2 : cutA n r = recA 0 0 0 0 := by simp [cutA, k1, k2, k3, k4, k5, k6]
              rw [e1, e2]
              exact recOf_nil n w
theorem cutA_reads (n : Int) {r : RecA} {w : World} (h : r.reads w) : (cutA n r).reads w := by
  have z : zeroS.reads w := ⟨ReadsI.nil _ _, ReadsI.nil _ _, fun _ => rfl, fun _ => rfl⟩
  have y : ReadsL w none [] := ReadsL.nil _ _
  unfold cutA
  split
  · exact ⟨h.bf, h.af, y⟩
  split
  · exact ⟨z, z, y⟩
  split
  · exact ⟨z, z, y⟩
  split
  · exact ⟨z, h.af, y⟩
  split
  · exact ⟨z, z, y⟩
  split
  · exact ⟨z, z, h.txs⟩
  · exact ⟨z, z, y⟩
theorem cutA_short (n : Int) {r : RecA} {m : Nat} (h : r.short m) : (cutA n r).short m := by
  have z : zeroS.v.o.ints.length ≤ m ∧ zeroS.v.o.refs.length ≤ m := ⟨Nat.zero_le _, Nat.zero_le _⟩
  have y : ([] : List LiveV).length ≤ m := Nat.zero_le _
  unfold cutA
  split
  · exact ⟨h.bf, h.af, y⟩
  split
  · exact ⟨z, z, y⟩
  split
  · exact ⟨z, z, y⟩
  split
  · exact ⟨z, h.af, y⟩
  split
  · exact ⟨z, z, y⟩
  split
  · exact ⟨z, z, h.txs⟩
  · exact ⟨z, z, y⟩
theorem isNo_same (v : SlotV) : sameS noS v = isNo v := by
  obtain ⟨h, k, i, f⟩ := v
  cases h
  · simp [sameS, isNo, noS, noO, sameO, eq_comm]
  · simp [sameS, isNo, noS]
theorem sameS_refl (v : SlotV) : sameS v v = true := by simp [sameS, sameO]
theorem isNo_slot {v : SlotV} (h : isNo v = true) : slotB v = true := by
  obtain ⟨b, k, i, f⟩ := v
  cases b
  · simp [isNo, sameO] at h
    simp [slotB, h]
  · simp [isNo] at h
theorem okV_set (n t v o : Int) (b a : SlotV) (x : Int) (l : List LiveV) : ((inB n 1 1000000 && ((linkB n t v && (inB o 1 31 && (slotB b && slotB a))) && sameR ⟨n, t, v, 1, o, b, a, 0, []⟩ ⟨n, t, v, 1, o, b, a, x, l⟩)) = true) ↔ okR ⟨n, t, v, 1, o, b, a, x, l⟩ = true := by
  have hb : isNo b = true → slotB b = true := isNo_slot
  have ha : isNo a = true → slotB a = true := isNo_slot
  simp only [sameR, sameS_refl, sameLs_nil, okR, zeroB, linkB, Bool.and_eq_true, beq_self_eq_true, beq_iff_eq, decide_eq_true_eq, Bool.true_or, Bool.false_or]
  generalize isNo b = ib at *
  generalize isNo a = ia at *
  generalize slotB b = sb at *
  generalize slotB a = sa at *
  by_cases hl : l = []
  all_goals cases ib <;> cases ia <;> cases sb <;> cases sa <;> simp [inB, hl] at hb ha ⊢ <;> omega
theorem okR_set (r : RecA) (hk : r.kind = 1) : ((inB r.lsn 1 1000000 && ((linkB r.lsn r.tx r.prev && (inB r.oid 1 31 && (slotB r.bf.v && slotB r.af.v))) && sameR (RecA.v (⟨r.lsn, r.tx, r.prev, 1, r.oid, r.bf, r.af, 0, [], none, 0⟩)) r.v)) = true) ↔ okR r.v = true := by
  obtain ⟨n, t, v, k, o, b, a, x, l, aL, cL⟩ := r
  simp only at hk
  subst hk
  exact okV_set n t v o b.v a.v x l
theorem okV_commit (n t v o : Int) (b a : SlotV) (x : Int) (l : List LiveV) : ((inB n 1 1000000 && (linkB n t v && sameR ⟨n, t, v, 2, 0, noS, noS, 0, []⟩ ⟨n, t, v, 2, o, b, a, x, l⟩)) = true) ↔ okR ⟨n, t, v, 2, o, b, a, x, l⟩ = true := by
  have hb : isNo b = true → slotB b = true := isNo_slot
  have ha : isNo a = true → slotB a = true := isNo_slot
  simp only [sameR, isNo_same, sameLs_nil, okR, zeroB, linkB, Bool.and_eq_true, beq_self_eq_true, beq_iff_eq, decide_eq_true_eq, Bool.true_or, Bool.false_or]
  generalize isNo b = ib at *
  generalize isNo a = ia at *
  generalize slotB b = sb at *
  generalize slotB a = sa at *
  by_cases hl : l = []
  all_goals cases ib <;> cases ia <;> cases sb <;> cases sa <;> simp [inB, hl] at hb ha ⊢ <;> omega
theorem okR_commit (r : RecA) (hk : r.kind = 2) : ((inB r.lsn 1 1000000 && (linkB r.lsn r.tx r.prev && sameR (RecA.v (recA r.lsn r.tx r.prev 2)) r.v)) = true) ↔ okR r.v = true := by
  obtain ⟨n, t, v, k, o, b, a, x, l, aL, cL⟩ := r
  simp only at hk
  subst hk
  exact okV_commit n t v o b.v a.v x l
theorem okV_abort (n t v o : Int) (b a : SlotV) (x : Int) (l : List LiveV) : ((inB n 1 1000000 && (linkB n t v && sameR ⟨n, t, v, 3, 0, noS, noS, 0, []⟩ ⟨n, t, v, 3, o, b, a, x, l⟩)) = true) ↔ okR ⟨n, t, v, 3, o, b, a, x, l⟩ = true := by
  have hb : isNo b = true → slotB b = true := isNo_slot
  have ha : isNo a = true → slotB a = true := isNo_slot
  simp only [sameR, isNo_same, sameLs_nil, okR, zeroB, linkB, Bool.and_eq_true, beq_self_eq_true, beq_iff_eq, decide_eq_true_eq, Bool.true_or, Bool.false_or]
  generalize isNo b = ib at *
  generalize isNo a = ia at *
  generalize slotB b = sb at *
  generalize slotB a = sa at *
  by_cases hl : l = []
  all_goals cases ib <;> cases ia <;> cases sb <;> cases sa <;> simp [inB, hl] at hb ha ⊢ <;> omega
theorem okR_abort (r : RecA) (hk : r.kind = 3) : ((inB r.lsn 1 1000000 && (linkB r.lsn r.tx r.prev && sameR (RecA.v (recA r.lsn r.tx r.prev 3)) r.v)) = true) ↔ okR r.v = true := by
  obtain ⟨n, t, v, k, o, b, a, x, l, aL, cL⟩ := r
  simp only at hk
  subst hk
  exact okV_abort n t v o b.v a.v x l
theorem okV_back (n t v o : Int) (b a : SlotV) (x : Int) (l : List LiveV) : ((inB n 1 1000000 && ((linkB n t v && (inB o 1 31 && (slotB a && inB x 0 (n - 1)))) && sameR ⟨n, t, v, 4, o, noS, a, x, []⟩ ⟨n, t, v, 4, o, b, a, x, l⟩)) = true) ↔ okR ⟨n, t, v, 4, o, b, a, x, l⟩ = true := by
  have hb : isNo b = true → slotB b = true := isNo_slot
  have ha : isNo a = true → slotB a = true := isNo_slot
  simp only [sameR, isNo_same, sameS_refl, sameLs_nil, okR, zeroB, linkB, Bool.and_eq_true, beq_self_eq_true, beq_iff_eq, decide_eq_true_eq, Bool.true_or, Bool.false_or]
  generalize isNo b = ib at *
  generalize isNo a = ia at *
  generalize slotB b = sb at *
  generalize slotB a = sa at *
  by_cases hl : l = []
  all_goals cases ib <;> cases ia <;> cases sb <;> cases sa <;> simp [inB, hl] at hb ha ⊢ <;> omega
theorem okR_back (r : RecA) (hk : r.kind = 4) : ((inB r.lsn 1 1000000 && ((linkB r.lsn r.tx r.prev && (inB r.oid 1 31 && (slotB r.af.v && inB r.next 0 (r.lsn - 1)))) && sameR (RecA.v (⟨r.lsn, r.tx, r.prev, 4, r.oid, zeroS, r.af, r.next, [], none, 0⟩)) r.v)) = true) ↔ okR r.v = true := by
  obtain ⟨n, t, v, k, o, b, a, x, l, aL, cL⟩ := r
  simp only at hk
  subst hk
  exact okV_back n t v o b.v a.v x l
theorem okV_end (n t v o : Int) (b a : SlotV) (x : Int) (l : List LiveV) : ((inB n 1 1000000 && (linkB n t v && sameR ⟨n, t, v, 5, 0, noS, noS, 0, []⟩ ⟨n, t, v, 5, o, b, a, x, l⟩)) = true) ↔ okR ⟨n, t, v, 5, o, b, a, x, l⟩ = true := by
  have hb : isNo b = true → slotB b = true := isNo_slot
  have ha : isNo a = true → slotB a = true := isNo_slot
  simp only [sameR, isNo_same, sameLs_nil, okR, zeroB, linkB, Bool.and_eq_true, beq_self_eq_true, beq_iff_eq, decide_eq_true_eq, Bool.true_or, Bool.false_or]
  generalize isNo b = ib at *
  generalize isNo a = ia at *
  generalize slotB b = sb at *
  generalize slotB a = sa at *
  by_cases hl : l = []
  all_goals cases ib <;> cases ia <;> cases sb <;> cases sa <;> simp [inB, hl] at hb ha ⊢ <;> omega
theorem okR_end (r : RecA) (hk : r.kind = 5) : ((inB r.lsn 1 1000000 && (linkB r.lsn r.tx r.prev && sameR (RecA.v (recA r.lsn r.tx r.prev 5)) r.v)) = true) ↔ okR r.v = true := by
  obtain ⟨n, t, v, k, o, b, a, x, l, aL, cL⟩ := r
  simp only at hk
  subst hk
  exact okV_end n t v o b.v a.v x l
theorem okV_check (n t v o : Int) (b a : SlotV) (x : Int) (l : List LiveV) : ((inB n 1 1000000 && (livesB n l && sameR ⟨n, 0, 0, 6, 0, noS, noS, 0, l⟩ ⟨n, t, v, 6, o, b, a, x, l⟩)) = true) ↔ okR ⟨n, t, v, 6, o, b, a, x, l⟩ = true := by
  have hb : isNo b = true → slotB b = true := isNo_slot
  have ha : isNo a = true → slotB a = true := isNo_slot
  simp only [sameR, isNo_same, sameLs_refl, okR, zeroB, Bool.and_eq_true, beq_self_eq_true, beq_iff_eq, Bool.true_or, Bool.false_or]
  generalize isNo b = ib at *
  generalize isNo a = ia at *
  generalize slotB b = sb at *
  generalize slotB a = sa at *
  generalize livesB n l = L at *
  all_goals cases L <;> cases ib <;> cases ia <;> cases sb <;> cases sa <;> simp [inB] at hb ha ⊢ <;> omega
theorem okR_check (r : RecA) (hk : r.kind = 6) : ((inB r.lsn 1 1000000 && (livesB r.lsn r.txs && sameR (RecA.v (⟨r.lsn, 0, 0, 6, 0, zeroS, zeroS, 0, r.txs, r.aL, r.cL⟩)) r.v)) = true) ↔ okR r.v = true := by
  obtain ⟨n, t, v, k, o, b, a, x, l, aL, cL⟩ := r
  simp only at hk
  subst hk
  exact okV_check n t v o b.v a.v x l
/-- The landed code's test is the model's. -/
theorem okR_eq (r : RecA) : (inB r.lsn 1 1000000 && (deedB r.lsn r.v && sameR (cutA r.lsn r).v r.v)) = okR r.v := by
  rw [Bool.eq_iff_iff]
  cases k1 : (r.kind == 1) with
  | true =>
    have e2 : deedB r.lsn r.v = (linkB r.lsn r.tx r.prev && (inB r.oid 1 31 && (slotB r.bf.v && slotB r.af.v))) := by simp [deedB, RecA.v, k1]
    have e3 : cutA r.lsn r = ⟨r.lsn, r.tx, r.prev, 1, r.oid, r.bf, r.af, 0, [], none, 0⟩ := by simp [cutA, k1]
    rw [e2, e3]
    have hk : r.kind = 1 := by simpa using k1
    exact okR_set _ (by simpa using k1)
  | false =>
    cases k2 : (r.kind == 2) with
    | true =>
      have e2 : deedB r.lsn r.v = linkB r.lsn r.tx r.prev := by simp [deedB, RecA.v, k1, k2]
      have e3 : cutA r.lsn r = recA r.lsn r.tx r.prev 2 := by simp [cutA, k1, k2]
      rw [e2, e3]
      have hk : r.kind = 2 := by simpa using k2
      exact okR_commit _ (by simpa using k2)
    | false =>
      cases k3 : (r.kind == 3) with
      | true =>
        have e2 : deedB r.lsn r.v = linkB r.lsn r.tx r.prev := by simp [deedB, RecA.v, k1, k2, k3]
        have e3 : cutA r.lsn r = recA r.lsn r.tx r.prev 3 := by simp [cutA, k1, k2, k3]
        rw [e2, e3]
        have hk : r.kind = 3 := by simpa using k3
        exact okR_abort _ (by simpa using k3)
      | false =>
        cases k4 : (r.kind == 4) with
        | true =>
          have e2 : deedB r.lsn r.v = (linkB r.lsn r.tx r.prev && (inB r.oid 1 31 && (slotB r.af.v && inB r.next 0 (r.lsn - 1)))) := by simp [deedB, RecA.v, k1, k2, k3, k4]
          have e3 : cutA r.lsn r = ⟨r.lsn, r.tx, r.prev, 4, r.oid, zeroS, r.af, r.next, [], none, 0⟩ := by simp [cutA, k1, k2, k3, k4]
          rw [e2, e3]
          have hk : r.kind = 4 := by simpa using k4
          exact okR_back _ (by simpa using k4)
        | false =>
          cases k5 : (r.kind == 5) with
          | true =>
            have e2 : deedB r.lsn r.v = linkB r.lsn r.tx r.prev := by simp [deedB, RecA.v, k1, k2, k3, k4, k5]
            have e3 : cutA r.lsn r = recA r.lsn r.tx r.prev 5 := by simp [cutA, k1, k2, k3, k4, k5]
            rw [e2, e3]
            have hk : r.kind = 5 := by simpa using k5
            exact okR_end _ (by simpa using k5)
          | false =>
            cases k6 : (r.kind == 6) with
            | true =>
              have e2 : deedB r.lsn r.v = livesB r.lsn r.txs := by simp [deedB, RecA.v, k1, k2, k3, k4, k5, k6]
              have e3 : cutA r.lsn r = ⟨r.lsn, 0, 0, 6, 0, zeroS, zeroS, 0, r.txs, r.aL, r.cL⟩ := by simp [cutA, k1, k2, k3, k4, k5, k6]
              rw [e2, e3]
              have hk : r.kind = 6 := by simpa using k6
              exact okR_check _ (by simpa using k6)
            | false =>
              have e2 : deedB r.lsn r.v = false := by simp [deedB, RecA.v, k1, k2, k3, k4, k5, k6]
              have e3 : okR r.v = false := by simp [okR, RecA.v, k1, k2, k3, k4, k5, k6]
              rw [e2, e3]
              simp
set_option maxHeartbeats 4000000 in
set_option maxRecDepth 100000 in
theorem implRecOk_any (r : RecA) (w : World) (hg : ErrT w) (hr : r.reads w) (hl : r.short 1099511627776) :
    Calls Tryz.prog 39 #[.agg r.cells.toArray] w fun e w' => e = .returned (.bool (okR r.v)) ∧ Below w.heap.size w w' := by
  obtain ⟨W, hW, b0, hbW, hsW⟩ := boxes1 w r.cells 39
  have HZ : Hid (okR r.v = _) := (okR_eq r).symm
  have HX : Hid (∀ u, Below W.heap.size W u → Box u w.heap.size r.cells 39) := fun u hu => b0.below hu b0.lt
  have C1 := deedOf_any r W
  have HD : Hid (∀ u, Below w.heap.size w u → Calls _ _ _ _ _) := fun u hu => deedOk_any r.lsn r u (hg.keep hu) (hr.below hu) hl
  have HM : Hid (∀ u, Below w.heap.size w u → Calls _ _ _ _ _) := fun u hu => sameRec_any (cutA r.lsn r) r u (cutA_reads r.lsn (hr.below hu)) (hr.below hu) (cutA_short r.lsn hl) hl
  generalize okR r.v = R at *
  generalize deedB r.lsn r.v = G at *
  generalize sameR (cutA r.lsn r).v r.v = M at *
  have HN : Hid (∀ u, Calls _ _ _ _ _) := fun u => recOf_any r.lsn r u
  generalize deedV r = D at *
  generalize cutA r.lsn r = cc at *
  simp only [RecA.cells] at *
  have HC : Hid (∀ w', Box w' w.heap.size [.int .i64 r.lsn, .int .i64 r.tx, .int .i64 r.prev, .int .i64 r.kind, .int .i64 r.oid, .bool r.bf.v.has, .int .i64 r.bf.v.o.kind, .slice r.bf.aI r.bf.v.o.ints.length r.bf.cI, .slice r.bf.aR r.bf.v.o.refs.length r.bf.cR, .bool r.af.v.has, .int .i64 r.af.v.o.kind, .slice r.af.aI r.af.v.o.ints.length r.af.cI, .slice r.af.aR r.af.v.o.refs.length r.af.cR, .int .i64 r.next, .slice r.aL r.txs.length r.cL] 39 → w'.cell? ⟨w.heap.size, 0, none⟩ = some (.int .i64 r.lsn) ∧ w'.cell? ⟨w.heap.size, 1, none⟩ = some (.int .i64 r.tx) ∧ w'.cell? ⟨w.heap.size, 2, none⟩ = some (.int .i64 r.prev) ∧ w'.cell? ⟨w.heap.size, 3, none⟩ = some (.int .i64 r.kind) ∧ w'.cell? ⟨w.heap.size, 4, none⟩ = some (.int .i64 r.oid) ∧ w'.cell? ⟨w.heap.size, 5, none⟩ = some (.bool r.bf.v.has) ∧ w'.cell? ⟨w.heap.size, 6, none⟩ = some (.int .i64 r.bf.v.o.kind) ∧ w'.cell? ⟨w.heap.size, 7, none⟩ = some (.slice r.bf.aI r.bf.v.o.ints.length r.bf.cI) ∧ w'.cell? ⟨w.heap.size, 8, none⟩ = some (.slice r.bf.aR r.bf.v.o.refs.length r.bf.cR) ∧ w'.cell? ⟨w.heap.size, 9, none⟩ = some (.bool r.af.v.has) ∧ w'.cell? ⟨w.heap.size, 10, none⟩ = some (.int .i64 r.af.v.o.kind) ∧ w'.cell? ⟨w.heap.size, 11, none⟩ = some (.slice r.af.aI r.af.v.o.ints.length r.af.cI) ∧ w'.cell? ⟨w.heap.size, 12, none⟩ = some (.slice r.af.aR r.af.v.o.refs.length r.af.cR) ∧ w'.cell? ⟨w.heap.size, 13, none⟩ = some (.int .i64 r.next) ∧ w'.cell? ⟨w.heap.size, 14, none⟩ = some (.slice r.aL r.txs.length r.cL)) := fun w' b => fifteen b
  obtain ⟨x0, x1, x2, x3, x4, x5, x6, x7, x8, x9, x10, x11, x12, x13, x14⟩ := HC.out W b0
  clear hsW b0 hg hr hl
  go_enter Tryz.func39, Tryz.ntmps39
  go_wp2_with fail
  rw [hW.out]
  clear hW
  refine C1.mono ?_
  clear C1 x0 x1 x2 x3 x4 x5 x6 x7 x8 x9 x10 x11 x12 x13 x14
  rintro e w1 ⟨rfl, hb1⟩
  have B1 : Below w.heap.size w w1 := hbW.trans (hb1.mono hbW.size)
  have hh := HC.out w1 (HX.out _ hb1)
  by_cases h1 : 1 ≤ r.lsn
  case neg =>
    have HR : Hid (R = false) := by rw [Hid, HZ.out]; simp [inB]; omega
    have hd : decide (1 ≤ r.lsn) = false := by simp; omega
    clear HZ HD HM HN h1
    go_wp2_with fail
    obtain ⟨x0, x1, x2, x3, x4, x5, x6, x7, x8, x9, x10, x11, x12, x13, x14⟩ := hh
    go_quiet (fail)
    go_wp2
    go_ret
    exact ⟨ret_bool HR.out.symm, below_drewN B1 _⟩
  case pos =>
  by_cases h2 : r.lsn ≤ 1000000
  case neg =>
    have HR : Hid (R = false) := by rw [Hid, HZ.out]; simp [inB]; omega
    have hd : decide (1 ≤ r.lsn) = true := by simp; omega
    have hd2 : decide (r.lsn ≤ 1000000) = false := by simp; omega
    clear HZ HD HM HN h1 h2
    go_wp2_with fail
    obtain ⟨x0, x1, x2, x3, x4, x5, x6, x7, x8, x9, x10, x11, x12, x13, x14⟩ := hh
    go_quiet (fail)
    go_wp2
    go_ret
    exact ⟨ret_bool HR.out.symm, below_drewN B1 _⟩
  case pos =>
  have h12 : inB r.lsn 1 1000000 = true := by simp [inB]; omega
  cases G with
  | false =>
    have HR : Hid (R = false) := by rw [Hid, HZ.out]; simp
    clear HZ HM HN h12
    go_wp2_with fail
    refine wp_region_held_drew (S := fun w' => w'.cell? ⟨w.heap.size, 0, none⟩ = some (.int .i64 r.lsn) ∧ w'.cell? ⟨w.heap.size, 1, none⟩ = some (.int .i64 r.tx) ∧ w'.cell? ⟨w.heap.size, 2, none⟩ = some (.int .i64 r.prev) ∧ w'.cell? ⟨w.heap.size, 3, none⟩ = some (.int .i64 r.kind) ∧ w'.cell? ⟨w.heap.size, 4, none⟩ = some (.int .i64 r.oid) ∧ w'.cell? ⟨w.heap.size, 5, none⟩ = some (.bool r.bf.v.has) ∧ w'.cell? ⟨w.heap.size, 6, none⟩ = some (.int .i64 r.bf.v.o.kind) ∧ w'.cell? ⟨w.heap.size, 7, none⟩ = some (.slice r.bf.aI r.bf.v.o.ints.length r.bf.cI) ∧ w'.cell? ⟨w.heap.size, 8, none⟩ = some (.slice r.bf.aR r.bf.v.o.refs.length r.bf.cR) ∧ w'.cell? ⟨w.heap.size, 9, none⟩ = some (.bool r.af.v.has) ∧ w'.cell? ⟨w.heap.size, 10, none⟩ = some (.int .i64 r.af.v.o.kind) ∧ w'.cell? ⟨w.heap.size, 11, none⟩ = some (.slice r.af.aI r.af.v.o.ints.length r.af.cI) ∧ w'.cell? ⟨w.heap.size, 12, none⟩ = some (.slice r.af.aR r.af.v.o.refs.length r.af.cR) ∧ w'.cell? ⟨w.heap.size, 13, none⟩ = some (.int .i64 r.next) ∧ w'.cell? ⟨w.heap.size, 14, none⟩ = some (.slice r.aL r.txs.length r.cL)) (by kernel_rfl) (HC.out _ (HX.out _ hb1.drew)) (fun hHeld => ?_)
    refine wpAnyH_take (i := 0) (v := .pointer (some ⟨w.heap.size, 0, none⟩)) rfl (by kernel_rfl) (by kernel_rfl) (by kernel_rfl) (fun _ _ _ h => h) (Or.inl ⟨by rfl, ?_⟩) hHeld ?_
    · intro w' hSw
      go_simp <;> rfl
    try simp only [Act.put, List.getElem_toArray, List.getElem_cons_zero, List.setIfInBounds_toArray, List.set_cons_zero, List.set_cons_succ]
    refine wpAnyH_take (i := 1) (v := .int .i64 r.lsn) rfl (by kernel_rfl) (by kernel_rfl) (by kernel_rfl) (fun _ _ _ h => h) (Or.inl ⟨by rfl, ?_⟩) hHeld ?_
    · intro w' hSw
      go_simp <;> rfl
    try simp only [Act.put, List.getElem_toArray, List.getElem_cons_zero, List.getElem_cons_succ, List.setIfInBounds_toArray, List.set_cons_zero, List.set_cons_succ]
    refine wpAnyH_take (i := 2) (v := .bool true) rfl (by kernel_rfl) (by kernel_rfl) (by kernel_rfl) (fun _ _ _ h => h) (Or.inl ⟨by rfl, ?_⟩) hHeld ?_
    · intro w' hSw
      go_simp <;> rfl
    try simp only [Act.put, List.getElem_toArray, List.getElem_cons_zero, List.getElem_cons_succ, List.setIfInBounds_toArray, List.set_cons_zero, List.set_cons_succ]
    refine wpAnyH_take (i := 3) (v := .bool true) rfl (by kernel_rfl) (by kernel_rfl) (by kernel_rfl) (fun _ _ _ h => h) (Or.inl ⟨by rfl, ?_⟩) hHeld ?_
    · intro w' hSw
      go_simp <;> rfl
    try simp only [Act.put, List.getElem_toArray, List.getElem_cons_zero, List.getElem_cons_succ, List.setIfInBounds_toArray, List.set_cons_zero, List.set_cons_succ]
    refine wpAnyH_take (i := 4) (v := .pointer (some ⟨w.heap.size, 0, none⟩)) rfl (by kernel_rfl) (by kernel_rfl) (by kernel_rfl) (fun _ _ _ h => h) (Or.inl ⟨by rfl, ?_⟩) hHeld ?_
    · intro w' hSw
      go_simp <;> rfl
    try simp only [Act.put, List.getElem_toArray, List.getElem_cons_zero, List.getElem_cons_succ, List.setIfInBounds_toArray, List.set_cons_zero, List.set_cons_succ]
    refine wpAnyH_take (i := 5) (v := .int .i64 r.lsn) rfl (by kernel_rfl) (by kernel_rfl) (by kernel_rfl) (fun _ _ _ h => h) (Or.inl ⟨by rfl, ?_⟩) hHeld ?_
    · intro w' hSw
      go_simp <;> rfl
    try simp only [Act.put, List.getElem_toArray, List.getElem_cons_zero, List.getElem_cons_succ, List.setIfInBounds_toArray, List.set_cons_zero, List.set_cons_succ]
    refine wpAnyH_take (i := 6) (v := .bool true) rfl (by kernel_rfl) (by kernel_rfl) (by kernel_rfl) (fun _ _ _ h => h) (Or.inl ⟨by rfl, ?_⟩) hHeld ?_
    · intro w' hSw
      go_simp <;> rfl
    try simp only [Act.put, List.getElem_toArray, List.getElem_cons_zero, List.getElem_cons_succ, List.setIfInBounds_toArray, List.set_cons_zero, List.set_cons_succ]
    refine wpAnyH_take (i := 7) (v := .bool true) rfl (by kernel_rfl) (by kernel_rfl) (by kernel_rfl) (fun _ _ _ h => h) (Or.inl ⟨by rfl, ?_⟩) hHeld ?_
    · intro w' hSw
      go_simp <;> rfl
    try simp only [Act.put, List.getElem_toArray, List.getElem_cons_zero, List.getElem_cons_succ, List.setIfInBounds_toArray, List.set_cons_zero, List.set_cons_succ]
    refine wpAnyH_take (i := 8) (v := .bool true) rfl (by kernel_rfl) (by kernel_rfl) (by kernel_rfl) (fun _ _ _ h => h) (Or.inl ⟨by rfl, ?_⟩) hHeld ?_
    · intro w' hSw
      go_simp <;> rfl
    try simp only [Act.put, List.getElem_toArray, List.getElem_cons_zero, List.getElem_cons_succ, List.setIfInBounds_toArray, List.set_cons_zero, List.set_cons_succ]
    refine wpAnyH_take (i := 9) (v := .pointer (some ⟨w.heap.size, 0, none⟩)) rfl (by kernel_rfl) (by kernel_rfl) (by kernel_rfl) (fun _ _ _ h => h) (Or.inl ⟨by rfl, ?_⟩) hHeld ?_
    · intro w' hSw
      go_simp <;> rfl
    try simp only [Act.put, List.getElem_toArray, List.getElem_cons_zero, List.getElem_cons_succ, List.setIfInBounds_toArray, List.set_cons_zero, List.set_cons_succ]
    refine wpAnyH_take (i := 10) (v := .int .i64 r.lsn) rfl (by kernel_rfl) (by kernel_rfl) (by kernel_rfl) (fun _ _ _ h => h) (Or.inl ⟨by rfl, ?_⟩) hHeld ?_
    · intro w' hSw
      go_simp <;> rfl
    try simp only [Act.put, List.getElem_toArray, List.getElem_cons_zero, List.getElem_cons_succ, List.setIfInBounds_toArray, List.set_cons_zero, List.set_cons_succ]
    refine wpAnyH_take (i := 11) (v := D) rfl (by kernel_rfl) (by kernel_rfl) (by kernel_rfl) (fun _ _ _ h => h) (Or.inl ⟨by rfl, ?_⟩) hHeld ?_
    · intro w' hSw
      go_simp <;> rfl
    try simp only [Act.put, List.getElem_toArray, List.getElem_cons_zero, List.getElem_cons_succ, List.setIfInBounds_toArray, List.set_cons_zero, List.set_cons_succ]
    refine wpAnyH_ready (rs := [12]) (by kernel_rfl) (by simp) ?_
    refine AllReadyH.cons rfl (fun K hK => ?_) AllReadyH.nil
    go_simp
    refine (HD.out _ B1.drew).mono ?_
    rintro e u2 ⟨rfl, hbu2⟩
    have hBu2 : Below W.heap.size W u2 := (hb1.drew).trans (hbu2.mono (hb1.drew).size)
    refine hK.out _ _ (HC.out _ (HX.out _ hBu2)) (fun hHeld => ?_)
    clear hK K
    try simp only [Act.put, List.getElem_toArray, List.getElem_cons_zero, List.getElem_cons_succ, List.setIfInBounds_toArray, List.set_cons_zero, List.set_cons_succ]
    refine wpAnyH_take (i := 13) (v := .bool false) rfl (by kernel_rfl) (by kernel_rfl) (by kernel_rfl) (fun _ _ _ h => h) (Or.inl ⟨by rfl, ?_⟩) hHeld ?_
    · intro w' hSw
      go_simp <;> rfl
    try simp only [Act.put, List.getElem_toArray, List.getElem_cons_zero, List.getElem_cons_succ, List.setIfInBounds_toArray, List.set_cons_zero, List.set_cons_succ]
    refine wpAnyH_take (i := 14) (v := .bool false) rfl (by kernel_rfl) (by kernel_rfl) (by kernel_rfl) (fun _ _ _ h => h) (Or.inl ⟨by rfl, ?_⟩) hHeld ?_
    · intro w' hSw
      go_simp <;> rfl
    try simp only [Act.put, List.getElem_toArray, List.getElem_cons_zero, List.getElem_cons_succ, List.setIfInBounds_toArray, List.set_cons_zero, List.set_cons_succ]
    refine wpAnyH_take (i := 15) (v := undef) rfl (by kernel_rfl) (by kernel_rfl) (by kernel_rfl) (fun _ _ _ h => h) (Or.inr ⟨by rfl, rfl⟩) hHeld ?_
    try simp only [Act.put, List.getElem_toArray, List.getElem_cons_zero, List.getElem_cons_succ, List.setIfInBounds_toArray, List.set_cons_zero, List.set_cons_succ]
    refine wpAnyH_take (i := 16) (v := undef) rfl (by kernel_rfl) (by kernel_rfl) (by kernel_rfl) (fun _ _ _ h => h) (Or.inr ⟨by rfl, rfl⟩) hHeld ?_
    try simp only [Act.put, List.getElem_toArray, List.getElem_cons_zero, List.getElem_cons_succ, List.setIfInBounds_toArray, List.set_cons_zero, List.set_cons_succ]
    refine wpAnyH_take (i := 17) (v := undef) rfl (by kernel_rfl) (by kernel_rfl) (by kernel_rfl) (fun _ _ _ h => h) (Or.inr ⟨by rfl, rfl⟩) hHeld ?_
    try simp only [Act.put, List.getElem_toArray, List.getElem_cons_zero, List.getElem_cons_succ, List.setIfInBounds_toArray, List.set_cons_zero, List.set_cons_succ]
    refine wpAnyH_take (i := 18) (v := undef) rfl (by kernel_rfl) (by kernel_rfl) (by kernel_rfl) (fun _ _ _ h => h) (Or.inr ⟨by rfl, rfl⟩) hHeld ?_
    try simp only [Act.put, List.getElem_toArray, List.getElem_cons_zero, List.getElem_cons_succ, List.setIfInBounds_toArray, List.set_cons_zero, List.set_cons_succ]
    refine wpAnyH_take (i := 19) (v := undef) rfl (by kernel_rfl) (by kernel_rfl) (by kernel_rfl) (fun _ _ _ h => h) (Or.inr ⟨by rfl, rfl⟩) hHeld ?_
    try simp only [Act.put, List.getElem_toArray, List.getElem_cons_zero, List.getElem_cons_succ, List.setIfInBounds_toArray, List.set_cons_zero, List.set_cons_succ]
    refine wpAnyH_take (i := 20) (v := undef) rfl (by kernel_rfl) (by kernel_rfl) (by kernel_rfl) (fun _ _ _ h => h) (Or.inr ⟨by rfl, rfl⟩) hHeld ?_
    try simp only [Act.put, List.getElem_toArray, List.getElem_cons_zero, List.getElem_cons_succ, List.setIfInBounds_toArray, List.set_cons_zero, List.set_cons_succ]
    refine wpAnyH_take (i := 21) (v := .bool false) rfl (by kernel_rfl) (by kernel_rfl) (by kernel_rfl) (fun _ _ _ h => h) (Or.inl ⟨by rfl, ?_⟩) hHeld ?_
    · intro w' hSw
      go_simp <;> rfl
    try simp only [Act.put, List.getElem_toArray, List.getElem_cons_zero, List.getElem_cons_succ, List.setIfInBounds_toArray, List.set_cons_zero, List.set_cons_succ]
    refine wpAnyH_take (i := 22) (v := .bool false) rfl (by kernel_rfl) (by kernel_rfl) (by kernel_rfl) (fun _ _ _ h => h) (Or.inl ⟨by rfl, ?_⟩) hHeld ?_
    · intro w' hSw
      go_simp <;> rfl
    try simp only [Act.put, List.getElem_toArray, List.getElem_cons_zero, List.getElem_cons_succ, List.setIfInBounds_toArray, List.set_cons_zero, List.set_cons_succ]
    refine wpAnyH_done (by kernel_rfl) ?_ _
    go_wp2
    go_ret
    exact ⟨ret_bool HR.out.symm, hbW.trans (hBu2.mono hbW.size)⟩
  | true =>
    have HR : Hid (R = M) := by rw [Hid, HZ.out, h12]; simp
    clear HZ h12
    go_wp2_with fail
    refine wp_region_held_drew (S := fun w' => w'.cell? ⟨w.heap.size, 0, none⟩ = some (.int .i64 r.lsn) ∧ w'.cell? ⟨w.heap.size, 1, none⟩ = some (.int .i64 r.tx) ∧ w'.cell? ⟨w.heap.size, 2, none⟩ = some (.int .i64 r.prev) ∧ w'.cell? ⟨w.heap.size, 3, none⟩ = some (.int .i64 r.kind) ∧ w'.cell? ⟨w.heap.size, 4, none⟩ = some (.int .i64 r.oid) ∧ w'.cell? ⟨w.heap.size, 5, none⟩ = some (.bool r.bf.v.has) ∧ w'.cell? ⟨w.heap.size, 6, none⟩ = some (.int .i64 r.bf.v.o.kind) ∧ w'.cell? ⟨w.heap.size, 7, none⟩ = some (.slice r.bf.aI r.bf.v.o.ints.length r.bf.cI) ∧ w'.cell? ⟨w.heap.size, 8, none⟩ = some (.slice r.bf.aR r.bf.v.o.refs.length r.bf.cR) ∧ w'.cell? ⟨w.heap.size, 9, none⟩ = some (.bool r.af.v.has) ∧ w'.cell? ⟨w.heap.size, 10, none⟩ = some (.int .i64 r.af.v.o.kind) ∧ w'.cell? ⟨w.heap.size, 11, none⟩ = some (.slice r.af.aI r.af.v.o.ints.length r.af.cI) ∧ w'.cell? ⟨w.heap.size, 12, none⟩ = some (.slice r.af.aR r.af.v.o.refs.length r.af.cR) ∧ w'.cell? ⟨w.heap.size, 13, none⟩ = some (.int .i64 r.next) ∧ w'.cell? ⟨w.heap.size, 14, none⟩ = some (.slice r.aL r.txs.length r.cL)) (by kernel_rfl) (HC.out _ (HX.out _ hb1.drew)) (fun hHeld => ?_)
    refine wpAnyH_take (i := 0) (v := .pointer (some ⟨w.heap.size, 0, none⟩)) rfl (by kernel_rfl) (by kernel_rfl) (by kernel_rfl) (fun _ _ _ h => h) (Or.inl ⟨by rfl, ?_⟩) hHeld ?_
    · intro w' hSw
      go_simp <;> rfl
    try simp only [Act.put, List.getElem_toArray, List.getElem_cons_zero, List.setIfInBounds_toArray, List.set_cons_zero, List.set_cons_succ]
    refine wpAnyH_take (i := 1) (v := .int .i64 r.lsn) rfl (by kernel_rfl) (by kernel_rfl) (by kernel_rfl) (fun _ _ _ h => h) (Or.inl ⟨by rfl, ?_⟩) hHeld ?_
    · intro w' hSw
      go_simp <;> rfl
    try simp only [Act.put, List.getElem_toArray, List.getElem_cons_zero, List.getElem_cons_succ, List.setIfInBounds_toArray, List.set_cons_zero, List.set_cons_succ]
    refine wpAnyH_take (i := 2) (v := .bool true) rfl (by kernel_rfl) (by kernel_rfl) (by kernel_rfl) (fun _ _ _ h => h) (Or.inl ⟨by rfl, ?_⟩) hHeld ?_
    · intro w' hSw
      go_simp <;> rfl
    try simp only [Act.put, List.getElem_toArray, List.getElem_cons_zero, List.getElem_cons_succ, List.setIfInBounds_toArray, List.set_cons_zero, List.set_cons_succ]
    refine wpAnyH_take (i := 3) (v := .bool true) rfl (by kernel_rfl) (by kernel_rfl) (by kernel_rfl) (fun _ _ _ h => h) (Or.inl ⟨by rfl, ?_⟩) hHeld ?_
    · intro w' hSw
      go_simp <;> rfl
    try simp only [Act.put, List.getElem_toArray, List.getElem_cons_zero, List.getElem_cons_succ, List.setIfInBounds_toArray, List.set_cons_zero, List.set_cons_succ]
    refine wpAnyH_take (i := 4) (v := .pointer (some ⟨w.heap.size, 0, none⟩)) rfl (by kernel_rfl) (by kernel_rfl) (by kernel_rfl) (fun _ _ _ h => h) (Or.inl ⟨by rfl, ?_⟩) hHeld ?_
    · intro w' hSw
      go_simp <;> rfl
    try simp only [Act.put, List.getElem_toArray, List.getElem_cons_zero, List.getElem_cons_succ, List.setIfInBounds_toArray, List.set_cons_zero, List.set_cons_succ]
    refine wpAnyH_take (i := 5) (v := .int .i64 r.lsn) rfl (by kernel_rfl) (by kernel_rfl) (by kernel_rfl) (fun _ _ _ h => h) (Or.inl ⟨by rfl, ?_⟩) hHeld ?_
    · intro w' hSw
      go_simp <;> rfl
    try simp only [Act.put, List.getElem_toArray, List.getElem_cons_zero, List.getElem_cons_succ, List.setIfInBounds_toArray, List.set_cons_zero, List.set_cons_succ]
    refine wpAnyH_take (i := 6) (v := .bool true) rfl (by kernel_rfl) (by kernel_rfl) (by kernel_rfl) (fun _ _ _ h => h) (Or.inl ⟨by rfl, ?_⟩) hHeld ?_
    · intro w' hSw
      go_simp <;> rfl
    try simp only [Act.put, List.getElem_toArray, List.getElem_cons_zero, List.getElem_cons_succ, List.setIfInBounds_toArray, List.set_cons_zero, List.set_cons_succ]
    refine wpAnyH_take (i := 7) (v := .bool true) rfl (by kernel_rfl) (by kernel_rfl) (by kernel_rfl) (fun _ _ _ h => h) (Or.inl ⟨by rfl, ?_⟩) hHeld ?_
    · intro w' hSw
      go_simp <;> rfl
    try simp only [Act.put, List.getElem_toArray, List.getElem_cons_zero, List.getElem_cons_succ, List.setIfInBounds_toArray, List.set_cons_zero, List.set_cons_succ]
    refine wpAnyH_take (i := 8) (v := .bool true) rfl (by kernel_rfl) (by kernel_rfl) (by kernel_rfl) (fun _ _ _ h => h) (Or.inl ⟨by rfl, ?_⟩) hHeld ?_
    · intro w' hSw
      go_simp <;> rfl
    try simp only [Act.put, List.getElem_toArray, List.getElem_cons_zero, List.getElem_cons_succ, List.setIfInBounds_toArray, List.set_cons_zero, List.set_cons_succ]
    refine wpAnyH_take (i := 9) (v := .pointer (some ⟨w.heap.size, 0, none⟩)) rfl (by kernel_rfl) (by kernel_rfl) (by kernel_rfl) (fun _ _ _ h => h) (Or.inl ⟨by rfl, ?_⟩) hHeld ?_
    · intro w' hSw
      go_simp <;> rfl
    try simp only [Act.put, List.getElem_toArray, List.getElem_cons_zero, List.getElem_cons_succ, List.setIfInBounds_toArray, List.set_cons_zero, List.set_cons_succ]
    refine wpAnyH_take (i := 10) (v := .int .i64 r.lsn) rfl (by kernel_rfl) (by kernel_rfl) (by kernel_rfl) (fun _ _ _ h => h) (Or.inl ⟨by rfl, ?_⟩) hHeld ?_
    · intro w' hSw
      go_simp <;> rfl
    try simp only [Act.put, List.getElem_toArray, List.getElem_cons_zero, List.getElem_cons_succ, List.setIfInBounds_toArray, List.set_cons_zero, List.set_cons_succ]
    refine wpAnyH_take (i := 11) (v := D) rfl (by kernel_rfl) (by kernel_rfl) (by kernel_rfl) (fun _ _ _ h => h) (Or.inl ⟨by rfl, ?_⟩) hHeld ?_
    · intro w' hSw
      go_simp <;> rfl
    try simp only [Act.put, List.getElem_toArray, List.getElem_cons_zero, List.getElem_cons_succ, List.setIfInBounds_toArray, List.set_cons_zero, List.set_cons_succ]
    refine wpAnyH_ready (rs := [12]) (by kernel_rfl) (by simp) ?_
    refine AllReadyH.cons rfl (fun K hK => ?_) AllReadyH.nil
    go_simp
    refine (HD.out _ B1.drew).mono ?_
    rintro e u2 ⟨rfl, hbu2⟩
    have hBu2 : Below W.heap.size W u2 := (hb1.drew).trans (hbu2.mono (hb1.drew).size)
    refine hK.out _ _ (HC.out _ (HX.out _ hBu2)) (fun hHeld => ?_)
    clear hK K
    try simp only [Act.put, List.getElem_toArray, List.getElem_cons_zero, List.getElem_cons_succ, List.setIfInBounds_toArray, List.set_cons_zero, List.set_cons_succ]
    refine wpAnyH_take (i := 13) (v := .bool true) rfl (by kernel_rfl) (by kernel_rfl) (by kernel_rfl) (fun _ _ _ h => h) (Or.inl ⟨by rfl, ?_⟩) hHeld ?_
    · intro w' hSw
      go_simp <;> rfl
    try simp only [Act.put, List.getElem_toArray, List.getElem_cons_zero, List.getElem_cons_succ, List.setIfInBounds_toArray, List.set_cons_zero, List.set_cons_succ]
    refine wpAnyH_take (i := 14) (v := .bool true) rfl (by kernel_rfl) (by kernel_rfl) (by kernel_rfl) (fun _ _ _ h => h) (Or.inl ⟨by rfl, ?_⟩) hHeld ?_
    · intro w' hSw
      go_simp <;> rfl
    try simp only [Act.put, List.getElem_toArray, List.getElem_cons_zero, List.getElem_cons_succ, List.setIfInBounds_toArray, List.set_cons_zero, List.set_cons_succ]
    refine wpAnyH_take (i := 15) (v := .pointer (some ⟨w.heap.size, 0, none⟩)) rfl (by kernel_rfl) (by kernel_rfl) (by kernel_rfl) (fun _ _ _ h => h) (Or.inl ⟨by rfl, ?_⟩) hHeld ?_
    · intro w' hSw
      go_simp <;> rfl
    try simp only [Act.put, List.getElem_toArray, List.getElem_cons_zero, List.getElem_cons_succ, List.setIfInBounds_toArray, List.set_cons_zero, List.set_cons_succ]
    refine wpAnyH_take (i := 16) (v := .int .i64 r.lsn) rfl (by kernel_rfl) (by kernel_rfl) (by kernel_rfl) (fun _ _ _ h => h) (Or.inl ⟨by rfl, ?_⟩) hHeld ?_
    · intro w' hSw
      go_simp <;> rfl
    try simp only [Act.put, List.getElem_toArray, List.getElem_cons_zero, List.getElem_cons_succ, List.setIfInBounds_toArray, List.set_cons_zero, List.set_cons_succ]
    refine wpAnyH_take (i := 17) (v := D) rfl (by kernel_rfl) (by kernel_rfl) (by kernel_rfl) (fun _ _ _ h => h) (Or.inl ⟨by rfl, ?_⟩) hHeld ?_
    · intro w' hSw
      go_simp <;> rfl
    try simp only [Act.put, List.getElem_toArray, List.getElem_cons_zero, List.getElem_cons_succ, List.setIfInBounds_toArray, List.set_cons_zero, List.set_cons_succ]
    refine wpAnyH_take (i := 19) (v := .agg #[.int .i64 r.lsn, .int .i64 r.tx, .int .i64 r.prev, .int .i64 r.kind, .int .i64 r.oid, .bool r.bf.v.has, .int .i64 r.bf.v.o.kind, .slice r.bf.aI r.bf.v.o.ints.length r.bf.cI, .slice r.bf.aR r.bf.v.o.refs.length r.bf.cR, .bool r.af.v.has, .int .i64 r.af.v.o.kind, .slice r.af.aI r.af.v.o.ints.length r.af.cI, .slice r.af.aR r.af.v.o.refs.length r.af.cR, .int .i64 r.next, .slice r.aL r.txs.length r.cL]) rfl (by kernel_rfl) (by kernel_rfl) (by kernel_rfl) (fun _ _ _ h => h) (Or.inl ⟨by rfl, ?_⟩) hHeld ?_
    · intro w' hSw
      go_simp <;> rfl
    try simp only [Act.put, List.getElem_toArray, List.getElem_cons_zero, List.getElem_cons_succ, List.setIfInBounds_toArray, List.set_cons_zero, List.set_cons_succ]
    refine wpAnyH_ready (rs := [18]) (by kernel_rfl) (by simp) ?_
    refine AllReadyH.cons rfl (fun K hK => ?_) AllReadyH.nil
    go_simp
    refine (HN.out _).mono ?_
    rintro e u3 ⟨rfl, hbu3⟩
    have hBu3 : Below W.heap.size W u3 := (hBu2).trans (hbu3.mono (hBu2).size)
    refine hK.out _ _ (HC.out _ (HX.out _ hBu3)) (fun hHeld => ?_)
    clear hK K
    try simp only [Act.put, List.getElem_toArray, List.getElem_cons_zero, List.getElem_cons_succ, List.setIfInBounds_toArray, List.set_cons_zero, List.set_cons_succ]
    refine wpAnyH_ready (rs := [20]) (by kernel_rfl) (by simp) ?_
    refine AllReadyH.cons rfl (fun K hK => ?_) AllReadyH.nil
    go_simp
    refine (HM.out _ (hbW.trans (hBu3.mono hbW.size))).mono ?_
    rintro e u4 ⟨rfl, hbu4⟩
    have hBu4 : Below W.heap.size W u4 := (hBu3).trans (hbu4.mono (hBu3).size)
    refine hK.out _ _ (HC.out _ (HX.out _ hBu4)) (fun hHeld => ?_)
    clear hK K
    try simp only [Act.put, List.getElem_toArray, List.getElem_cons_zero, List.getElem_cons_succ, List.setIfInBounds_toArray, List.set_cons_zero, List.set_cons_succ]
    refine wpAnyH_take (i := 21) (v := .bool M) rfl (by kernel_rfl) (by kernel_rfl) (by kernel_rfl) (fun _ _ _ h => h) (Or.inl ⟨by rfl, ?_⟩) hHeld ?_
    · intro w' hSw
      go_simp <;> rfl
    try simp only [Act.put, List.getElem_toArray, List.getElem_cons_zero, List.getElem_cons_succ, List.setIfInBounds_toArray, List.set_cons_zero, List.set_cons_succ]
    refine wpAnyH_take (i := 22) (v := .bool M) rfl (by kernel_rfl) (by kernel_rfl) (by kernel_rfl) (fun _ _ _ h => h) (Or.inl ⟨by rfl, ?_⟩) hHeld ?_
    · intro w' hSw
      go_simp <;> rfl
    try simp only [Act.put, List.getElem_toArray, List.getElem_cons_zero, List.getElem_cons_succ, List.setIfInBounds_toArray, List.set_cons_zero, List.set_cons_succ]
    refine wpAnyH_done (by kernel_rfl) ?_ _
    go_wp2
    go_ret
    exact ⟨ret_bool HR.out.symm, hbW.trans (hBu4.mono hbW.size)⟩
end Go.Proofs.YtoboickdkednkaaGreatDoor

/- The walk of impl.LogOk. -/
namespace Go.Proofs.YtoboickdkednkaaGreatDoor
open Go.RowKit

theorem lsnAt_any (p : Int) (w : World) (h : 0 ≤ p ∧ p ≤ 1099511627776) :
    Calls Tryz.prog 38 #[.int .i64 p] w fun e w' => e = .returned (.int .i64 (p + 1)) ∧ w' = w := by
  go_enter Tryz.func38, Tryz.ntmps38
  go_wp2
  go_ret
  exact ⟨rfl, rfl⟩

set_option maxHeartbeats 4000000 in
set_option maxRecDepth 100000 in
theorem implLogOk_any (l : LogA) (w : World) (hg : ErrT w) (hr : l.reads w) (hl : l.short 1099511627776) :
    Calls Tryz.prog 13 #[.agg l.cells.toArray] w fun e w' => e = .returned (.bool (okLog l.v)) ∧ Below w.heap.size w w' := by
  have HLEN : Hid (¬ l.recs.length ≤ 4000 → okLog l.v = false) := fun h => okLog_len (by rw [l.v_len]; exact h)
  have HSURE : Hid (¬ (0 ≤ l.sure ∧ l.sure ≤ l.recs.length) → okLog l.v = false) := fun h => okLog_sure (by rw [l.v_len]; unfold inB; exact decide_eq_false h)
  have HNO : Hid (∀ k, k < l.recs.length → (((l.recs.getD k zeroR).lsn == (k + 1 : Int)) && okR (l.recs.getD k zeroR).v) = false → okLog l.v = false) := fun k hk h => okLog_no k (by rw [l.v_len]; exact hk) (by rw [okAt_v]; exact h)
  have HALL : Hid (l.recs.length ≤ 4000 → 0 ≤ l.sure ∧ l.sure ≤ l.recs.length → (∀ k, k < l.recs.length → (((l.recs.getD k zeroR).lsn == (k + 1 : Int)) && okR (l.recs.getD k zeroR).v) = true) → okLog l.v = true) := fun h0 h1 h => okLog_all (by rw [l.v_len]; exact h0) (by rw [l.v_len]; unfold inB; exact decide_eq_true h1) (fun k hk => by rw [okAt_v]; exact h k (by rw [l.v_len] at hk; exact hk))
  generalize okLog l.v = R at *
  have HS : Hid (∀ k, k < l.recs.length → (l.recs.getD k zeroR).short 1099511627776) := fun k hk => hl.at k hk
  have hlen := hl.len
  obtain ⟨rs, s, a, c⟩ := l
  simp only [LogA.reads, LogA.cells] at *
  obtain ⟨W, hW, b0, hbW, hsW⟩ := boxes1 w [.slice a rs.length c, .int .i64 s] 26
  have c0 := b0.cell 0 _ rfl
  have c1 := b0.cell 1 _ rfl
  clear hl hsW
  have HC : Hid (∀ k, k < rs.length → ∃ b off, a = some ⟨b, off, none⟩ ∧ W.rangeAt b (off + k * 15) (rs.getD k zeroR).cells ∧ (rs.getD k zeroR).reads W) := fun k hk => by
    obtain ⟨b, off, ha, hc⟩ := (ReadsRs.below hr hbW) (by intro e; rw [e] at hk; simp at hk)
    exact ⟨b, off, ha, hc k hk⟩
  have HI : Hid ((Tryz.prog.info? 39).map (·.size) = some 15) := by rw [Hid]; kernel_rfl
  have HG : Hid (∀ u, Below W.heap.size W u → ErrT u) := fun u hu => hg.keep (hbW.trans (hu.mono hbW.size))
  clear hr hg
  by_cases h4 : rs.length ≤ 4000
  case neg =>
    have HR : Hid (R = false) := HLEN.out h4
    clear HLEN HSURE HNO HALL
    go_enter Tryz.func13, Tryz.ntmps13
    go_wp2_with fail
    rw [hW.out]
    go_ret
    exact ⟨ret_bool HR.out.symm, hbW⟩
  case pos =>
    by_cases h5 : 0 ≤ s
    case neg =>
      have HR : Hid (R = false) := HSURE.out (fun h => h5 h.1)
      clear HLEN HSURE HNO HALL
      go_enter Tryz.func13, Tryz.ntmps13
      go_wp2_with fail
      rw [hW.out]
      go_ret
      exact ⟨ret_bool HR.out.symm, hbW⟩
    by_cases h6 : s ≤ rs.length
    case neg =>
      have HR : Hid (R = false) := HSURE.out (fun h => h6 h.2)
      clear HLEN HSURE HNO HALL
      go_enter Tryz.func13, Tryz.ntmps13
      go_wp2_with fail
      rw [hW.out]
      go_ret
      exact ⟨ret_bool HR.out.symm, hbW⟩
    have HRES : Hid ((∀ k, k < rs.length → (((rs.getD k zeroR).lsn == (k + 1 : Int)) && okR (rs.getD k zeroR).v) = true) → R = true) := HALL.out h4 ⟨h5, h6⟩
    clear HALL HLEN HSURE
    go_enter Tryz.func13, Tryz.ntmps13
    go_wp2_with fail
    rw [hW.out]
    clear hW
    go_loopw [25] (fun i wr => ∃ k : Nat, k ≤ rs.length ∧ i = .int .i64 k ∧ Hid (∀ j, j < k → (((rs.getD j zeroR).lsn == (j + 1 : Int)) && okR (rs.getD j zeroR).v) = true) ∧ Below W.heap.size W wr) (fun i _ => rs.length - (intOf i).toNat)
    case atStart => exact ⟨0, Nat.zero_le _, rfl, fun j hj => by omega, Below.refl _ _⟩
    case round =>
      obtain ⟨k, hk, rfl, hall, hbl⟩ := hrel
      have hbm : Below w.heap.size w wr := hbW.trans (hbl.mono hbW.size)
      clear c0 c1
      by_cases hlt : k < rs.length
      · obtain ⟨b, off, rfl, hcell, hrd⟩ := HC.out k hlt
        have HR : Hid (wr.rangeAt b (off + k * 15) (rs.getD k zeroR).cells) := range_below hcell hbl
        have hrd' := hrd.below hbl
        have hsh := HS.out k hlt
        have HN : Hid ((((rs.getD k zeroR).lsn == (k + 1 : Int)) && okR (rs.getD k zeroR).v) = false → R = false) := HNO.out k hlt
        have HY : Hid ((((rs.getD k zeroR).lsn == (k + 1 : Int)) && okR (rs.getD k zeroR).v) = true → ∀ j, j < k + 1 → (((rs.getD j zeroR).lsn == (j + 1 : Int)) && okR (rs.getD j zeroR).v) = true) := fun h j hj => by
          by_cases e : j = k
          · rw [e]; exact h
          · exact hall.out j (by omega)
        clear hcell HC HNO hall HS hrd HRES
        generalize rs.getD k zeroR = y at *
        obtain ⟨W1, hW1, b1, hb1, hs1⟩ := boxes1 wr [.int .i64 0, .int .i64 0, .int .i64 0, .int .i64 0, .int .i64 0, .bool false, .int .i64 0, .slice none 0 0, .slice none 0 0, .bool false, .int .i64 0, .slice none 0 0, .slice none 0 0, .int .i64 0, .slice none 0 0] 39
        obtain ⟨W2, hW2, hw2, hs2, HT2, _, b2⟩ := rec_out y _ rfl b1
        have B2 : Below wr.heap.size wr W2 := hb1.trans (hw2.below (Nat.le_refl _) (by omega))
        have HRG : Hid (∀ u, Below W2.heap.size W2 u → u.rangeAt wr.heap.size 0 y.cells) := fun u hu => Box.range [] y.cells [] (by simpa using b2.below hu b2.lt)
        have C2 : Below W.heap.size W W2 := hbl.trans (B2.mono hbl.size)
        have hrd2 := hrd'.below B2
        have hO := rec_one y
        have D2 : Below w.heap.size w W2 := hbm.trans (B2.mono hbm.size)
        clear b1 b2 hw2 hs2 hs1 hb1 B2 hrd' hbl hbm
        go_wp2_with (first | (guard_target = wpList _ _ _ (Oper.mk (some 29) _ _ _ _ _ :: _) _ _; refine wpList_load_mid rfl 39 (.tmp 28) rfl b (off + k * 15) rfl y.cells _ HR.out Tryz.underlying39 rfl HI.out ?_) | (guard_target = wpList _ _ _ (Oper.mk none (Op.store _ (Operand.tmp 4) _) _ _ _ _ :: _) _ _; refine wpList_store_mid rfl 39 (.tmp 4) (.tmp 29) rfl wr.heap.size 0 y.cells.toArray rfl rfl (by rw [hW1.out]; exact HT2.out) HI.out hO ?_) | fail)
        rw [hW1.out, hW2.out]
        clear hW1 hW2 HT2 HR
        refine wp_region_held_drew (S := fun w' => w'.rangeAt wr.heap.size 0 y.cells) (by kernel_rfl) ?_ (fun hHeld => ?_)
        · exact HRG.out _ (Below.refl _ _).drew
        refine wpAnyH_take (i := 0) (v := .pointer (some ⟨wr.heap.size, 0, none⟩)) rfl (by kernel_rfl) (by kernel_rfl) (by kernel_rfl) (fun _ _ _ h => h) (Or.inl ⟨by rfl, ?_⟩) hHeld ?_
        · intro w' hSw
          go_simp <;> rfl
        try simp only [Act.put, List.getElem_toArray, List.getElem_cons_zero, List.setIfInBounds_toArray, List.set_cons_zero, List.set_cons_succ]
        refine wpAnyH_take (i := 1) (v := .int .i64 y.lsn) rfl (by kernel_rfl) (by kernel_rfl) (by kernel_rfl) (fun _ _ _ h => h) (Or.inl ⟨by rfl, ?_⟩) hHeld ?_
        · intro w' hSw
          have hx : w'.cell? ⟨wr.heap.size, 0, none⟩ = some (.int .i64 y.lsn) := hSw 0 _ rfl
          go_simp <;> rfl
        try simp only [Act.put, List.getElem_toArray, List.getElem_cons_zero, List.getElem_cons_succ, List.setIfInBounds_toArray, List.set_cons_zero, List.set_cons_succ]
        refine wpAnyH_take (i := 2) (v := .int .i64 k) rfl (by kernel_rfl) (by kernel_rfl) (by kernel_rfl) (fun _ _ _ h => h) (Or.inl ⟨by rfl, ?_⟩) hHeld ?_
        · intro w' hSw
          go_simp <;> rfl
        try simp only [Act.put, List.getElem_toArray, List.getElem_cons_zero, List.getElem_cons_succ, List.setIfInBounds_toArray, List.set_cons_zero, List.set_cons_succ]
        refine wpAnyH_ready (rs := [3]) (by kernel_rfl) (by simp) ?_
        refine AllReadyH.cons rfl (fun K hK => ?_) AllReadyH.nil
        go_simp
        refine (lsnAt_any k _ (by omega)).mono ?_
        rintro e w3 ⟨rfl, rfl⟩
        refine hK.out _ _ (HRG.out _ (Below.refl _ _).drew) (fun hHeld => ?_)
        clear hK K
        try simp only [Act.put, List.getElem_toArray, List.getElem_cons_zero, List.getElem_cons_succ, List.setIfInBounds_toArray, List.set_cons_zero, List.set_cons_succ]
        refine wpAnyH_take (i := 4) (v := .bool (y.lsn != (k : Int) + 1)) rfl (by kernel_rfl) (by kernel_rfl) (by kernel_rfl) (fun _ _ _ h => h) (Or.inl ⟨by rfl, ?_⟩) hHeld ?_
        · intro w' hSw
          go_simp <;> rfl
        try simp only [Act.put, List.getElem_toArray, List.getElem_cons_zero, List.getElem_cons_succ, List.setIfInBounds_toArray, List.set_cons_zero, List.set_cons_succ]
        cases h6 : (y.lsn == (k + 1 : Int)) with
        | false =>
          have HR2 : Hid (R = false) := HN.out (by rw [h6]; rfl)
          have h6b : (y.lsn != (k : Int) + 1) = true := by simp only [bne, h6, Bool.not_false]
          rw [h6b]
          clear h6 HN HY h6b
          refine wpAnyH_take (i := 5) (v := .bool true) rfl (by kernel_rfl) (by kernel_rfl) (by kernel_rfl) (fun _ _ _ h => h) (Or.inl ⟨by rfl, ?_⟩) hHeld ?_
          · intro w' hSw
            go_simp <;> rfl
          try simp only [Act.put, List.getElem_toArray, List.getElem_cons_zero, List.getElem_cons_succ, List.setIfInBounds_toArray, List.set_cons_zero, List.set_cons_succ]
          refine wpAnyH_take (i := 6) (v := undef) rfl (by kernel_rfl) (by kernel_rfl) (by kernel_rfl) (fun _ _ _ h => h) (Or.inr ⟨by rfl, rfl⟩) hHeld ?_
          try simp only [Act.put, List.getElem_toArray, List.getElem_cons_zero, List.getElem_cons_succ, List.setIfInBounds_toArray, List.set_cons_zero, List.set_cons_succ]
          refine wpAnyH_take (i := 7) (v := undef) rfl (by kernel_rfl) (by kernel_rfl) (by kernel_rfl) (fun _ _ _ h => h) (Or.inr ⟨by rfl, rfl⟩) hHeld ?_
          try simp only [Act.put, List.getElem_toArray, List.getElem_cons_zero, List.getElem_cons_succ, List.setIfInBounds_toArray, List.set_cons_zero, List.set_cons_succ]
          refine wpAnyH_take (i := 8) (v := undef) rfl (by kernel_rfl) (by kernel_rfl) (by kernel_rfl) (fun _ _ _ h => h) (Or.inr ⟨by rfl, rfl⟩) hHeld ?_
          try simp only [Act.put, List.getElem_toArray, List.getElem_cons_zero, List.getElem_cons_succ, List.setIfInBounds_toArray, List.set_cons_zero, List.set_cons_succ]
          refine wpAnyH_take (i := 9) (v := .bool true) rfl (by kernel_rfl) (by kernel_rfl) (by kernel_rfl) (fun _ _ _ h => h) (Or.inl ⟨by rfl, ?_⟩) hHeld ?_
          · intro w' hSw
            go_simp <;> rfl
          try simp only [Act.put, List.getElem_toArray, List.getElem_cons_zero, List.getElem_cons_succ, List.setIfInBounds_toArray, List.set_cons_zero, List.set_cons_succ]
          refine wpAnyH_done (by kernel_rfl) ?_ _
          go_wp2_with fail
          go_ret
          exact ⟨ret_bool HR2.out.symm, D2.drew⟩
        | true =>
          rw [h6, Bool.true_and] at HN HY
          have h6b : (y.lsn != (k : Int) + 1) = false := by simp only [bne, h6, Bool.not_true]
          rw [h6b]
          clear h6 h6b
          refine wpAnyH_take (i := 5) (v := .bool false) rfl (by kernel_rfl) (by kernel_rfl) (by kernel_rfl) (fun _ _ _ h => h) (Or.inl ⟨by rfl, ?_⟩) hHeld ?_
          · intro w' hSw
            go_simp <;> rfl
          try simp only [Act.put, List.getElem_toArray, List.getElem_cons_zero, List.getElem_cons_succ, List.setIfInBounds_toArray, List.set_cons_zero, List.set_cons_succ]
          refine wpAnyH_take (i := 6) rfl (by kernel_rfl) (by kernel_rfl) (by kernel_rfl) (fun _ _ _ h => h) (yieldsIf_load_mid (by rfl) _ _ rfl _ _ rfl y.cells _ (fun _ h => h) Tryz.underlying39 rfl HI.out) hHeld ?_
          try simp only [Act.put, List.getElem_toArray, List.getElem_cons_zero, List.getElem_cons_succ, List.setIfInBounds_toArray, List.set_cons_zero, List.set_cons_succ]
          refine wpAnyH_ready (rs := [7]) (by kernel_rfl) (by simp) ?_
          refine AllReadyH.cons rfl (fun K hK => ?_) AllReadyH.nil
          go_simp
          refine (implRecOk_any y _ (HG.out _ C2.drew) (hrd2.below (Below.refl _ _).drew) hsh).mono ?_
          rintro e w4 ⟨rfl, hb4⟩
          have hb4' : Below W2.heap.size W2 w4 := (Below.refl _ _).drew.trans hb4
          have D4 : Below w.heap.size w w4 := D2.trans (hb4'.mono D2.size)
          have C4 : Below W.heap.size W w4 := C2.trans (hb4'.mono C2.size)
          refine hK.out _ _ (HRG.out _ hb4') (fun hHeld => ?_)
          clear hK K
          try simp only [Act.put, List.getElem_toArray, List.getElem_cons_zero, List.getElem_cons_succ, List.setIfInBounds_toArray, List.set_cons_zero, List.set_cons_succ]
          cases h7 : okR y.v with
          | false =>
            have HR2 : Hid (R = false) := HN.out h7
            clear HN HY
            refine wpAnyH_take (i := 8) (v := .bool true) rfl (by kernel_rfl) (by kernel_rfl) (by kernel_rfl) (fun _ _ _ h => h) (Or.inl ⟨by rfl, ?_⟩) hHeld ?_
            · intro w' hSw
              go_simp <;> rfl
            try simp only [Act.put, List.getElem_toArray, List.getElem_cons_zero, List.getElem_cons_succ, List.setIfInBounds_toArray, List.set_cons_zero, List.set_cons_succ]
            refine wpAnyH_take (i := 9) (v := .bool true) rfl (by kernel_rfl) (by kernel_rfl) (by kernel_rfl) (fun _ _ _ h => h) (Or.inl ⟨by rfl, ?_⟩) hHeld ?_
            · intro w' hSw
              go_simp <;> rfl
            try simp only [Act.put, List.getElem_toArray, List.getElem_cons_zero, List.getElem_cons_succ, List.setIfInBounds_toArray, List.set_cons_zero, List.set_cons_succ]
            refine wpAnyH_done (by kernel_rfl) ?_ _
            go_wp2_with fail
            go_ret
            exact ⟨ret_bool HR2.out.symm, D4⟩
          | true =>
            have HY2 := HY.out h7
            clear HN HY
            refine wpAnyH_take (i := 8) (v := .bool false) rfl (by kernel_rfl) (by kernel_rfl) (by kernel_rfl) (fun _ _ _ h => h) (Or.inl ⟨by rfl, ?_⟩) hHeld ?_
            · intro w' hSw
              go_simp <;> rfl
            try simp only [Act.put, List.getElem_toArray, List.getElem_cons_zero, List.getElem_cons_succ, List.setIfInBounds_toArray, List.set_cons_zero, List.set_cons_succ]
            refine wpAnyH_take (i := 9) (v := .bool false) rfl (by kernel_rfl) (by kernel_rfl) (by kernel_rfl) (fun _ _ _ h => h) (Or.inl ⟨by rfl, ?_⟩) hHeld ?_
            · intro w' hSw
              go_simp <;> rfl
            try simp only [Act.put, List.getElem_toArray, List.getElem_cons_zero, List.getElem_cons_succ, List.setIfInBounds_toArray, List.set_cons_zero, List.set_cons_succ]
            refine wpAnyH_done (by kernel_rfl) ?_ _
            go_wp2_with fail
            go_roundw
            case rel => exact ⟨k + 1, by omega, by go_num, HY2, C4⟩
            case measure => simp [intOf]; omega
      · have HR : Hid (R = true) := HRES.out (fun j hj => hall.out j (by omega))
        clear HNO HRES
        go_wp2
        go_ret
        exact ⟨ret_bool HR.out.symm, hbm⟩
end Go.Proofs.YtoboickdkednkaaGreatDoor

/- The methods of a log: add. -/
namespace Go.Proofs.YtoboickdkednkaaGreatDoor
open Go.RowKit

/-- What add leaves: nothing, or a log with one record more. -/
def AddAns (B o : Nat) (cs : List Value) (T : TypeId) (a : Option Addr) (c : Nat) (rs : List RecA) (lo : Nat) (r : RecV) (w : World) (e : Ending) (w' : World) : Prop :=
  (e = .returned (.int .i64 0) ∧ (rs.length = 4000 ∨ okR (lsnR r ((rs.length : Int) + 1)) = false) ∧ Below w.heap.size w w') ∨
  ∃ (x : RecA) (a' : Option Addr) (c' : Nat) (u v : World), e = .returned (.int .i64 ((rs.length : Int) + 1)) ∧ rs.length ≠ 4000 ∧ okR (lsnR r ((rs.length : Int) + 1)) = true ∧ x.v = lsnR r ((rs.length : Int) + 1) ∧
    Box w' B (cs.set o (.slice a' (rs.length + 1) c')) T ∧ OwnRs w' lo w'.heap.size a' c' (rs ++ [x]) ∧ Below w.heap.size w u ∧ u.grownBy v (Value.slice a rs.length c).ownBlock ∧ Within B (B + 1) v w'

set_option maxHeartbeats 8000000 in
set_option maxRecDepth 100000 in
theorem logAdd_any (B o : Nat) (cs : List Value) (T : TypeId) (a : Option Addr) (c : Nat) (rs : List RecA) (lo hi : Nat) (r : RecA) (w : World) (hg : ErrT w) (b : Box w B cs T) (h0 : cs[o]? = some (.slice a rs.length c)) (own : OwnRs w lo hi a c rs)
    (hlo : lo ≤ hi) (hB : B < lo ∨ hi ≤ B) (hT : ∀ (u : World) (vs : List Value) (l k : Nat) (a : Option Addr) (c : Nat) (xs : List RecA), Box u B vs T → OwnRs u l k a c xs → B ∉ blocksRs a c xs)
    (hll : rs.length ≤ 1048576) (hrr : r.reads w) (hrs : r.short 1099511627776) (hrc : r.aL = none → r.cL = 0) :
    Calls Tryz.prog 42 #[.pointer (some ⟨B, o, none⟩), .agg r.cells.toArray] w fun e w' => AddAns B o cs T a c rs lo r.v w e w' := by
  have hBw := b.lt
  have htop := own.top
  obtain ⟨W, hW, b1, hbW, hsW⟩ := boxes1 w r.cells 39
  have HI : Hid ((Tryz.prog.info? 39).map (·.size) = some 15) := by rw [Hid]; kernel_rfl
  have HTT : Hid (∀ (u : World) (vs : List Value) (l k : Nat) (a : Option Addr) (c : Nat) (xs : List RecA), Box u B vs T → OwnRs u l k a c xs → B ∉ blocksRs a c xs) := hT
  have HO : Hid (cs[o]? = some (.slice a rs.length c)) := h0
  have bB := b.below hbW b.lt
  have ow := own.below hbW
  have c0 := bB.cell o _ h0
  have hsw := hbW.size
  have hs0 : w.heap.size < W.heap.size := by omega
  have zf := b1.frozen 0
  have zc := b1.cell 0 _ rfl
  obtain ⟨W4, hW4, yB, hw4, hs4⟩ := rec_set b1 ((rs.length : Int) + 1)
  have hs4a := Nat.le_of_eq hs4
  have hs4b := Nat.le_of_eq hs4.symm
  clear hs4 b1 h0 hT b own hsW
  have bB4 := bB.within hw4 (by omega)
  have ow4 := ow.within hw4 (.inl (by omega))
  have D4 : Below w.heap.size w W4 := hbW.trans (hw4.below (Nat.le_refl _) (by omega))
  have HYV : Hid ((r.at ((rs.length : Int) + 1)).v = lsnR r.v ((rs.length : Int) + 1)) := at_v _ _
  have HYS : Hid ((r.at ((rs.length : Int) + 1)).short 1099511627776) := short_at hrs _
  have HY0 : Hid ((r.at ((rs.length : Int) + 1)).lsn = (rs.length : Int) + 1) := rfl
  have HYR : Hid (∀ u, Below w.heap.size w u → (r.at ((rs.length : Int) + 1)).reads u) := fun u hu => ⟨(hrr.below hu).bf, (hrr.below hu).af, (hrr.below hu).txs⟩
  have HYC : Hid ((r.at ((rs.length : Int) + 1)).aL = none → (r.at ((rs.length : Int) + 1)).cL = 0) := hrc
  have C4 := lsnAt_any (rs.length : Int) W (by omega)
  clear hw4 hrr hrs hrc bB ow
  go_enter Tryz.func42, Tryz.ntmps42
  go_upto_region 1 with fail
  rw [hW.out]
  clear hW
  go_wp2_with fail
  refine C4.mono ?_
  clear C4
  rintro e w3' ⟨rfl, h3'⟩
  subst h3'
  go_upto_region 2 with fail
  rw [hW4.out]
  clear hW4 zc zf c0
  generalize r.at ((rs.length : Int) + 1) = y at *
  have HRY : Hid (∀ u, Below W4.heap.size W4 u → u.rangeAt w.heap.size 0 y.cells) := fun u hu => Box.range [] y.cells [] (by simpa using yB.below hu yB.lt)
  have C5 := implRecOk_any y W4 (hg.keep D4) (HYR.out W4 D4) HYS.out
  have c4 := bB4.cell o _ HO.out
  by_cases h4 : rs.length = 4000
  · have h4b : ((rs.length : Int) == 4000) = true := by simp only [beq_iff_eq]; omega
    have HF : Hid (AddAns B o cs T a c rs lo r.v w (.returned (.int .i64 0)) W4) := .inl ⟨rfl, .inl h4, D4⟩
    clear h4 C5
    go_wp2
    go_ret
    exact HF.out
  · have h4b : ((rs.length : Int) == 4000) = false := by simp only [beq_eq_false_iff_ne]; omega
    have ry := HRY.out W4 (Below.refl _ _)
    go_wp2_with (first | (guard_target = wpList _ _ _ (Oper.mk (some 19) _ _ _ _ _ :: _) _ _; refine wpList_load_mid_if (by rfl) 39 (.tmp 3) rfl w.heap.size 0 rfl y.cells _ ry Tryz.underlying39 rfl HI.out ?_) | fail)
    refine C5.mono ?_
    clear C5 c4 ry
    rintro e w6 ⟨rfl, B6⟩
    have hs6 := B6.size
    have bB6 := bB4.below B6 bB4.lt
    have ow6 := ow4.below B6
    have D6 : Below w.heap.size w w6 := D4.trans (B6.mono D4.size)
    clear bB4 ow4
    obtain ⟨vR, hR⟩ : ∃ v, Hid (okR y.v = v) := ⟨_, rfl⟩
    rw [hR.out]
    cases vR with
    | false =>
      have HF : Hid (AddAns B o cs T a c rs lo r.v w (.returned (.int .i64 0)) w6) := .inl ⟨rfl, .inr (by rw [← HYV.out]; exact hR.out), D6⟩
      clear h4
      go_wp2
      go_ret
      exact HF.out
    | true =>
      have hnd : Below w6.heap.size w6 w6.drew := (Below.refl _ _).drew
      have C := copyRec_own y w6.drew (HYR.out _ D6.drew) HYS.out HYC.out
      have bBd := bB6.below hnd bB6.lt
      have owd := ow6.below hnd
      have Bd := B6.drew
      have HKK : Hid (rs.length ≠ 4000 ∧ okR (lsnR r.v ((rs.length : Int) + 1)) = true) := ⟨h4, by rw [← HYV.out]; exact hR.out⟩
      have zd : w6.heap.size ≤ w6.drew.heap.size := hnd.size
      clear h4 h4b hR bB6 ow6
      go_upto_region 4 with fail
      refine wp_region_late (· == 11) (S := fun u => u.cell? ⟨B, o, none⟩ = some (.slice a rs.length c) ∧ u.rangeAt w.heap.size 0 y.cells) (by kernel_rfl) ⟨bBd.cell o _ HO.out, HRY.out _ Bd⟩ (fun hHeld => ?_)
      have D7 : Below w.heap.size w w6.drew := D6.drew
      generalize w6.drew = d0 at *
      clear hnd B6 D6
      refine wpAnyL_take (i := 0) (v := .pointer (some ⟨B, o, none⟩)) rfl (by kernel_rfl) (fun _ _ _ h => h) (Or.inl ⟨by rfl, ?_⟩) hHeld ?_
      · intro w' hSw
        go_simp <;> rfl
      try simp only [Act.put, List.getElem_toArray, List.getElem_cons_zero, List.setIfInBounds_toArray, List.set_cons_zero, List.set_cons_succ]
      refine wpAnyL_take (i := 1) (v := .pointer (some ⟨B, o, none⟩)) rfl (by kernel_rfl) (fun _ _ _ h => h) (Or.inl ⟨by rfl, ?_⟩) hHeld ?_
      · intro w' hSw
        go_simp <;> rfl
      try simp only [Act.put, List.getElem_toArray, List.getElem_cons_zero, List.getElem_cons_succ, List.setIfInBounds_toArray, List.set_cons_zero, List.set_cons_succ]
      refine wpAnyL_take (i := 2) (v := .pointer (some ⟨B, o, none⟩)) rfl (by kernel_rfl) (fun _ _ _ h => h) (Or.inl ⟨by rfl, ?_⟩) hHeld ?_
      · intro w' hSw
        go_simp <;> rfl
      try simp only [Act.put, List.getElem_toArray, List.getElem_cons_zero, List.getElem_cons_succ, List.setIfInBounds_toArray, List.set_cons_zero, List.set_cons_succ]
      refine wpAnyL_take (i := 3) (v := .pointer (some ⟨B, o, none⟩)) rfl (by kernel_rfl) (fun _ _ _ h => h) (Or.inl ⟨by rfl, ?_⟩) hHeld ?_
      · intro w' hSw
        go_simp <;> rfl
      try simp only [Act.put, List.getElem_toArray, List.getElem_cons_zero, List.getElem_cons_succ, List.setIfInBounds_toArray, List.set_cons_zero, List.set_cons_succ]
      refine wpAnyL_take (i := 4) (v := .slice a rs.length c) rfl (by kernel_rfl) (fun _ _ _ h => h) (Or.inl ⟨by rfl, ?_⟩) hHeld ?_
      · intro w' hSw
        have hx := hSw.1
        go_simp <;> rfl
      try simp only [Act.put, List.getElem_toArray, List.getElem_cons_zero, List.getElem_cons_succ, List.setIfInBounds_toArray, List.set_cons_zero, List.set_cons_succ]
      refine wpAnyL_take (i := 5) rfl (by kernel_rfl) (fun _ _ _ h => h) (yieldsIf_load_mid (by rfl) _ _ rfl _ _ rfl (y.cells) _ (fun _ h => h.2) Tryz.underlying39 rfl HI.out) hHeld ?_
      try simp only [Act.put, List.getElem_toArray, List.getElem_cons_zero, List.getElem_cons_succ, List.setIfInBounds_toArray, List.set_cons_zero, List.set_cons_succ]
      refine wpAnyL_next 6 (by kernel_rfl) rfl (fun K hK => ?_)
      go_simp
      refine C.mono ?_
      clear C
      rintro e d1 ⟨x, rfl, hx, oxx, hbx⟩
      have hsx := hbx.size
      have B7 : Below W4.heap.size W4 d1 := Bd.trans (hbx.mono Bd.size)
      have D8 : Below w.heap.size w d1 := D7.trans (hbx.mono D7.size)
      have bB7 := bBd.below hbx bBd.lt
      have ow7 := owd.below hbx
      have HXV : Hid (x.v = lsnR r.v ((rs.length : Int) + 1)) := hx.out.trans HYV.out
      clear hx bBd owd
      refine hK.out _ _ (⟨bB7.cell o _ HO.out, HRY.out _ B7⟩) (fun hHeld => ?_)
      clear hK K hbx
      try simp only [Act.put, List.getElem_toArray, List.getElem_cons_zero, List.getElem_cons_succ, List.setIfInBounds_toArray, List.set_cons_zero, List.set_cons_succ]
      refine wpAnyL_next 7 (by kernel_rfl) rfl (fun K hK => ?_)
      go_simp
      simp only [cellsR_len, lit_rec, not_true_eq_false, Nat.lt_irrefl, or_self, if_false]
      go_simp
      obtain ⟨W9, hW9, y9, hb9, hs9⟩ := boxes1 d1 x.cells 39
      rw [hW9.out]
      have hlt9 := y9.lt
      have hs9' := hb9.size
      clear hs9
      have R9 : Hid (W9.rangeAt d1.heap.size 0 x.cells) := Box.range [] x.cells [] (by simpa using y9)
      have B9 : Below W4.heap.size W4 W9 := B7.trans (hb9.mono B7.size)
      have D9 : Below w.heap.size w W9 := D8.trans (hb9.mono D8.size)
      have bB9 := bB7.below hb9 bB7.lt
      have ow9 := ow7.below hb9
      have ox9 := oxx.below hb9
      clear bB7 ow7 oxx y9
      refine hK.out _ _ (⟨bB9.cell o _ HO.out, HRY.out _ B9⟩) (fun hHeld => ?_)
      clear hK K hW9 hb9
      try simp only [Act.put, List.getElem_toArray, List.getElem_cons_zero, List.getElem_cons_succ, List.setIfInBounds_toArray, List.set_cons_zero, List.set_cons_succ]
      have hll9 : rs.length + 1 ≤ 68719476736 := by omega
      refine wpAnyL_next 8 (by kernel_rfl) rfl (fun K hK => ?_)
      refine step_append_rec rfl (.tmp 27) (.tmp 30) rfl lo hi a c rs rfl ow9 d1.heap.size 0 1 x rfl R9.out d0.heap.size d1.heap.size ox9 (by omega) (by omega) hll9 hlo ?_
      intro a10 c10 w10 o10 g10
      rw [List.length_append, List.length_singleton]
      have hw10 : Within lo hi W9 w10 := Within.of_grown g10 (fun j hj => ⟨(OwnRs.row ow9).lt j hj |>.1, OwnRs.blk ow9 j hj⟩)
      have hs10 := hw10.size
      have bBa := bB9.within hw10 (by omega)
      have hR10 : w10.rangeAt w.heap.size 0 y.cells := rangeAt_block (HRY.out _ B9) (hw10.block w.heap.size (by omega) (by omega))
      refine hK.out _ _ (⟨bBa.cell o _ HO.out, hR10⟩) (fun hHeld => ?_)
      clear hK K 
      try simp only [Act.put, List.getElem_toArray, List.getElem_cons_zero, List.getElem_cons_succ, List.setIfInBounds_toArray, List.set_cons_zero, List.set_cons_succ]
      refine wpAnyL_next 9 (by kernel_rfl) rfl (fun K hK => ?_)
      go_simp
      refine hK.out _ _ (hHeld) (fun hHeld => ?_)
      clear hK K 
      try simp only [Act.put, List.getElem_toArray, List.getElem_cons_zero, List.getElem_cons_succ, List.setIfInBounds_toArray, List.set_cons_zero, List.set_cons_succ]
      refine wpAnyL_take (i := 10) (v := .pointer (some ⟨B, o, none⟩)) rfl (by kernel_rfl) (fun _ _ _ h => h) (Or.inl ⟨by rfl, ?_⟩) hHeld ?_
      · intro w' hSw
        go_simp <;> rfl
      try simp only [Act.put, List.getElem_toArray, List.getElem_cons_zero, List.getElem_cons_succ, List.setIfInBounds_toArray, List.set_cons_zero, List.set_cons_succ]
      have ef0 := bBa.frozen o
      have e0 := bBa.cell o _ HO.out
      obtain ⟨W11, hW11, bBb, hw11, hs11⟩ := box_set bBa o (.slice a10 (rs.length + 1) c10)
      have hs11a := Nat.le_of_eq hs11
      have hs11b := Nat.le_of_eq hs11.symm
      clear hs11
      have hR11 : W11.rangeAt w.heap.size 0 y.cells := rangeAt_block hR10 (hw11.block w.heap.size (by omega) (by omega))
      have y0 := hR11 0 _ rfl
      have oRow := o10.touch hw11.touch1 (fun k hk hk' => HTT.out _ _ _ _ _ _ _ bBa o10 (by rw [← List.mem_singleton.1 hk']; exact hk))
      have HF : Hid (AddAns B o cs T a c rs lo r.v w (.returned (.int .i64 y.lsn)) W11) := .inr ⟨x, a10, c10, W9, w10, by rw [HY0.out], HKK.out.1, HKK.out.2, HXV.out, bBb, oRow.widen (Nat.le_refl _) hs11b (Nat.le_refl _), D9, g10, hw11⟩
      refine wpAnyL_last 11 (by kernel_rfl) rfl rfl (fun K hK => ?_)
      go_simp
      rw [hW11.out]
      refine hK.out _ _ ?_
      clear hK K
      refine wpAnyL_done (by kernel_rfl) ?_ _
      clear hW11 ef0 e0 hHeld bBb hw11 oRow
      go_wp2
      go_ret
      exact HF.out
end Go.Proofs.YtoboickdkednkaaGreatDoor

/- The walk of impl.Append. -/

namespace Go.Proofs.YtoboickdkednkaaGreatDoor
open Go.RowKit

set_option maxHeartbeats 8000000 in
set_option maxRecDepth 100000 in
theorem implAppend_any (l : LogA) (r : RecA) (w : World) (hg : ErrT w) (hr : l.reads w) (hl : l.short 1048576) (hcp : ∀ r ∈ l.recs, r.aL = none → r.cL = 0) (hrr : r.reads w) (hrs : r.short 1099511627776) (hrc : r.aL = none → r.cL = 0) :
    Calls Tryz.prog 15 #[.agg l.cells.toArray, .agg r.cells.toArray] w fun e w' => ∃ (t : LogA) (n : Int), e = .returned (.tuple #[.agg t.cells.toArray, .int .i64 n]) ∧ Hid ((t.v, n) = appendOf l.v r.v) ∧ t.own w' w.heap.size w'.heap.size ∧ Below w.heap.size w w' := by
  have HNO : Hid (okLog l.v = false ∨ l.recs.length = 4000 ∨ okR (lsnR r.v (l.recs.length + 1)) = false → appendOf l.v r.v = (l.v, 0)) := fun h => appendOf_no (by rw [l.v_len]; exact h)
  have HYES : Hid (okLog l.v = true → l.recs.length ≠ 4000 → okR (lsnR r.v (l.recs.length + 1)) = true → appendOf l.v r.v = (⟨l.v.recs ++ [lsnR r.v (l.recs.length + 1)], l.sure⟩, (l.recs.length : Int) + 1)) := fun h1 h2 h3 => by have := appendOf_yes h1 (by rw [l.v_len]; exact h2) (by rw [l.v_len]; exact h3); rw [l.v_len] at this; exact this
  have hll := hl.len
  obtain ⟨W, hW, b0, b1, b2, hbW, hsW⟩ := boxes3 w l.cells r.cells [.slice none 0 0, .int .i64 0] 26 39 26
  have hs0 : w.heap.size + 1 + 1 < W.heap.size := by omega
  clear hsW
  have HI : Hid ((Tryz.prog.info? 39).map (·.size) = some 15) := by rw [Hid]; kernel_rfl
  have HX : Hid (∀ u, Below W.heap.size W u → Box u w.heap.size l.cells 26) := fun u hu => b0.below hu b0.lt
  have HB1 : Hid (∀ u, Below W.heap.size W u → Box u (w.heap.size + 1) r.cells 39) := fun u hu => b1.below hu b1.lt
  have HW2 : Hid (∀ u, Below W.heap.size W u → Box u (w.heap.size + 1 + 1) [.slice none 0 0, .int .i64 0] 26) := fun u hu => b2.below hu b2.lt
  have C1 := copyLog_any l W (hr.below hbW) hl hcp
  simp only [LogA.cells] at b0 hW HX C1 ⊢
  have x0 := b0.cell 0 _ rfl
  have x1 := b0.cell 1 _ rfl
  clear b0 b1 b2
  go_enter Tryz.func15, Tryz.ntmps15
  go_wp2_with fail
  rw [hW.out]
  clear hW
  refine C1.mono ?_
  clear C1 x0 x1
  rintro e w1 ⟨t, rfl, hv, ho, hb1⟩
  have hs1 := hb1.size
  obtain ⟨W2, hW2, k6, hb2, hs2⟩ := boxes1 w1 [.slice t.a t.recs.length t.c, .int .i64 t.sure] 26
  have hlt2 := k6.lt
  have hs2' := hb2.size
  clear hs2
  have B2 : Below W.heap.size W W2 := hb1.trans (hb2.mono hs1)
  have ot : LogA.own W2 W.heap.size w1.heap.size t := LogA.own.below ho hb2
  have HV : Hid (t.v = l.v) := hv.out
  have HTL : Hid (t.recs.length = l.recs.length ∧ t.sure = l.sure ∧ t.recs.map RecA.v = l.v.recs) := by
    have h := hv.out
    simp only [LogA.v, LogV.mk.injEq] at h
    exact ⟨mapV_len h.1, h.2, h.1⟩
  have HBR : Hid (∀ u, Below W.heap.size W u → Box u (w.heap.size + 1) r.cells 39) := HB1.out
  have D2 : Below w.heap.size w W2 := hbW.trans (B2.mono hbW.size)
  have C3 := implLogOk_any l W2 (hg.keep D2) (hr.below D2) (LogA.short_wide hl)
  simp only [LogA.cells] at C3
  have p0 := (HX.out W2 B2).cell 0 _ rfl
  have p1 := (HX.out W2 B2).cell 1 _ rfl
  clear hv ho hb1 hb2
  go_upto_region 2 with fail
  rw [hW2.out]
  clear hW2
  go_wp2_with fail
  refine C3.mono ?_
  clear C3 p0 p1
  generalize okLog l.v = R at *
  rintro e w3 ⟨rfl, hb3⟩
  have hs3 := hb3.size
  have B3 : Below W.heap.size W w3 := B2.trans (hb3.mono (by omega))
  have k63 := k6.below hb3 k6.lt
  have ot3 := LogA.own.below ot hb3
  have D3 : Below w.heap.size w w3 := D2.trans (hb3.mono D2.size)
  clear k6 ot hb3 B2 D2
  have p0 := (HX.out w3 B3).cell 0 _ rfl
  cases R with
  | false =>
    have HOUT : Hid ((t.v, (0 : Int)) = appendOf l.v r.v) := by rw [Hid, HNO.out (.inl rfl), HV.out]
    have k6 := k63
    have k2 := HW2.out w3 B3
    have ot := ot3
    have DD := D3
    clear k63 ot3 D3 HNO HYES HTL
    have e0 := k6.cell 0 _ rfl
    have e1 := k6.cell 1 _ rfl
    have m0 := k2.cell 0 _ rfl
    have m1 := k2.cell 1 _ rfl
    have mf0 := k2.frozen 0
    have mf1 := k2.frozen 1
    obtain ⟨WF, hWF, bF, hwF, hsF⟩ := box2_fill k2 (.slice t.a t.recs.length t.c) (.int .i64 t.sure)
    have q0 := bF.cell 0 _ rfl
    have q1 := bF.cell 1 _ rfl
    have hoF := (LogA.own.within ot hwF (.inr (by omega))).widen (show w.heap.size ≤ W.heap.size by omega) (show w1.heap.size ≤ WF.heap.size by omega) (Nat.le_refl _)
    have hbF : Below w.heap.size w WF := DD.trans (hwF.below (by omega) (by omega))
    have HF : Hid (_ ∧ _ ∧ _) := ⟨HOUT, hoF, hbF⟩
    clear hwF hsF bF hoF hbF HOUT
    go_wp2_with fail
    rw [hWF.out]
    exact bodyPost_ret (v := .tuple #[.agg #[.slice t.a t.recs.length t.c, .int .i64 t.sure], .int .i64 0]) (by simp [results, Tryz.results15, go_sem, q0, q1]) rfl ⟨t, 0, rfl, HF.out.1, HF.out.2.1, HF.out.2.2⟩
  | true =>
    have HTY : Hid (∀ u, Below W.heap.size W u → u.rangeAt (w.heap.size + 1) 0 r.cells) := fun u hu => Box.range [] r.cells [] (by simpa using HBR.out u hu)
    have ry := HTY.out w3 B3
    have HTW : Hid (W.heap.size ≤ w1.heap.size ∧ t.recs.length ≤ 1048576) := ⟨hs1, by have := HTL.out.1; omega⟩
    have CA := logAdd_any w1.heap.size 0 [.slice t.a t.recs.length t.c, .int .i64 t.sure] 26 t.a t.c t.recs W.heap.size w1.heap.size r w3 (hg.keep D3) k63 rfl ot3 hs1 (.inr (Nat.le_refl _)) (fun _ _ _ _ _ _ _ b h => log_apart b h) HTW.out.2 (hrr.below D3) hrs hrc
    have HI15 : (Tryz.prog.info? 39).map (·.size) = some r.cells.length := HI.out
    go_wp2_with (first | (guard_target = wpList _ _ _ (Oper.mk (some 14) _ _ _ _ _ :: _) _ _; refine wpList_load_mid rfl 39 (.tmp 3) rfl (w.heap.size + 1) 0 rfl r.cells _ ry Tryz.underlying39 rfl HI15 ?_) | fail)
    refine CA.mono ?_
    clear CA ry
    rintro e w5 (⟨rfl, hno, hb5⟩ | ⟨x, a', c', u, v, rfl, hn4, hok, hxv, kB, oB, hbu, hgv, hwv⟩)
    · have HOUT : Hid ((t.v, (0 : Int)) = appendOf l.v r.v) := by
        rw [Hid, HNO.out (.inr (by rw [← HTL.out.1]; exact hno)), HV.out]
      have k6 := k63.below hb5 k63.lt
      have k2 := (HW2.out w3 B3).below hb5 (HW2.out w3 B3).lt
      have ot := LogA.own.below ot3 hb5
      have DD : Below w.heap.size w w5 := D3.trans (hb5.mono D3.size)
      have hs5 := hb5.size
      clear k63 ot3 D3 HNO HYES hno hb5 p0
      have e0 := k6.cell 0 _ rfl
      have e1 := k6.cell 1 _ rfl
      have m0 := k2.cell 0 _ rfl
      have m1 := k2.cell 1 _ rfl
      have mf0 := k2.frozen 0
      have mf1 := k2.frozen 1
      obtain ⟨WF, hWF, bF, hwF, hsF⟩ := box2_fill k2 (.slice t.a t.recs.length t.c) (.int .i64 t.sure)
      have q0 := bF.cell 0 _ rfl
      have q1 := bF.cell 1 _ rfl
      have hoF := (LogA.own.within ot hwF (.inr (by omega))).widen (show w.heap.size ≤ W.heap.size by omega) (show w1.heap.size ≤ WF.heap.size by omega) (Nat.le_refl _)
      have hbF : Below w.heap.size w WF := DD.trans (hwF.below (by omega) (by omega))
      have HF : Hid (_ ∧ _ ∧ _) := ⟨HOUT, hoF, hbF⟩
      clear hwF hsF bF hoF hbF HOUT
      go_wp2_with fail
      rw [hWF.out]
      exact bodyPost_ret (v := .tuple #[.agg #[.slice t.a t.recs.length t.c, .int .i64 t.sure], .int .i64 0]) (by simp [results, Tryz.results15, go_sem, q0, q1]) rfl ⟨t, 0, rfl, HF.out.1, HF.out.2.1, HF.out.2.2⟩
    · have HAP : Hid (_ = _) := HYES.out (by first | rfl | trivial) (by rw [← HTL.out.1]; exact hn4) (by rw [← HTL.out.1]; exact hok)
      have hsu := hbu.size
      have hsv := hgv.size
      have hswv := hwv.size
      have hw10 : Within W.heap.size w1.heap.size u v := Within.of_grown hgv (fun j hj => ⟨(OwnRs.row ot3).lt j hj |>.1, OwnRs.blk ot3 j hj⟩)
      have k2 : Box w5 (w.heap.size + 1 + 1) [.slice none 0 0, .int .i64 0] 26 := (((HW2.out w3 B3).below hbu (HW2.out w3 B3).lt).within hw10 (by omega)).within hwv (by omega)
      have DD : Below w.heap.size w w5 := ((D3.trans (hbu.mono D3.size)).trans (hw10.below (by omega) (by omega))).trans (hwv.below (by omega) (by omega))
      have HFV : Hid ((⟨t.recs ++ [x], t.sure, a', c'⟩ : LogA).v = (⟨l.v.recs ++ [lsnR r.v ((l.recs.length : Int) + 1)], l.sure⟩ : LogV)) := by
        have e3 := HTL.out.2.2
        simp only [Hid, LogA.v, List.map_append, List.map_cons, List.map_nil, hxv, HTL.out.2.1, HTL.out.1]
        rw [e3]
        rfl
      have HLN : Hid ((t.recs.length : Int) + 1 = (l.recs.length : Int) + 1) := by rw [Hid, HTL.out.1]
      have k6 : Box w5 w1.heap.size [.slice a' (t.recs.length + 1) c', .int .i64 t.sure] 26 := kB
      clear k63 ot3 D3 HNO HYES p0 kB hbu hgv hw10
      have e0 := k6.cell 0 _ rfl
      have e1 := k6.cell 1 _ rfl
      have m0 := k2.cell 0 _ rfl
      have m1 := k2.cell 1 _ rfl
      have mf0 := k2.frozen 0
      have mf1 := k2.frozen 1
      obtain ⟨WF, hWF, bF, hwF, hsF⟩ := box2_fill k2 (.slice a' (t.recs.length + 1) c') (.int .i64 t.sure)
      have q0 := bF.cell 0 _ rfl
      have q1 := bF.cell 1 _ rfl
      have hoF : (⟨t.recs ++ [x], t.sure, a', c'⟩ : LogA).own WF w.heap.size WF.heap.size := (oB.within hwF (.inr (by omega))).widen (show w.heap.size ≤ W.heap.size by omega) (show w5.heap.size ≤ WF.heap.size by omega) (Nat.le_refl _)
      have hbF : Below w.heap.size w WF := DD.trans (hwF.below (by omega) (by omega))
      have HF : Hid (_ ∧ _ ∧ _) := ⟨HFV.out, hoF, hbF⟩
      clear hwF hsF bF hoF hbF oB hwv
      go_wp2_with fail
      rw [hWF.out]
      exact bodyPost_ret (v := .tuple #[.agg #[.slice a' (t.recs.length + 1) c', .int .i64 t.sure], .int .i64 ((t.recs.length : Int) + 1)]) (by simp [results, Tryz.results15, go_sem, q0, q1]) rfl ⟨⟨t.recs ++ [x], t.sure, a', c'⟩, (t.recs.length : Int) + 1, by simp, by rw [Hid, HAP.out, HF.out.1, HLN.out], HF.out.2.1, HF.out.2.2⟩
end Go.Proofs.YtoboickdkednkaaGreatDoor
