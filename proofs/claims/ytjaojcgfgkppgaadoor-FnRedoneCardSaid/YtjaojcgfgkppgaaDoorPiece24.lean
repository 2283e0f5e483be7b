/- Several texts in one, in their order. -/
import Derived.Test.YtjaojcgfgkppgaaDoorPiece23
import Derived.Test.YtjaojcgfgkppgaaDoorPiece9
import Derived.Deep.QuietTactic
import Derived.BigQuiet
import Derived.Test.YtjaojcgfgkppgaaDoorPiece16
import Derived.Test.YtjaojcgfgkppgaaDoorPiece7
import Derived.Test.YtjaojcgfgkppgaaDoorPiece8
/- The walk of spec.l4Lives. -/
namespace Go.Proofs.YtjaojcgfgkppgaaDoor
open Go.RowKit

/-- Is the one at k right, and above the one ahead of it? -/
def liveOk (lsn : Int) (ls : List LiveV) : Nat → Bool
  | 0 => inB (ls.getD 0 zeroL).tx 1 1000 && inB (ls.getD 0 zeroL).last 1 (lsn - 1)
  | k + 1 => inB (ls.getD (k + 1) zeroL).tx 1 1000 && inB (ls.getD (k + 1) zeroL).last 1 (lsn - 1) && decide ((ls.getD k zeroL).tx < (ls.getD (k + 1) zeroL).tx)
def livesB (lsn : Int) (ls : List LiveV) : Bool := (List.range ls.length).all (liveOk lsn ls) && decide (ls.length ≤ 20)
theorem livesB_no {lsn : Int} {ls : List LiveV} (k : Nat) (hk : k < ls.length) (h : liveOk lsn ls k = false) : livesB lsn ls = false := by
  have : (List.range ls.length).all (liveOk lsn ls) = false := by
    rw [List.all_eq_false]
    exact ⟨k, List.mem_range.2 hk, by rw [h]; decide⟩
  simp [livesB, this]
theorem livesB_all {lsn : Int} {ls : List LiveV} (h : ∀ k, k < ls.length → liveOk lsn ls k = true) : livesB lsn ls = decide (ls.length ≤ 20) := by
  have : (List.range ls.length).all (liveOk lsn ls) = true := by
    rw [List.all_eq_true]
    exact fun k hk => h k (List.mem_range.1 hk)
  simp [livesB, this]

set_option maxHeartbeats 2000000 in
set_option maxRecDepth 100000 in
theorem l4Lives_any (r : RecA) (w : World) (hr : ReadsL w r.aL r.txs) (hl : r.txs.length ≤ 1099511627776) (hn : 1 ≤ r.lsn ∧ r.lsn ≤ 1000000) :
    Calls Tryd.prog 35 #[.agg r.cells.toArray] w fun e w' => e = .returned (.bool (livesB r.lsn r.txs)) ∧ Below w.heap.size w w' := by
  obtain ⟨W, hW, b0, hbW, hsW⟩ := boxes1 w r.cells 31
  have HNO : Hid (∀ k, k < r.txs.length → liveOk r.lsn r.txs k = false → livesB r.lsn r.txs = false) := fun k hk h => livesB_no k hk h
  have HAL : Hid ((∀ k, k < r.txs.length → liveOk r.lsn r.txs k = true) → livesB r.lsn r.txs = decide (r.txs.length ≤ 20)) := fun h => livesB_all h
  generalize livesB r.lsn r.txs = R at *
  have hc0 := b0.cell 0 _ rfl
  have hc14 := b0.cell 14 _ rfl
  simp only [RecA.cells] at hW ⊢
  clear hsW b0
  generalize r.lsn = lsn at *
  generalize r.txs = ls at *
  generalize r.aL = aL at *
  have hr' := hr.below hbW
  clear hr
  go_enter Tryd.func35, Tryd.ntmps35
  go_wp2_with fail
  rw [hW.out]
  clear hW
  go_loopw [3] (fun i wr => ∃ k : Nat, k ≤ ls.length ∧ i = .int .i64 k ∧ Hid (∀ j, j < k → liveOk lsn ls j = true) ∧ Below W.heap.size W wr) (fun i _ => ls.length - (intOf i).toNat)
  case atStart => exact ⟨0, Nat.zero_le _, rfl, fun j hj => by omega, Below.refl _ _⟩
  case round =>
    obtain ⟨k, hk, rfl, hall, hbl⟩ := hrel
    have hbm : Below w.heap.size w wr := hbW.trans (hbl.mono hbW.size)
    have r0 := (hbl.cell (block_lt hc0)).trans hc0
    have r14 := (hbl.cell (block_lt hc14)).trans hc14
    have hrr := hr'.below hbl
    clear hc0 hc14 hr'
    by_cases hlt : k < ls.length
    · obtain ⟨b, off, rfl, hcell⟩ := hrr (by intro e; rw [e] at hlt; simp at hlt)
      obtain ⟨c0, c1, _⟩ := hcell k hlt
      cases k with
      | zero =>
        clear hcell
        simp only [Nat.zero_mul, Nat.add_zero] at c0 c1
        have HL : Hid (liveOk lsn ls 0 = (inB (ls.getD 0 zeroL).tx 1 1000 && inB (ls.getD 0 zeroL).last 1 (lsn - 1))) := rfl
        generalize ls.getD 0 zeroL = z at *
        cases h1 : inB z.tx 1 1000 with
        | false =>
          have HR : Hid (R = false) := HNO.out 0 hlt (by rw [HL.out, h1]; rfl)
          clear HL HNO HAL
          go_wp2
          go_quiet ((go_at_call 32; exact Calls.quiet_of_same (l1In_any _ _ _ _)))
          go_wp2
          go_ret
          exact ⟨ret_bool HR.out.symm, by first | exact below_drewN hbm _ | exact hbm⟩
        | true =>
          cases h2 : inB z.last 1 (lsn - 1) with
          | false =>
            have HR : Hid (R = false) := HNO.out 0 hlt (by rw [HL.out, h1, h2]; rfl)
            clear HL HNO HAL
            go_wp2
            go_quiet ((go_at_call 32; exact Calls.quiet_of_same (l1In_any _ _ _ _)))
            go_wp2
            go_ret
            exact ⟨ret_bool HR.out.symm, by first | exact below_drewN hbm _ | exact hbm⟩
          | true =>
            have HR : Hid (∀ j, j < 1 → liveOk lsn ls j = true) := fun j hj => by
              obtain rfl : j = 0 := by omega
              rw [HL.out, h1, h2]
              rfl
            clear HL HNO HAL
            go_wp2
            go_quiet ((go_at_call 32; exact Calls.quiet_of_same (l1In_any _ _ _ _)))
            go_wp2
            go_roundw
            case rel => exact ⟨1, by omega, by go_num, HR, by first | exact below_drewN hbl _ | exact hbl⟩
            case measure => simp [intOf]; omega
      | succ j =>
        obtain ⟨d0, _, _⟩ := hcell j (by omega)
        clear hcell
        have HL : Hid (liveOk lsn ls (j + 1) = (inB (ls.getD (j + 1) zeroL).tx 1 1000 && inB (ls.getD (j + 1) zeroL).last 1 (lsn - 1) && decide ((ls.getD j zeroL).tx < (ls.getD (j + 1) zeroL).tx))) := rfl
        generalize ls.getD (j + 1) zeroL = z at *
        generalize ls.getD j zeroL = p at *
        cases h1 : inB z.tx 1 1000 with
        | false =>
          have HR : Hid (R = false) := HNO.out (j + 1) hlt (by rw [HL.out, h1]; rfl)
          clear HL HNO HAL
          go_wp2
          go_quiet ((go_at_call 32; exact Calls.quiet_of_same (l1In_any _ _ _ _)))
          go_wp2
          go_ret
          exact ⟨ret_bool HR.out.symm, by first | exact below_drewN hbm _ | exact hbm⟩
        | true =>
          cases h2 : inB z.last 1 (lsn - 1) with
          | false =>
            have HR : Hid (R = false) := HNO.out (j + 1) hlt (by rw [HL.out, h1, h2]; rfl)
            clear HL HNO HAL
            go_wp2
            go_quiet ((go_at_call 32; exact Calls.quiet_of_same (l1In_any _ _ _ _)))
            go_wp2
            go_ret
            exact ⟨ret_bool HR.out.symm, by first | exact below_drewN hbm _ | exact hbm⟩
          | true =>
            by_cases h3 : p.tx < z.tx
            case neg =>
              have HR : Hid (R = false) := HNO.out (j + 1) hlt (by rw [HL.out, h1, h2, decide_eq_false h3]; rfl)
              have h3b : decide (z.tx ≤ p.tx) = true := by simpa using h3
              clear HL HNO HAL
              go_wp2
              go_quiet ((go_at_call 32; exact Calls.quiet_of_same (l1In_any _ _ _ _)))
              go_wp2
              go_ret
              exact ⟨ret_bool HR.out.symm, by first | exact below_drewN hbm _ | exact hbm⟩
            case pos =>
              have HR : Hid (∀ i, i < j + 1 + 1 → liveOk lsn ls i = true) := fun i hi => by
                by_cases e : i = j + 1
                · rw [e, HL.out, h1, h2, decide_eq_true h3]; rfl
                · exact hall.out i (by omega)
              have h3b : decide (z.tx ≤ p.tx) = false := by simpa using h3
              clear HL HNO HAL
              go_wp2
              go_quiet ((go_at_call 32; exact Calls.quiet_of_same (l1In_any _ _ _ _)))
              go_wp2
              go_roundw
              case rel => exact ⟨j + 1 + 1, by omega, by go_num, HR, by first | exact below_drewN hbl _ | exact hbl⟩
              case measure => simp [intOf]; omega
    · have HR : Hid (R = decide ((ls.length : Int) ≤ 20)) := by
        rw [Hid, HAL.out (fun j hj => hall.out j (by omega))]
        simp only [decide_eq_decide]
        omega
      clear HNO HAL
      go_wp2
      go_ret
      exact ⟨ret_bool HR.out.symm, hbm⟩
end Go.Proofs.YtjaojcgfgkppgaaDoor

/- The walks of spec.l3Slot and spec.PageOk. -/
namespace Go.Proofs.YtjaojcgfgkppgaaDoor
open Go.RowKit

theorem slotB_of (o : ObjV) (a b c : Bool) (h1 : decide (o.kind = 0) = a) (h2 : decide (o.ints.length = 0) = b) (h3 : decide (o.refs.length = 0) = c) : slotB ⟨false, o⟩ = (a && (b && c)) := by
  rw [← h1, ← h2, ← h3]; rfl

set_option maxHeartbeats 400000 in
set_option maxRecDepth 100000 in
theorem l3Slot_any (s : SlotA) (w : World) (hr : s.reads w) (hl : Fit [s]) :
    Calls Tryd.prog 33 #[.agg s.cells.toArray] w fun e w' => e = .returned (.bool (slotB s.v)) ∧ Below w.heap.size w w' := by
  obtain ⟨h1, h2⟩ := hl s (List.mem_singleton.2 rfl)
  obtain ⟨W, hW, b0, hbW, hsW⟩ := boxes1 w s.cells 28
  have hr' : s.reads W := ReadsO.below hr hbW
  obtain ⟨⟨h, o⟩, aI, cI, aR, cR⟩ := s
  simp only [SlotA.cells, SlotA.reads] at *
  cases h with
  | true =>
    have C1 := specObjOk_any o aI cI aR cR W hr' (by omega) (by omega)
    have HE : Hid (slotB ⟨true, o⟩ = okB o) := slotB_has rfl
    generalize slotB ⟨true, o⟩ = R at *
    go_enter Tryd.func33, Tryd.ntmps33
    go_wp2_with fail
    rw [hW.out]
    refine C1.mono ?_
    rintro e w1 ⟨rfl, hb1⟩
    go_wp2
    go_ret
    exact ⟨ret_bool HE.out.symm, hbW.trans (hb1.mono hbW.size)⟩
  | false =>
    have HE := slotB_of o
    generalize slotB ⟨false, o⟩ = R at *
    obtain ⟨k, ints, refs⟩ := o
    obtain ⟨x0, x1, x2, x3, _⟩ := b0.four
    simp only at *
    by_cases hk : k = 0
    case neg =>
      have HR : Hid (R = false) := HE false _ _ (decide_eq_false hk) rfl rfl
      have hkb : (k == 0) = false := by simpa using hk
      clear HE hk
      go_enter Tryd.func33, Tryd.ntmps33
      go_wp2
      go_ret
      exact ⟨ret_bool HR.out.symm, by rw [hW.out]; exact hbW⟩
    case pos =>
    subst hk
    by_cases hi : ints.length = 0
    case neg =>
      have HR : Hid (R = false) := HE true false _ (decide_eq_true rfl) (decide_eq_false hi) rfl
      have hib : ((ints.length : Int) == 0) = false := by simp; exact fun e => hi (by rw [e]; rfl)
      clear HE hi
      go_enter Tryd.func33, Tryd.ntmps33
      go_wp2
      go_ret
      exact ⟨ret_bool HR.out.symm, by rw [hW.out]; exact hbW⟩
    case pos =>
    by_cases hj : refs.length = 0
    case neg =>
      have HR : Hid (R = false) := HE true true false (decide_eq_true rfl) (decide_eq_true hi) (decide_eq_false hj)
      have hib : ((ints.length : Int) == 0) = true := by simp; exact List.length_eq_zero_iff.1 hi
      have hjb : ((refs.length : Int) == 0) = false := by simp; exact fun e => hj (by rw [e]; rfl)
      clear HE hi hj
      go_enter Tryd.func33, Tryd.ntmps33
      go_wp2
      go_ret
      exact ⟨ret_bool HR.out.symm, by rw [hW.out]; exact hbW⟩
    case pos =>
      have HR : Hid (R = true) := HE true true true (decide_eq_true rfl) (decide_eq_true hi) (decide_eq_true hj)
      have hib : ((ints.length : Int) == 0) = true := by simp; exact List.length_eq_zero_iff.1 hi
      have hjb : ((refs.length : Int) == 0) = true := by simp; exact List.length_eq_zero_iff.1 hj
      clear HE hi hj
      go_enter Tryd.func33, Tryd.ntmps33
      go_wp2
      go_ret
      exact ⟨ret_bool HR.out.symm, by rw [hW.out]; exact hbW⟩

theorem okP_no {n : Int} {ss : List SlotA} (k : Nat) (hk : k < ss.length) (h : slotB (ss.getD k zeroS).v = false) : okP n (ss.map (·.v)) = false := by
  have : (ss.map (·.v)).all slotB = false := by
    rw [List.all_eq_false]
    exact ⟨(ss.getD k zeroS).v, List.mem_map.2 ⟨_, getD_mem hk, rfl⟩, by rw [h]; decide⟩
  simp [okP, this]
theorem okP_all {n : Int} {ss : List SlotA} (h : ∀ j, j < ss.length → slotB (ss.getD j zeroS).v = true) : okP n (ss.map (·.v)) = inB n 0 1000000 := by
  have : (ss.map (·.v)).all slotB = true := by
    rw [List.all_eq_true]
    intro v hv
    obtain ⟨s, hs, rfl⟩ := List.mem_map.1 hv
    obtain ⟨j, hj, rfl⟩ := List.getElem_of_mem hs
    have := h j hj
    simpa [List.getD, hj] using this
  simp [okP, this]

set_option maxHeartbeats 1000000 in
set_option maxRecDepth 100000 in
theorem specPageOk_any (p : PageA) (h4 : p.ss.length = 4) (w : World) (hr : ReadsS w p.ss) (hl : Fit p.ss) :
    Calls Tryd.prog 45 #[.agg p.cells.toArray] w fun e w' => e = .returned (.bool (okP p.lsn (p.ss.map (·.v)))) ∧ Below w.heap.size w w' := by
  obtain ⟨n, ss⟩ := p
  simp only [PageA.cells] at *
  obtain ⟨W, hW, b0, hbW, hsW⟩ := boxes1 w (.int .i64 n :: cellsS ss) 40
  have H4 : Hid (ss.length = 4) := h4
  have HNO : Hid (∀ k, k < ss.length → slotB (ss.getD k zeroS).v = false → okP n (ss.map (·.v)) = false) := fun k hk h => okP_no k hk h
  have HAL : Hid ((∀ j, j < ss.length → slotB (ss.getD j zeroS).v = true) → okP n (ss.map (·.v)) = inB n 0 1000000) := fun h => okP_all h
  generalize okP n (ss.map (·.v)) = R at *
  clear hsW h4
  go_enter Tryd.func45, Tryd.ntmps45
  go_wp2_with fail
  rw [hW.out]
  clear hW
  go_loopw [3] (fun i wr => ∃ (k : Nat), i = .int .i64 k ∧ k ≤ 4 ∧ Hid (∀ j, j < k → slotB (ss.getD j zeroS).v = true) ∧ Below W.heap.size W wr)
    (fun i _ => 4 - (intOf i).toNat)
  case atStart => exact ⟨0, rfl, by omega, fun j hj => by omega, Below.refl _ _⟩
  case round =>
    obtain ⟨k, rfl, hk, hall, hbl⟩ := hrel
    have b0r := b0.below hbl b0.lt
    have hbT : Below w.heap.size w wr := hbW.trans (hbl.mono hbW.size)
    by_cases hlt : k < 4
    · have hkl : k < ss.length := by rw [H4.out]; exact hlt
      obtain ⟨c0, c1, c2, c3, _⟩ := b0r.pslot k hkl
      have hi0 : (0 : Int) ≤ (k : Int) := by omega
      have hi4 : (k : Int) < 4 := by omega
      have hrk := (hr _ (getD_mem hkl)).below hbT
      have hlk : Fit [ss.getD k zeroS] := fun s hs => by obtain rfl := List.mem_singleton.1 hs; exact hl _ (getD_mem hkl)
      have C := l3Slot_any (ss.getD k zeroS) wr hrk hlk
      simp only [SlotA.cells] at C
      cases hz : slotB (ss.getD k zeroS).v with
      | false =>
        have HR : Hid (R = false) := HNO.out k hkl hz
        rw [hz] at C
        clear hz
        generalize ss.getD k zeroS = s at *
        go_wp2_with fail
        refine C.mono ?_
        rintro e w1 ⟨rfl, hb1⟩
        go_wp2
        go_ret
        exact ⟨ret_bool HR.out.symm, hbT.trans (hb1.mono hbT.size)⟩
      | true =>
        have HN : Hid (∀ j, j < k + 1 → slotB (ss.getD j zeroS).v = true) := by
          intro j hj
          by_cases e : j = k
          · rw [e]; exact hz
          · exact hall.out j (by omega)
        rw [hz] at C
        clear hz hrk hlk
        generalize hs : ss.getD k zeroS = s at *
        clear hs
        go_wp2_with fail
        refine C.mono ?_
        rintro e w1 ⟨rfl, hb1⟩
        clear C
        go_wp2_with fail
        go_roundw
        case rel => exact ⟨k + 1, by go_num, by omega, HN, hbl.trans (hb1.mono hbl.size)⟩
        case measure => simp [intOf]; omega
    · have hkk : ¬ (k : Int) < 4 := by omega
      have HR : Hid (R = inB n 0 1000000) := HAL.out (fun j hj => hall.out j (by rw [H4.out] at hj; omega))
      have c0 := b0r.cell 0 _ rfl
      go_wp2_with fail
      refine (l1In_any _ _ _ _).mono ?_
      rintro e w' ⟨rfl, rfl⟩
      go_wp2
      go_ret
      exact ⟨ret_bool HR.out.symm, hbT⟩
end Go.Proofs.YtjaojcgfgkppgaaDoor

/- The walk of spec.RecOk. -/
namespace Go.Proofs.YtjaojcgfgkppgaaDoor
open Go.RowKit

/-- Is the record right? -/
def okR (r : RecV) : Bool :=
  inB r.lsn 1 1000000 && (slotB r.bf && (slotB r.af &&
    (if r.kind == 6 then zeroB r false false false false true && livesB r.lsn r.txs
     else inB r.tx 1 1000 && (inB r.prev 0 (r.lsn - 1) &&
      (if r.kind == 1 then zeroB r true true true false false && inB r.oid 1 31
       else if r.kind == 4 then zeroB r true true false true false && (inB r.oid 1 31 && inB r.next 0 (r.lsn - 1))
       else if r.kind == 2 then zeroB r true false false false false
       else if r.kind == 3 then zeroB r true false false false false
       else if r.kind == 5 then zeroB r true false false false false
       else false)))))

theorem inB_both {x l m : Int} (h : inB x l m = true) : l ≤ x ∧ x ≤ m := by simpa [inB] using h
theorem fifteen {w : World} {B : Nat} {x0 x1 x2 x3 x4 x5 x6 x7 x8 x9 x10 x11 x12 x13 x14 : Value} {t : TypeId} (b : Box w B [x0, x1, x2, x3, x4, x5, x6, x7, x8, x9, x10, x11, x12, x13, x14] t) :
    w.cell? ⟨B, 0, none⟩ = some x0 ∧ w.cell? ⟨B, 1, none⟩ = some x1 ∧ w.cell? ⟨B, 2, none⟩ = some x2 ∧ w.cell? ⟨B, 3, none⟩ = some x3 ∧ w.cell? ⟨B, 4, none⟩ = some x4 ∧ w.cell? ⟨B, 5, none⟩ = some x5 ∧ w.cell? ⟨B, 6, none⟩ = some x6 ∧ w.cell? ⟨B, 7, none⟩ = some x7 ∧ w.cell? ⟨B, 8, none⟩ = some x8 ∧ w.cell? ⟨B, 9, none⟩ = some x9 ∧ w.cell? ⟨B, 10, none⟩ = some x10 ∧ w.cell? ⟨B, 11, none⟩ = some x11 ∧ w.cell? ⟨B, 12, none⟩ = some x12 ∧ w.cell? ⟨B, 13, none⟩ = some x13 ∧ w.cell? ⟨B, 14, none⟩ = some x14 :=
  ⟨b.cell 0 _ rfl, b.cell 1 _ rfl, b.cell 2 _ rfl, b.cell 3 _ rfl, b.cell 4 _ rfl, b.cell 5 _ rfl, b.cell 6 _ rfl, b.cell 7 _ rfl, b.cell 8 _ rfl, b.cell 9 _ rfl, b.cell 10 _ rfl, b.cell 11 _ rfl, b.cell 12 _ rfl, b.cell 13 _ rfl, b.cell 14 _ rfl⟩

set_option maxHeartbeats 4000000 in
set_option maxRecDepth 100000 in
theorem specRecOk_any (r : RecA) (w : World) (hr : r.reads w) (hl : r.short 1099511627776) :
    Calls Tryd.prog 10 #[.agg r.cells.toArray] w fun e w' => e = .returned (.bool (okR r.v)) ∧ Below w.heap.size w w' := by
  obtain ⟨W, hW, b0, hbW, hsW⟩ := boxes1 w r.cells 31
  have HB : Hid (∀ u, Below w.heap.size w u → Calls _ _ _ _ _) := fun u hu => l3Slot_any r.bf u (ReadsO.below hr.bf hu) (fun s hs => by obtain rfl := List.mem_singleton.1 hs; exact hl.bf)
  have HA : Hid (∀ u, Below w.heap.size w u → Calls _ _ _ _ _) := fun u hu => l3Slot_any r.af u (ReadsO.below hr.af hu) (fun s hs => by obtain rfl := List.mem_singleton.1 hs; exact hl.af)
  have HC : Hid (∀ u, Below w.heap.size w u → Calls _ _ _ _ _) := fun u hu => l4Zero_check r u (hr.below hu) hl
  have HS : Hid (∀ u, Below w.heap.size w u → Calls _ _ _ _ _) := fun u hu => l4Zero_set r u (hr.below hu) hl
  have HK : Hid (∀ u, Below w.heap.size w u → Calls _ _ _ _ _) := fun u hu => l4Zero_back r u (hr.below hu) hl
  have HE : Hid (∀ u, Below w.heap.size w u → Calls _ _ _ _ _) := fun u hu => l4Zero_end r u (hr.below hu) hl
  have HL : Hid (∀ u, Below w.heap.size w u → 1 ≤ r.lsn ∧ r.lsn ≤ 1000000 → Calls _ _ _ _ _) := fun u hu hn => l4Lives_any r u (hr.txs.below hu) hl.txs hn
  have HX : Hid (∀ u, Below W.heap.size W u → Box u w.heap.size r.cells 31) := fun u hu => b0.below hu b0.lt
  have HZ : Hid (okR r.v = (inB r.lsn 1 1000000 && (slotB r.bf.v && (slotB r.af.v &&
    (if r.kind == 6 then zeroB r.v false false false false true && livesB r.lsn r.txs
     else inB r.tx 1 1000 && (inB r.prev 0 (r.lsn - 1) &&
      (if r.kind == 1 then zeroB r.v true true true false false && inB r.oid 1 31
       else if r.kind == 4 then zeroB r.v true true false true false && (inB r.oid 1 31 && inB r.next 0 (r.lsn - 1))
       else if r.kind == 2 then zeroB r.v true false false false false
       else if r.kind == 3 then zeroB r.v true false false false false
       else if r.kind == 5 then zeroB r.v true false false false false
       else false)))))) ) := rfl
  generalize okR r.v = R at *
  clear hsW hr hl b0
  simp only [RecA.cells, SlotA.cells] at *
  go_enter Tryd.func10, Tryd.ntmps10
  go_wp2_with fail
  rw [hW.out]
  clear hW
  obtain ⟨x0, x1, x2, x3, x4, x5, x6, x7, x8, x9, x10, x11, x12, x13, x14⟩ := fifteen (HX.out W (Below.refl _ _))
  have BW : Below W.heap.size W W := Below.refl _ _
  refine (l1In_any _ _ _ W).mono ?_
  rintro e u ⟨rfl, hu⟩
  rw [hu]
  clear hu u
  cases h0 : inB r.lsn 1 1000000 with
  | false =>
    have HR : Hid (R = false) := by rw [Hid, HZ.out]; simp [h0]
    clear HZ
    go_wp2
    go_ret
    exact ⟨ret_bool HR.out.symm, hbW⟩
  | true =>
    have hn := inB_both h0
    go_wp2_with fail
    refine (HB.out W hbW).mono ?_
    clear x0 x1 x2 x3 x4 x5 x6 x7 x8 x9 x10 x11 x12 x13 x14
    rintro e u1 ⟨rfl, hb_u1⟩
    have b_u1 : Below w.heap.size w u1 := (hbW).trans (hb_u1.mono (hbW).size)
    have l_u1 : Below W.heap.size W u1 := (BW).trans (hb_u1.mono (BW).size)
    obtain ⟨x0, x1, x2, x3, x4, x5, x6, x7, x8, x9, x10, x11, x12, x13, x14⟩ := fifteen (HX.out u1 l_u1)
    clear hb_u1
    cases h1 : slotB r.bf.v with
    | false =>
      have HR : Hid (R = false) := by rw [Hid, HZ.out]; simp [h0, h1]
      clear HZ
      go_wp2
      go_ret
      exact ⟨ret_bool HR.out.symm, b_u1⟩
    | true =>
      go_wp2_with fail
      refine (HA.out u1 b_u1).mono ?_
      clear x0 x1 x2 x3 x4 x5 x6 x7 x8 x9 x10 x11 x12 x13 x14
      rintro e u2 ⟨rfl, hb_u2⟩
      have b_u2 : Below w.heap.size w u2 := (b_u1).trans (hb_u2.mono (b_u1).size)
      have l_u2 : Below W.heap.size W u2 := (l_u1).trans (hb_u2.mono (l_u1).size)
      obtain ⟨x0, x1, x2, x3, x4, x5, x6, x7, x8, x9, x10, x11, x12, x13, x14⟩ := fifteen (HX.out u2 l_u2)
      clear hb_u2
      cases h2 : slotB r.af.v with
      | false =>
        have HR : Hid (R = false) := by rw [Hid, HZ.out]; simp [h0, h1, h2]
        clear HZ
        go_wp2
        go_ret
        exact ⟨ret_bool HR.out.symm, b_u2⟩
      | true =>
        cases hk6 : (r.kind == 6) with
        | true =>
          go_wp2_with fail
          refine (HC.out u2 b_u2).mono ?_
          clear x0 x1 x2 x3 x4 x5 x6 x7 x8 x9 x10 x11 x12 x13 x14
          rintro e u3 ⟨rfl, hb_u3⟩
          have b_u3 : Below w.heap.size w u3 := (b_u2).trans (hb_u3.mono (b_u2).size)
          have l_u3 : Below W.heap.size W u3 := (l_u2).trans (hb_u3.mono (l_u2).size)
          obtain ⟨x0, x1, x2, x3, x4, x5, x6, x7, x8, x9, x10, x11, x12, x13, x14⟩ := fifteen (HX.out u3 l_u3)
          clear hb_u3
          cases h3 : zeroB r.v false false false false true with
          | false =>
            have HR : Hid (R = false) := by rw [Hid, HZ.out]; simp [h0, h1, h2, hk6, h3]
            clear HZ
            go_wp2
            go_ret
            exact ⟨ret_bool HR.out.symm, b_u3⟩
          | true =>
            go_wp2_with fail
            refine (HL.out u3 b_u3 hn).mono ?_
            clear x0 x1 x2 x3 x4 x5 x6 x7 x8 x9 x10 x11 x12 x13 x14
            rintro e u4 ⟨rfl, hb_u4⟩
            have b_u4 : Below w.heap.size w u4 := (b_u3).trans (hb_u4.mono (b_u3).size)
            have l_u4 : Below W.heap.size W u4 := (l_u3).trans (hb_u4.mono (l_u3).size)
            obtain ⟨x0, x1, x2, x3, x4, x5, x6, x7, x8, x9, x10, x11, x12, x13, x14⟩ := fifteen (HX.out u4 l_u4)
            clear hb_u4
            cases h4 : livesB r.lsn r.txs with
            | false =>
              have HR : Hid (R = false) := by rw [Hid, HZ.out]; simp [h0, h1, h2, hk6, h3, h4]
              clear HZ
              go_wp2
              go_ret
              exact ⟨ret_bool HR.out.symm, b_u4⟩
            | true =>
              have HR : Hid (R = true) := by rw [Hid, HZ.out]; simp [h0, h1, h2, hk6, h3, h4]
              clear HZ
              go_wp2
              go_ret
              exact ⟨ret_bool HR.out.symm, b_u4⟩
        | false =>
          go_wp2_with fail
          refine (l1In_any _ _ _ u2).mono ?_
          rintro e v ⟨rfl, hv⟩
          rw [hv]
          clear hv v
          cases h3 : inB r.tx 1 1000 with
          | false =>
            have HR : Hid (R = false) := by rw [Hid, HZ.out]; simp [h0, h1, h2, hk6, h3]
            clear HZ
            go_wp2
            go_ret
            exact ⟨ret_bool HR.out.symm, b_u2⟩
          | true =>
            go_wp2_with fail
            refine (l1In_any _ _ _ u2).mono ?_
            rintro e v ⟨rfl, hv⟩
            rw [hv]
            clear hv v
            cases h4 : inB r.prev 0 (r.lsn - 1) with
            | false =>
              have HR : Hid (R = false) := by rw [Hid, HZ.out]; simp [h0, h1, h2, hk6, h3, h4]
              clear HZ
              go_wp2
              go_ret
              exact ⟨ret_bool HR.out.symm, b_u2⟩
            | true =>
              cases hk1 : (r.kind == 1) with
              | true =>
                go_wp2_with fail
                refine (HS.out u2 b_u2).mono ?_
                clear x0 x1 x2 x3 x4 x5 x6 x7 x8 x9 x10 x11 x12 x13 x14
                rintro e u3 ⟨rfl, hb_u3⟩
                have b_u3 : Below w.heap.size w u3 := (b_u2).trans (hb_u3.mono (b_u2).size)
                have l_u3 : Below W.heap.size W u3 := (l_u2).trans (hb_u3.mono (l_u2).size)
                obtain ⟨x0, x1, x2, x3, x4, x5, x6, x7, x8, x9, x10, x11, x12, x13, x14⟩ := fifteen (HX.out u3 l_u3)
                clear hb_u3
                cases h5 : zeroB r.v true true true false false with
                | false =>
                  have HR : Hid (R = false) := by rw [Hid, HZ.out]; simp [h0, h1, h2, hk6, h3, h4, hk1, h5]
                  clear HZ
                  go_wp2
                  go_ret
                  exact ⟨ret_bool HR.out.symm, b_u3⟩
                | true =>
                  go_wp2_with fail
                  refine (l1In_any _ _ _ u3).mono ?_
                  rintro e v ⟨rfl, hv⟩
                  rw [hv]
                  clear hv v
                  cases h6 : inB r.oid 1 31 with
                  | false =>
                    have HR : Hid (R = false) := by rw [Hid, HZ.out]; simp [h0, h1, h2, hk6, h3, h4, hk1, h5, h6]
                    clear HZ
                    go_wp2
                    go_ret
                    exact ⟨ret_bool HR.out.symm, b_u3⟩
                  | true =>
                    have HR : Hid (R = true) := by rw [Hid, HZ.out]; simp [h0, h1, h2, hk6, h3, h4, hk1, h5, h6]
                    clear HZ
                    go_wp2
                    go_ret
                    exact ⟨ret_bool HR.out.symm, b_u3⟩
              | false =>
                cases hk4 : (r.kind == 4) with
                | true =>
                  go_wp2_with fail
                  refine (HK.out u2 b_u2).mono ?_
                  clear x0 x1 x2 x3 x4 x5 x6 x7 x8 x9 x10 x11 x12 x13 x14
                  rintro e u3 ⟨rfl, hb_u3⟩
                  have b_u3 : Below w.heap.size w u3 := (b_u2).trans (hb_u3.mono (b_u2).size)
                  have l_u3 : Below W.heap.size W u3 := (l_u2).trans (hb_u3.mono (l_u2).size)
                  obtain ⟨x0, x1, x2, x3, x4, x5, x6, x7, x8, x9, x10, x11, x12, x13, x14⟩ := fifteen (HX.out u3 l_u3)
                  clear hb_u3
                  cases h5 : zeroB r.v true true false true false with
                  | false =>
                    have HR : Hid (R = false) := by rw [Hid, HZ.out]; simp [h0, h1, h2, hk6, h3, h4, hk1, hk4, h5]
                    clear HZ
                    go_wp2
                    go_ret
                    exact ⟨ret_bool HR.out.symm, b_u3⟩
                  | true =>
                    go_wp2_with fail
                    refine (l1In_any _ _ _ u3).mono ?_
                    rintro e v ⟨rfl, hv⟩
                    rw [hv]
                    clear hv v
                    cases h6 : inB r.oid 1 31 with
                    | false =>
                      have HR : Hid (R = false) := by rw [Hid, HZ.out]; simp [h0, h1, h2, hk6, h3, h4, hk1, hk4, h5, h6]
                      clear HZ
                      go_wp2
                      go_ret
                      exact ⟨ret_bool HR.out.symm, b_u3⟩
                    | true =>
                      go_wp2_with fail
                      refine (l1In_any _ _ _ u3).mono ?_
                      rintro e v ⟨rfl, hv⟩
                      rw [hv]
                      clear hv v
                      cases h7 : inB r.next 0 (r.lsn - 1) with
                      | false =>
                        have HR : Hid (R = false) := by rw [Hid, HZ.out]; simp [h0, h1, h2, hk6, h3, h4, hk1, hk4, h5, h6, h7]
                        clear HZ
                        go_wp2
                        go_ret
                        exact ⟨ret_bool HR.out.symm, b_u3⟩
                      | true =>
                        have HR : Hid (R = true) := by rw [Hid, HZ.out]; simp [h0, h1, h2, hk6, h3, h4, hk1, hk4, h5, h6, h7]
                        clear HZ
                        go_wp2
                        go_ret
                        exact ⟨ret_bool HR.out.symm, b_u3⟩
                | false =>
                  cases hk2 : (r.kind == 2) with
                  | true =>
                    go_wp2_with fail
                    refine (HE.out u2 b_u2).mono ?_
                    clear x0 x1 x2 x3 x4 x5 x6 x7 x8 x9 x10 x11 x12 x13 x14
                    rintro e u3 ⟨rfl, hb_u3⟩
                    have b_u3 : Below w.heap.size w u3 := (b_u2).trans (hb_u3.mono (b_u2).size)
                    have l_u3 : Below W.heap.size W u3 := (l_u2).trans (hb_u3.mono (l_u2).size)
                    obtain ⟨x0, x1, x2, x3, x4, x5, x6, x7, x8, x9, x10, x11, x12, x13, x14⟩ := fifteen (HX.out u3 l_u3)
                    clear hb_u3
                    cases h5 : zeroB r.v true false false false false with
                    | false =>
                      have HR : Hid (R = false) := by rw [Hid, HZ.out]; simp [h0, h1, h2, hk6, h3, h4, hk1, hk4, hk2, h5]
                      clear HZ
                      go_wp2
                      go_ret
                      exact ⟨ret_bool HR.out.symm, b_u3⟩
                    | true =>
                      have HR : Hid (R = true) := by rw [Hid, HZ.out]; simp [h0, h1, h2, hk6, h3, h4, hk1, hk4, hk2, h5]
                      clear HZ
                      go_wp2
                      go_ret
                      exact ⟨ret_bool HR.out.symm, b_u3⟩
                  | false =>
                    cases hk3 : (r.kind == 3) with
                    | true =>
                      go_wp2_with fail
                      refine (HE.out u2 b_u2).mono ?_
                      clear x0 x1 x2 x3 x4 x5 x6 x7 x8 x9 x10 x11 x12 x13 x14
                      rintro e u3 ⟨rfl, hb_u3⟩
                      have b_u3 : Below w.heap.size w u3 := (b_u2).trans (hb_u3.mono (b_u2).size)
                      have l_u3 : Below W.heap.size W u3 := (l_u2).trans (hb_u3.mono (l_u2).size)
                      obtain ⟨x0, x1, x2, x3, x4, x5, x6, x7, x8, x9, x10, x11, x12, x13, x14⟩ := fifteen (HX.out u3 l_u3)
                      clear hb_u3
                      cases h5 : zeroB r.v true false false false false with
                      | false =>
                        have HR : Hid (R = false) := by rw [Hid, HZ.out]; simp [h0, h1, h2, hk6, h3, h4, hk1, hk4, hk2, hk3, h5]
                        clear HZ
                        go_wp2
                        go_ret
                        exact ⟨ret_bool HR.out.symm, b_u3⟩
                      | true =>
                        have HR : Hid (R = true) := by rw [Hid, HZ.out]; simp [h0, h1, h2, hk6, h3, h4, hk1, hk4, hk2, hk3, h5]
                        clear HZ
                        go_wp2
                        go_ret
                        exact ⟨ret_bool HR.out.symm, b_u3⟩
                    | false =>
                      cases hk5 : (r.kind == 5) with
                      | true =>
                        go_wp2_with fail
                        refine (HE.out u2 b_u2).mono ?_
                        clear x0 x1 x2 x3 x4 x5 x6 x7 x8 x9 x10 x11 x12 x13 x14
                        rintro e u3 ⟨rfl, hb_u3⟩
                        have b_u3 : Below w.heap.size w u3 := (b_u2).trans (hb_u3.mono (b_u2).size)
                        have l_u3 : Below W.heap.size W u3 := (l_u2).trans (hb_u3.mono (l_u2).size)
                        obtain ⟨x0, x1, x2, x3, x4, x5, x6, x7, x8, x9, x10, x11, x12, x13, x14⟩ := fifteen (HX.out u3 l_u3)
                        clear hb_u3
                        cases h5 : zeroB r.v true false false false false with
                        | false =>
                          have HR : Hid (R = false) := by rw [Hid, HZ.out]; simp [h0, h1, h2, hk6, h3, h4, hk1, hk4, hk2, hk3, hk5, h5]
                          clear HZ
                          go_wp2
                          go_ret
                          exact ⟨ret_bool HR.out.symm, b_u3⟩
                        | true =>
                          have HR : Hid (R = true) := by rw [Hid, HZ.out]; simp [h0, h1, h2, hk6, h3, h4, hk1, hk4, hk2, hk3, hk5, h5]
                          clear HZ
                          go_wp2
                          go_ret
                          exact ⟨ret_bool HR.out.symm, b_u3⟩
                      | false =>
                        have HR : Hid (R = false) := by rw [Hid, HZ.out]; simp [h0, h1, h2, hk6, h3, h4, hk1, hk4, hk2, hk3, hk5]
                        clear HZ
                        go_wp2
                        go_ret
                        exact ⟨ret_bool HR.out.symm, b_u2⟩
end Go.Proofs.YtjaojcgfgkppgaaDoor
