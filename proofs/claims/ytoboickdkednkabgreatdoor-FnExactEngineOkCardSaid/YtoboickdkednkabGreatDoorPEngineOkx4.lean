/- Several texts in one, in their order. -/
import Derived.Test.YtoboickdkednkabGreatDoorPEngineOkx1
import Derived.Test.YtoboickdkednkabGreatDoorPEngineOkx3
import Derived.Test.YtoboickdkednkabGreatDoorPEngineOkx2
import Derived.Deep.RegionHeld3
import Derived.Deep.QuietTactic
import Derived.BigQuiet
import Derived.Deep.AppendLies
import Derived.Laws.AppendOwnNone
import Derived.Laws.CopyOwn
import Derived.MapKept
import Derived.Maps.Own
import Derived.Deep.Cut
set_option maxHeartbeats 8000000
set_option maxRecDepth 100000
namespace Go.Proofs.YtoboickdkednkabGreatDoor
open Go.RowKit
theorem toPage_own (p : PageA) (h4 : p.ss.length = 4) (w : World) (hr : ReadsS w p.ss) (hl : ∀ s ∈ p.ss, s.v.o.ints.length ≤ 1099511627776 ∧ s.v.o.refs.length ≤ 1099511627776) :
  Calls Tryz.prog 92 #[.agg p.cells.toArray] w fun e w' => ∃ ts : List SlotA, e = .returned (.agg (PageA.cells ⟨p.lsn, ts⟩).toArray) ∧ Hid (ts.map (·.v) = p.ss.map (·.v)) ∧ OwnS w' w.heap.size w'.heap.size ts ∧ Below w.heap.size w w' := by
 obtain ⟨n, ss⟩ := p
 simp only [PageA.cells] at *
 obtain ⟨W, hW, b0, b1, b2, hbW, hsW⟩ := boxes3 w (.int .i64 n :: cellsS ss) [.int .i64 0, .bool false, .int .i64 0, .slice none 0 0, .slice none 0 0, .bool false, .int .i64 0, .slice none 0 0, .slice none 0 0, .bool false, .int .i64 0, .slice none 0 0, .slice none 0 0, .bool false, .int .i64 0, .slice none 0 0, .slice none 0 0] [.int .i64 n, .bool false, .int .i64 0, .slice none 0 0, .slice none 0 0, .bool false, .int .i64 0, .slice none 0 0, .slice none 0 0, .bool false, .int .i64 0, .slice none 0 0, .slice none 0 0, .bool false, .int .i64 0, .slice none 0 0, .slice none 0 0] 29 48 48
 have b1' : Box W (w.heap.size + 1) ([] ++ ((.int .i64 0 :: cellsS zero4) ++ [])) 48 := b1
 have b2' : Box W (w.heap.size + 1 + 1) ([.int .i64 n] ++ (cellsS zero4 ++ [])) 48 := b2
 have hsW' : w.heap.size + 1 + 1 < W.heap.size := by omega
 clear b1 b2 hsW
 have hc0 := (box_new w (.int .i64 n :: cellsS ss) 29).cell 0 _ rfl
 have hrg0 : W.rangeAt w.heap.size 1 (cellsS ss) := Box.range [.int .i64 n] (cellsS ss) [] (by simpa using b0)
 have hi0 : (Tryz.prog.info? 27).map (·.size) = some (cellsS ss).length := by rw [cellsS_len, h4]; kernel_rfl
 go_enter Tryz.func92, Tryz.ntmps92
 go_wp2_with (first | (guard_target = wpList _ _ _ (Oper.mk (some 8) _ _ _ _ _ :: _) _ _; refine wpList_load_mid rfl 27 (.tmp 7) rfl w.heap.size 1 rfl (cellsS ss) _ (by rw [hW.out]; exact hrg0) Tryz.underlying27 rfl hi0 ?_) | fail)
 rw [hW.out]
 clear hW hrg0 hi0 hc0
 refine (toSlotA4_own ss h4 W (hr.below hbW) hl).mono ?_
 rintro e w1 ⟨ts, rfl, hv, ho, hb1⟩
 have htl : ts.length = 4 := by have := congrArg List.length hv.out; simp only [List.length_map] at this; omega
 have hs1 := hb1.size
 have b11 := b1'.below hb1 b1'.lt
 have b21 := b2'.below hb1 b2'.lt
 obtain ⟨W2, hW2, b22, hw2, hs2⟩ := range_fill [.int .i64 n] (cellsS zero4) (cellsS ts) [] b21 (by rw [cellsS_len, cellsS_len, htl]; rfl)
 have hW2' : w1.setCells (w.heap.size + 1 + 1) 1 (cellsS ts) = W2 := hW2.out
 have b12 := b11.within hw2 (by omega)
 obtain ⟨WF, hWF, bF, hwF, hsF⟩ := range_fill [] (.int .i64 0 :: cellsS zero4) (.int .i64 n :: cellsS ts) [] b12 (by simp only [List.length_cons, cellsS_len, htl]; rfl)
 have hWF' : W2.setCells (w.heap.size + 1) 0 (.int .i64 n :: cellsS ts) = WF := hWF.out
 have ht2 : w1.there (w.heap.size + 1 + 1) 1 (cellsS ts).toArray.size := b21.there 1 _ (by simp only [List.size_toArray, cellsS_len, htl, List.length_append, List.length_cons, List.length_nil]; decide)
 have hr2 : W2.rangeAt (w.heap.size + 1 + 1) 0 (.int .i64 n :: cellsS ts) := Box.range [] (.int .i64 n :: cellsS ts) [] (by simpa using b22)
 have htF : W2.there (w.heap.size + 1) 0 (.int .i64 n :: cellsS ts).toArray.size := b12.there 0 _ (by simp only [List.size_toArray, cellsS_len, htl, List.length_append, List.length_cons, List.length_nil]; decide)
 have hrF : WF.rangeAt (w.heap.size + 1) 0 (.int .i64 n :: cellsS ts) := Box.range [] (.int .i64 n :: cellsS ts) [] (by simpa using bF)
 have hi4 : (Tryz.prog.info? 46).map (·.size) = some (cellsS ts).toArray.size := by rw [List.size_toArray, cellsS_len, htl]; kernel_rfl
 have hi7 : (Tryz.prog.info? 48).map (·.size) = some (.int .i64 n :: cellsS ts).length := by rw [List.length_cons, cellsS_len, htl]; kernel_rfl
 have h1S := all_oneCell_toArray (oneS ts)
 have h1P := all_oneCell_toArray (oneP ⟨n, ts⟩)
 simp only [PageA.cells] at h1P
 have hlF := run_loadVar_mid (P := Tryz.prog) WF (w.heap.size + 1) 0 48 (.int .i64 n :: cellsS ts) _ hrF Tryz.underlying48 rfl hi7
 have hbF : Below w.heap.size w WF := ((hbW.trans (hb1.mono (by omega))).trans (hw2.below (by omega) (by omega))).trans (hwF.below (by omega) (by omega))
 have hoF : OwnS WF w.heap.size WF.heap.size ts := ((ho.within hw2 (.inr (by omega))).within hwF (.inr (by omega))).widen (by omega) (by omega) (Nat.le_refl _)
 have HF : Hid (_ ∧ _ ∧ _) := ⟨hlF, hbF, hoF⟩
 have HA : Hid (_ ∧ _ ∧ _) := ⟨ht2, hr2, htF⟩
 have HI : Hid (_ ∧ _) := ⟨hi4, hi7⟩
 have HO : Hid (_ ∧ _) := ⟨h1S, h1P⟩
 have HW2 : Hid (_ = _) := hW2'
 have HWF : Hid (_ = _) := hWF'
 clear hlF hbF hoF ht2 hr2 htF hi4 hi7 h1S h1P hW2' hWF' hrF hs2 hsF hw2 hwF b22 b12 b11 b21 bF hW2 hWF b0 b1' b2' hb1 hbW htl
 go_wp2_with (first | (guard_target = wpList _ _ _ (Oper.mk none (Op.store _ (Operand.tmp 10) _) _ _ _ _ :: _) _ _; refine wpList_store_mid rfl 46 (.tmp 10) (.tmp 9) rfl (w.heap.size + 1 + 1) 1 (cellsS ts).toArray rfl rfl HA.out.1 HI.out.1 HO.out.1 ?_) | (guard_target = wpList _ _ _ (Oper.mk (some 11) _ _ _ _ _ :: _) _ _; refine wpList_load_mid rfl 48 (.tmp 3) rfl (w.heap.size + 1 + 1) 0 rfl (.int .i64 n :: cellsS ts) _ (by rw [HW2.out]; exact HA.out.2.1) Tryz.underlying48 rfl HI.out.2 ?_) | (guard_target = wpList _ _ _ (Oper.mk none (Op.store _ (Operand.tmp 2) _) _ _ _ _ :: _) _ _; refine wpList_store_mid rfl 48 (.tmp 2) (.tmp 11) rfl (w.heap.size + 1) 0 (.int .i64 n :: cellsS ts).toArray rfl rfl (by rw [HW2.out]; exact HA.out.2.2) (by rw [List.size_toArray]; exact HI.out.2) HO.out.2 ?_) | fail)
 rw [HW2.out, HWF.out]
 exact bodyPost_ret (v := .agg (.int .i64 n :: cellsS ts).toArray) (results_one Tryz.results92 rfl HF.out.1) rfl ⟨ts, rfl, hv, HF.out.2.2, HF.out.2.1⟩
def noR : RecV := ⟨0, 0, 0, 0, 0, noS, noS, 0, []⟩
theorem equalInts_any (a b : Option Addr) (ca cb : Nat) (xs ys : List Int) (w : World) (ha : ReadsI w a xs) (hb : ReadsI w b ys) (hl : xs.length ≤ 1099511627776) (hl2 : ys.length ≤ 1099511627776) :
  Calls Tryz.prog 172 #[.slice a xs.length ca, .slice b ys.length cb] w fun e w' => e = .returned (.bool (decide (xs = ys))) ∧ ∃ n, w' = w.drewN n := by
 by_cases hle : xs.length = ys.length
 case neg =>
  have HE : Hid (_ = _) := ne_len hle
  have hle' : ((xs.length : Int) == (ys.length : Int)) = false := by simp; omega
  go_enter Tryz.func172, Tryz.ntmps172
  go_wp2
  go_ret
  exact ⟨ret_bool HE.out.symm, 0, rfl⟩
 case pos =>
 have HL : Hid (xs.length = ys.length) := hle
 have hle' : ((xs.length : Int) == (ys.length : Int)) = true := by simp; omega
 rcases ha.cases with rfl | ⟨b1, o1, rfl, hpos, hc1⟩
 ·obtain rfl : ys = [] := List.length_eq_zero_iff.1 (by simpa using hle.symm)
  have HE : Hid (decide (([] : List Int) = []) = true) := by simp [Hid]
  clear hle hle' HL
  go_enter Tryz.func172, Tryz.ntmps172
  go_wp2
  refine wp_loop_rounds 1 ?_
  rw [rounds_succ]
  go_wp2
  go_ret
  exact ⟨ret_bool HE.out.symm, 0, rfl⟩
 ·rcases hb.cases with rfl | ⟨b2, o2, rfl, _, hc2⟩
  ·simp at hle; simp [hle] at hpos
  ·clear hle
   go_enter Tryz.func172, Tryz.ntmps172
   go_wp2
   go_loopw [13] (fun i wr => ∃ k : Nat, k ≤ xs.length ∧ i = .int .i64 k ∧ Hid (∀ t, t < k → xs.getD t 0 = ys.getD t 0) ∧ ∃ n, wr = w.drewN n) (fun i _ => xs.length - (intOf i).toNat)
   case atStart => exact ⟨0, Nat.zero_le _, rfl, fun t ht => by omega, 0, rfl⟩
   case round =>
    obtain ⟨k, hk, rfl, hall, n, rfl⟩ := hrel
    by_cases hlt : k < xs.length
    ·have h1 := hc1 k hlt
     have h2 := hc2 k (by have := HL.out; omega)
     have hlt2 : (k : Int) < (ys.length : Int) := by have := HL.out; omega
     clear hc1 hc2
     by_cases hz : xs.getD k 0 = ys.getD k 0
     ·have HN : Hid (∀ t, t < k + 1 → xs.getD t 0 = ys.getD t 0) := by
       intro t ht
       by_cases e : t = k
       ·rw [e]; exact hz
       ·exact hall.out t (by omega)
      rw [← hz] at h2
      clear hz
      generalize xs.getD k 0 = z at *
      go_wp2
      go_quiet (fail)
      go_wp2
      go_roundw
      case rel => exact ⟨k + 1, by omega, by go_num, HN, _, rfl⟩
      case measure => simp [intOf]; omega
     ·have HE : Hid (_ = _) := ne_at k hz
      have hzb : (xs.getD k 0 == ys.getD k 0) = false := by simpa using hz
      clear hz
      generalize xs.getD k 0 = z at *
      generalize ys.getD k 0 = y at *
      go_wp2
      go_quiet (fail)
      go_wp2
      go_ret
      exact ⟨ret_bool HE.out.symm, n + nq, by first | rfl | simp⟩
    ·have HE : Hid (_ = _) := eq_all HL.out (fun t ht => hall.out t (by omega))
     go_wp2
     go_ret
     exact ⟨ret_bool HE.out.symm, n, rfl⟩
theorem implSameObj_any (o p : ObjV) (aI : Option Addr) (cI : Nat) (aR : Option Addr) (cR : Nat) (bI : Option Addr) (dI : Nat) (bR : Option Addr) (dR : Nat) (w : World) (ha : ReadsO w aI cI aR cR o) (hb : ReadsO w bI dI bR dR p) (h1 : o.ints.length ≤ 1099511627776) (h2 : o.refs.length ≤ 1099511627776) (h3 : p.ints.length ≤ 1099511627776) (h4 : p.refs.length ≤ 1099511627776) :
  Calls Tryz.prog 130 #[.agg #[.int .i64 o.kind, .slice aI o.ints.length cI, .slice aR o.refs.length cR], .agg #[.int .i64 p.kind, .slice bI p.ints.length dI, .slice bR p.refs.length dR]] w fun e w' => e = .returned (.bool (sameO o p)) ∧ Below w.heap.size w w' := by
 obtain ⟨k, ints, refs⟩ := o
 obtain ⟨k', ints', refs'⟩ := p
 obtain ⟨haI, haR, _, _⟩ := ha
 obtain ⟨hbI, hbR, _, _⟩ := hb
 simp only at *
 obtain ⟨W, hW, b0, b1, hbW, hsW⟩ := boxes2 w [.int .i64 k, .slice aI ints.length cI, .slice aR refs.length cR] [.int .i64 k', .slice bI ints'.length dI, .slice bR refs'.length dR] 43 43
 by_cases hk : k = k'
 case neg =>
  have HE : Hid (sameO ⟨k, ints, refs⟩ ⟨k', ints', refs'⟩ = false) := by simp [Hid, sameO, hk]
  have hkb : (k == k') = false := by simpa using hk
  clear hk
  go_enter Tryz.func130, Tryz.ntmps130
  go_wp2
  go_ret
  exact ⟨ret_bool HE.out.symm, by rw [hW.out]; exact hbW⟩
 case pos =>
 subst hk
 have HE : Hid (sameO ⟨k, ints, refs⟩ ⟨k, ints', refs'⟩ = (decide (ints = ints') && decide (refs = refs'))) := by simp [Hid, sameO]
 go_enter Tryz.func130, Tryz.ntmps130
 go_wp2_with fail
 rw [hW.out]
 refine (equalInts_any aI bI cI dI ints ints' W (haI.below hbW) (hbI.below hbW) h1 h3).mono ?_
 rintro e w1 ⟨rfl, n1, rfl⟩
 have c0 := (b0.drewN n1).cell 2 _ rfl
 have c1 := (b1.drewN n1).cell 2 _ rfl
 have hb1 : Below w.heap.size w (W.drewN n1) := below_drewN hbW n1
 cases hd : decide (ints = ints') with
 | false =>
  rw [hd] at HE
  clear hd
  go_wp2
  go_ret
  exact ⟨ret_bool (by rw [HE.out]; rfl), hb1⟩
 | true =>
  rw [hd] at HE
  clear hd
  go_wp2_with fail
  refine (equalInts_any aR bR cR dR refs refs' (W.drewN n1) (haR.below hb1) (hbR.below hb1) h2 h4).mono ?_
  rintro e w2 ⟨rfl, n2, rfl⟩
  generalize decide (refs = refs') = D at *
  go_wp2
  go_ret
  exact ⟨ret_bool (by rw [HE.out]; rfl), below_drewN hbW (n1 + n2)⟩
structure HoldV where
 tx : Int
 oid : Int
def HoldV.cells (l : HoldV) : List Value := [.int .i64 l.tx, .int .i64 l.oid]
def zeroH : HoldV := ⟨0, 0⟩
def cellsH (ls : List HoldV) : List Value := ls.flatMap HoldV.cells
theorem cellsH_len (ls : List HoldV) : (cellsH ls).length = ls.length * 2 := by
 induction ls with
 | nil => rfl
 | cons s r ih => simp only [cellsH, List.flatMap_cons, List.length_append, HoldV.cells, List.length_cons, List.length_nil] at *; omega
theorem cellsH_at (ls : List HoldV) (k j : Nat) (hk : k < ls.length) (hj : j < 2) : (cellsH ls)[k * 2 + j]? = (ls.getD k zeroH).cells[j]? := by
 induction ls generalizing k with
 | nil => simp at hk
 | cons s r ih =>
  have e : cellsH (s :: r) = s.cells ++ cellsH r := by simp [cellsH]
  have l3 : s.cells.length = 2 := rfl
  rw [e]
  cases k with
  | zero => rw [List.getElem?_append_left (by rw [l3]; omega)]; simp
  | succ k =>
   rw [List.getElem?_append_right (by rw [l3]; omega), l3]
   have := ih k (by simpa using hk)
   rw [show (k + 1) * 2 + j - 2 = k * 2 + j by omega, this]
   simp
theorem cellsH_set (ls : List HoldV) (k : Nat) (hk : k < ls.length) (t : HoldV) :
  ((cellsH ls).set (k * 2) (.int .i64 t.tx)).set (k * 2 + 1) (.int .i64 t.oid) = cellsH (ls.set k t) := by
 induction ls generalizing k with
 | nil => simp at hk
 | cons s r ih =>
  cases k with
  | zero => simp [cellsH, HoldV.cells]
  | succ k =>
   have := ih k (by simpa using hk)
   have e2 : ∀ x, cellsH (s :: x) = s.cells ++ cellsH x := fun x => by simp [cellsH]
   have l3 : s.cells.length = 2 := rfl
   rw [e2, List.set_append_right _ _ (by rw [l3]; omega), List.set_append_right _ _ (by rw [l3]; omega), l3, show (k + 1) * 2 - 2 = k * 2 by omega, show (k + 1) * 2 + 1 - 2 = k * 2 + 1 by omega, this, List.set_cons_succ, e2]
def ReadsH (w : World) (a : Option Addr) (ls : List HoldV) : Prop := ls ≠ [] → ∃ b off, a = some ⟨b, off, none⟩ ∧ ∀ k, k < ls.length → w.cell? ⟨b, off + k * 2, none⟩ = some (.int .i64 (ls.getD k zeroH).tx) ∧ w.cell? ⟨b, off + k * 2 + 1, none⟩ = some (.int .i64 (ls.getD k zeroH).oid)
theorem ReadsH.nil (w : World) (a : Option Addr) : ReadsH w a [] := fun h => absurd rfl h
theorem ReadsH.below {w w' : World} {a : Option Addr} {ls : List HoldV} (h : ReadsH w a ls) (hb : Below w.heap.size w w') : ReadsH w' a ls := by
 intro hne
 obtain ⟨b, off, ha, hc⟩ := h hne
 refine ⟨b, off, ha, fun k hk => ?_⟩
 obtain ⟨h0, h1⟩ := hc k hk
 have hlt := block_lt h0
 exact ⟨by rw [hb.cell (p := ⟨b, off + k * 2, none⟩) hlt]; exact h0, by rw [hb.cell (p := ⟨b, off + k * 2 + 1, none⟩) hlt]; exact h1⟩
theorem ReadsH.cases {w : World} {a : Option Addr} {ls : List HoldV} (h : ReadsH w a ls) : ls = [] ∨ ∃ b off, a = some ⟨b, off, none⟩ ∧ 0 < ls.length ∧ ∀ k, k < ls.length → w.cell? ⟨b, off + k * 2, none⟩ = some (.int .i64 (ls.getD k zeroH).tx) ∧ w.cell? ⟨b, off + k * 2 + 1, none⟩ = some (.int .i64 (ls.getD k zeroH).oid) := by
 by_cases e : ls = []
 ·exact .inl e
 ·obtain ⟨b, off, ha, hc⟩ := h e
  exact .inr ⟨b, off, ha, List.length_pos_iff.2 e, hc⟩
def OwnH (w : World) (lo hi : Nat) (a : Option Addr) (c : Nat) (ls : List HoldV) : Prop :=
 w.ownsRow lo 132 2 (.slice a ls.length c) ls.length (cellsH ls) ∧ hi ≤ w.heap.size ∧ ∀ k, (Value.slice a ls.length c).ownBlock = some k → k < hi
theorem OwnH.lt {w : World} {lo hi : Nat} {a : Option Addr} {c : Nat} {ls : List HoldV} (h : OwnH w lo hi a c ls) : ∀ k, (Value.slice a ls.length c).ownBlock = some k → lo ≤ k ∧ k < hi := fun k hk => ⟨(h.1.lt k hk).1, h.2.2 k hk⟩
theorem OwnH.touch {w w' : World} {lo hi : Nat} {a : Option Addr} {c : Nat} {ls : List HoldV} {bl : List Nat} (h : OwnH w lo hi a c ls) (ht : Touch bl w w') (hd : ∀ k, (Value.slice a ls.length c).ownBlock = some k → k ∉ bl) : OwnH w' lo hi a c ls :=
 ⟨ownsRow_block h.1 (fun k hk => ht.block k (h.1.lt k hk).2 (hd k hk)), Nat.le_trans h.2.1 ht.size, h.2.2⟩
theorem OwnH.within {w w' : World} {lo hi l r : Nat} {a : Option Addr} {c : Nat} {ls : List HoldV} (h : OwnH w lo hi a c ls) (hw : Within l r w w') (hd : hi ≤ l ∨ r ≤ lo) : OwnH w' lo hi a c ls :=
 ⟨ownsRow_block h.1 (fun k hk => hw.block k (by have := h.2.2 k hk; have := h.2.1; omega) (by have := h.lt k hk; omega)), Nat.le_trans h.2.1 hw.size, h.2.2⟩
theorem OwnH.widen {w : World} {lo hi lo' hi' : Nat} {a : Option Addr} {c : Nat} {ls : List HoldV} (h : OwnH w lo hi a c ls) (h1 : lo' ≤ lo) (h2 : hi ≤ hi') (h3 : hi' ≤ w.heap.size) : OwnH w lo' hi' a c ls :=
 ⟨ownsRow_base h.1 (fun k hk => by have := h.lt k hk; omega), h3, fun k hk => by have := h.lt k hk; omega⟩
theorem row_hold {w : World} {base g n cap : Nat} {ls : List HoldV} (h : w.ownsRow base 132 2 (.slice (some ⟨g, 0, none⟩) n cap) n (cellsH ls)) (hn : ls.length = n) (k : Nat) (hk : k < n) :
  w.cell? ⟨g, k * 2, none⟩ = some (.int .i64 (ls.getD k zeroH).tx) ∧ w.cell? ⟨g, k * 2 + 1, none⟩ = some (.int .i64 (ls.getD k zeroH).oid) ∧ (∀ i, w.frozen? ⟨g, i, none⟩ = false) := by
 have a0 := cellsH_at ls k 0 (by omega) (by omega)
 have a1 := cellsH_at ls k 1 (by omega) (by omega)
 simp only [HoldV.cells, Nat.add_zero, List.getElem?_cons_zero, List.getElem?_cons_succ] at a0 a1
 exact ⟨by rw [h.cellAt (k * 2) (by omega)]; exact a0, by rw [h.cellAt (k * 2 + 1) (by omega)]; exact a1, fun i => h.frozenAt i⟩
theorem row_storeH {w : World} {base g n cap : Nat} {ls : List HoldV} (h : w.ownsRow base 132 2 (.slice (some ⟨g, 0, none⟩) n cap) n (cellsH ls)) (hn : ls.length = n) (k : Nat) (hk : k < n) (t : HoldV) :
  ∃ W, Hid ((w.setCell ⟨g, k * 2, none⟩ (.int .i64 t.tx)).setCell ⟨g, k * 2 + 1, none⟩ (.int .i64 t.oid) = W) ∧ W.ownsRow base 132 2 (.slice (some ⟨g, 0, none⟩) n cap) n (cellsH (ls.set k t)) ∧ w.grownBy W (some g) := by
 have s1 := h.stored (k * 2) (.int .i64 t.tx)
 have s2 := s1.1.stored (k * 2 + 1) (.int .i64 t.oid)
 refine ⟨_, rfl, ?_, grownBy_trans s1.2 s2.2⟩
 have := s2.1
 rw [cellsH_set ls k (by omega) t] at this
 exact this
theorem OwnH.reads {w : World} {lo hi : Nat} {a : Option Addr} {c : Nat} {ls : List HoldV} (h : OwnH w lo hi a c ls) : ReadsH w a ls := by
 intro hne
 rcases h.1.2 with ⟨_, h0⟩ | ⟨g, cap', cur, hv, hb, hg, hr⟩
 ·exact absurd (List.length_eq_zero_iff.1 h0) hne
 ·simp only [Value.slice.injEq] at hv
  obtain ⟨rfl, _, rfl⟩ := hv
  refine ⟨g, 0, rfl, fun k hk => ?_⟩
  obtain ⟨a0, a1, _⟩ := row_hold h.1 rfl k hk
  rw [Nat.zero_add]
  exact ⟨a0, a1⟩
theorem Tryz.infoHold : (Tryz.prog.info? 132).map (fun i => (i.zero, i.size, i.bytes)) = some (some (.agg #[.int .i64 0, .int .i64 0]), 2, 16) := by kernel_rfl
theorem toHold_any (l : HoldV) (w : World) :
  Calls Tryz.prog 96 #[.agg l.cells.toArray] w fun e w' => e = .returned (.agg l.cells.toArray) ∧ Below w.heap.size w w' := by
 obtain ⟨x, y⟩ := l
 simp only [HoldV.cells]
 obtain ⟨W, hW, b0, b1, b2, hbW, hsW⟩ := boxes3 w [.int .i64 x, .int .i64 y] [.int .i64 x, .int .i64 y] [.int .i64 x, .int .i64 y] 139 132 132
 have q0 := b1.cell 0 _ rfl
 have q1 := b1.cell 1 _ rfl
 clear b0 b2 hsW
 go_enter Tryz.func96, Tryz.ntmps96
 go_wp2
 rw [hW.out]
 exact bodyPost_ret (v := .agg #[.int .i64 x, .int .i64 y]) (by simp [results, Tryz.results96, go_sem, q0, q1]) rfl ⟨rfl, hbW⟩
theorem zero_cellsH (n : Nat) : (madeCells #[.int .i64 0, .int .i64 0] (n * 2)).toList = cellsH (List.replicate n zeroH) := by
 apply List.ext_getElem?
 intro i
 by_cases h : i < n * 2
 ·have e := cellsH_at (List.replicate n zeroH) (i / 2) (i % 2) (by simp; omega) (Nat.mod_lt _ (by omega))
  rw [show i / 2 * 2 + i % 2 = i by omega] at e
  rw [e]
  have hg : (List.replicate n zeroH).getD (i / 2) zeroH = zeroH := by simp [List.getD, show i / 2 < n by omega]
  rw [hg]
  simp only [madeCells, Array.toList_map, List.getElem?_map, Array.toList_range, List.getElem?_range h, Option.map_some, HoldV.cells, zeroH]
  have : i % 2 < 2 := Nat.mod_lt _ (by omega)
  show some (#[Value.int .i64 0, .int .i64 0][i % 2]!) = _
  rcases (by omega : i % 2 = 0 ∨ i % 2 = 1) with h' | h' <;> rw [h'] <;> rfl
 ·rw [List.getElem?_eq_none (by simp [size_madeCells]; omega), List.getElem?_eq_none (by rw [cellsH_len]; simp; omega)]
theorem made_hold (n : Nat) : (madeCells (Value.agg #[.int .i64 0, .int .i64 0]).cells (n * 2)).toList = cellsH (List.replicate n zeroH) := zero_cellsH n
def partH (ls : List HoldV) (k : Nat) : List HoldV := ls.take k ++ List.replicate (ls.length - k) zeroH
theorem partH_len (ls : List HoldV) (k : Nat) (h : k ≤ ls.length) : (partH ls k).length = ls.length := by simp [partH]; omega
theorem partH_all (ls : List HoldV) : partH ls ls.length = ls := by simp [partH]
theorem partH_none (ls : List HoldV) : partH ls 0 = List.replicate ls.length zeroH := by simp [partH]
theorem partH_set (ls : List HoldV) (k : Nat) (h : k < ls.length) : (partH ls k).set k (ls.getD k zeroH) = partH ls (k + 1) := by
 unfold partH
 rw [List.set_append, if_neg (by simp; omega), List.take_succ_eq_append_getElem h]
 have e : ls.length - k = (ls.length - (k + 1)) + 1 := by omega
 have e2 : k - (List.take k ls).length = 0 := by simp; omega
 rw [e2, e, List.replicate_succ, List.set_cons_zero]
 simp only [List.getD, h, List.getElem?_eq_getElem, Option.getD_some, List.append_assoc, List.singleton_append]
theorem toHoldS_any (a : Option Addr) (cap : Nat) (ls : List HoldV) (w : World) (hr : ReadsH w a ls) (hl : ls.length ≤ 1099511627776) :
  Calls Tryz.prog 40 #[.slice a ls.length cap] w fun e w' => ∃ a' c', e = .returned (.slice a' ls.length c') ∧ OwnH w' w.heap.size w'.heap.size a' c' ls ∧ Below w.heap.size w w' := by
 obtain ⟨i0, hi, hz0, hz1, hz2⟩ := info_parts Tryz.infoHold
 rcases hr.cases with rfl | ⟨b, off, rfl, hpos, hcell⟩
 ·go_enter Tryz.func40, Tryz.ntmps40
  go_wp2_with (at_make; refine wpList_make_full _ rfl _ _ 57 rfl w.heap.size 132 i0 (.agg #[.int .i64 0, .int .i64 0]) 2 Tryz.underlying57 hi hz0 hz1 _ _ _ _ 0 rfl rfl (by simp) (by simp) (by omega) (by simp [maxLen]) (Nat.le_refl _) ?_)
  intro w0 hown0 hgrow0
  go_wp2
  refine wp_loop_rounds 1 ?_
  rw [rounds_succ]
  go_wp2
  go_ret
  have ho : w0.ownsRow w.heap.size 132 2 (.slice (some ⟨w.heap.size, 0, none⟩) 0 0) 0 (cellsH []) := by
   have e := made_hold 0
   simp only [List.replicate_zero] at e
   rw [← e]
   exact hown0
  exact ⟨_, _, rfl, ⟨ho, Nat.le_refl _, fun k hk => (ho.lt k hk).2⟩, (Below.refl _ _).grown hgrow0 (Nat.le_refl _) (fun k h => by cases h)⟩
 ·have hbB : b < w.heap.size := block_lt (hcell 0 hpos).1
  go_enter Tryz.func40, Tryz.ntmps40
  go_wp2_with (at_make; refine wpList_make_full _ rfl _ _ 57 rfl w.heap.size 132 i0 (.agg #[.int .i64 0, .int .i64 0]) 2 Tryz.underlying57 hi hz0 hz1 _ _ _ _ ls.length rfl rfl rfl rfl (by rw [hz2]; omega) (by simp [maxLen]; omega) (Nat.le_refl _) ?_)
  intro w0 hown0 hgrow0
  have hown1 : w0.ownsRow w.heap.size 132 2 (.slice (some ⟨w.heap.size, 0, none⟩) ls.length ls.length) ls.length (cellsH (partH ls 0)) := by
   rw [partH_none, ← made_hold]
   exact hown0
  have hb0 : Below w.heap.size w w0 := (Below.refl _ _).grown hgrow0 (Nat.le_refl _) (fun k h => by cases h)
  clear hown0 hgrow0
  go_wp2
  go_loopw [4] (fun i wr => ∃ k : Nat, k ≤ ls.length ∧ i = .int .i64 k ∧ wr.ownsRow w.heap.size 132 2 (.slice (some ⟨w.heap.size, 0, none⟩) ls.length ls.length) ls.length (cellsH (partH ls k)) ∧ Below w.heap.size w wr)
   (fun i _ => ls.length - (intOf i).toNat)
  case atStart => exact ⟨0, Nat.zero_le _, rfl, hown1, hb0⟩
  case round =>
   obtain ⟨k, hk, rfl, hown, hnx⟩ := hrel
   by_cases hlt : k < ls.length
   ·obtain ⟨c0, c1⟩ := hcell k hlt
    have d0 : wr.cell? ⟨b, off + k * 2, none⟩ = _ := (hnx.cell (by exact hbB)).trans c0
    have d1 : wr.cell? ⟨b, off + k * 2 + 1, none⟩ = _ := (hnx.cell (by exact hbB)).trans c1
    have hp := partH_len ls k hk
    have HSET : Hid ((partH ls k).set k (ls.getD k zeroH) = partH ls (k + 1)) := partH_set ls k hlt
    clear c0 c1 hcell hown1 hb0
    generalize ls.getD k zeroH = z at *
    have C := toHold_any z wr
    simp only [HoldV.cells] at C
    go_wp2_with fail
    refine C.mono ?_
    clear C d0 d1
    rintro e w1 ⟨rfl, hb1⟩
    have hownA := ownsRow_block hown (fun j hj => hb1.block j (hown.lt j hj).2)
    obtain ⟨x0, x1, hfz⟩ := row_hold hownA hp k hlt
    have f0 := hfz (k * 2)
    have f1 := hfz (k * 2 + 1)
    obtain ⟨W2, hW2, ho2, hg2⟩ := row_storeH hownA hp k hlt z
    rw [HSET.out] at ho2
    have hB2 : Below w.heap.size w W2 := (hnx.trans (hb1.mono hnx.size)).grown hg2 (by have := hnx.size; have := hb1.size; omega) (fun j hj => by cases hj; omega)
    have HH : Hid (_ ∧ _) := ⟨ho2, hB2⟩
    clear ho2 hB2 hg2 hfz hownA hown hb1 hnx HSET
    generalize (partH ls k).getD k zeroH = old at *
    go_wp2_with fail
    rw [hW2.out]
    go_roundw
    case rel => exact ⟨k + 1, by omega, by go_num, HH.out.1, HH.out.2⟩
    case measure => simp [intOf]; omega
   ·have HE : Hid (wr.ownsRow w.heap.size 132 2 (.slice (some ⟨w.heap.size, 0, none⟩) ls.length ls.length) ls.length (cellsH ls)) := by
     have e : k = ls.length := by omega
     rw [e, partH_all] at hown
     exact hown
    go_wp2
    go_ret
    exact ⟨_, _, rfl, ⟨HE.out, Nat.le_refl _, fun k hk => (HE.out.lt k hk).2⟩, hnx⟩
theorem eqHold_same (l : HoldV) (w : World) :
  Calls Tryz.prog 110 #[.agg l.cells.toArray, .agg l.cells.toArray] w fun e w' => e = .returned (.bool true) ∧ Below w.heap.size w w' := by
 obtain ⟨x, y⟩ := l
 simp only [HoldV.cells]
 obtain ⟨W, hW, b0, b1, hbW, hsW⟩ := boxes2 w [.int .i64 x, .int .i64 y] [.int .i64 x, .int .i64 y] 132 132
 clear b0 b1 hsW
 go_enter Tryz.func110, Tryz.ntmps110
 go_wp2
 rw [hW.out]
 go_ret
 exact ⟨rfl, hbW⟩
theorem eqHoldS_same (a b : Option Addr) (ca cb : Nat) (ls : List HoldV) (w : World) (ha : ReadsH w a ls) (hb : ReadsH w b ls) (hl : ls.length ≤ 1099511627776) :
  Calls Tryz.prog 53 #[.slice a ls.length ca, .slice b ls.length cb] w fun e w' => e = .returned (.bool true) ∧ Below w.heap.size w w' := by
 rcases ha.cases with rfl | ⟨b1, o1, rfl, hpos, hc1⟩
 ·go_enter Tryz.func53, Tryz.ntmps53
  go_wp2
  refine wp_loop_rounds 1 ?_
  rw [rounds_succ]
  go_wp2
  go_ret
  exact ⟨rfl, Below.refl _ _⟩
 ·rcases hb.cases with rfl | ⟨b2, o2, rfl, _, hc2⟩
  ·simp at hpos
  ·go_enter Tryz.func53, Tryz.ntmps53
   go_wp2
   go_loopw [5] (fun i wr => ∃ k : Nat, k ≤ ls.length ∧ i = .int .i64 k ∧ Below w.heap.size w wr) (fun i _ => ls.length - (intOf i).toNat)
   case atStart => exact ⟨0, Nat.zero_le _, rfl, Below.refl _ _⟩
   case round =>
    obtain ⟨k, hk, rfl, hbl⟩ := hrel
    by_cases hlt : k < ls.length
    ·have h1 := hc1 k hlt
     have h2 := hc2 k hlt
     clear hc1 hc2
     generalize ls.getD k zeroH = z at *
     have HS : Hid (∀ w1, Below w.heap.size w w1 → (w1.cell? ⟨b1, o1 + k * 2, none⟩ = some (.int .i64 z.tx) ∧ w1.cell? ⟨b1, o1 + k * 2 + 1, none⟩ = some (.int .i64 z.oid)) ∧ (w1.cell? ⟨b2, o2 + k * 2, none⟩ = some (.int .i64 z.tx) ∧ w1.cell? ⟨b2, o2 + k * 2 + 1, none⟩ = some (.int .i64 z.oid))) := fun w1 hh =>
      ⟨⟨(hh.cell (block_lt h1.1)).trans h1.1, (hh.cell (block_lt h1.2)).trans h1.2⟩, (hh.cell (block_lt h2.1)).trans h2.1, (hh.cell (block_lt h2.2)).trans h2.2⟩
     have hh := HS.out wr hbl
     clear h1 h2
     go_wp2_with fail
     go_region_held3 (fun w1 => (w1.cell? ⟨b1, o1 + k * 2, none⟩ = some (.int .i64 z.tx) ∧ w1.cell? ⟨b1, o1 + k * 2 + 1, none⟩ = some (.int .i64 z.oid)) ∧ (w1.cell? ⟨b2, o2 + k * 2, none⟩ = some (.int .i64 z.tx) ∧ w1.cell? ⟨b2, o2 + k * 2 + 1, none⟩ = some (.int .i64 z.oid)))
      (first | exact HS.out _ hw2 | go_keep | fail)
      ((first | (go_at_call 110; refine (eqHold_same z _).mono ?_; rintro e w2 ⟨rfl, hb2⟩; have hw2 : Below w.heap.size w w2 := (hbl.drew).trans (hb2.mono hbl.size)) | fail))
     all_goals
      go_wp2_with fail
      go_roundw
      case rel => exact ⟨k + 1, by omega, by go_num, hw2⟩
      case measure => simp [intOf]; omega
    ·go_wp2
     go_ret
     exact ⟨rfl, hbl⟩
def markH1 (k0 : Int) (i : Nat) : HoldV := ⟨k0 + 2 * i, k0 + 2 * i + 1⟩
def marksH (k0 : Int) (n : Nat) : List HoldV := (List.range n).map fun i : Nat => markH1 k0 i
theorem marksH_len (k0 : Int) (n : Nat) : (marksH k0 n).length = n := by simp [marksH]
theorem run_append_ints {w : World} (ty : TypeId) (lo hi : Nat) (a : Option Addr) (c : Nat) (xs : List Int) (hown : OwnI w lo hi a c xs)
  (sa : Option Addr) (sc : Nat) (zs : List Int) (hr : ReadsI w sa zs) (hc : sa = none → sc = 0) (hb : xs.length + zs.length ≤ 1099511627776) (hlo : lo ≤ w.heap.size) :
  ∃ a' c' ys w', (Builtin.append_ #[22, 22] ty #[.slice a xs.length c, .slice sa zs.length sc]).run Tryz.prog w = .ok (.slice a' ys.length c') w' ∧ Hid (ys = xs ++ zs) ∧ OwnI w' lo w'.heap.size a' c' ys ∧ w.grownBy w' (Value.slice a xs.length c).ownBlock ∧
   (∀ k, (Value.slice a' ys.length c').ownBlock = some k → (Value.slice a xs.length c).ownBlock = some k ∨ k = w.heap.size) := by
 obtain ⟨i0, hi0, hz0, hz1, hz2⟩ := info_parts Tryz.infoInt
 cases sa with
 | none =>
  have hz : zs = [] := by
   by_cases e : zs = []
   ·exact e
   ·obtain ⟨b, off, hh, _⟩ := hr e
    cases hh
  subst hz
  have := hc rfl
  subst this
  refine ⟨a, c, xs, w, run_append_owned_none (P := Tryz.prog) (w := w) lo 22 ty 3 i0 1 Tryz.underlying22 hi0 _ _ _ hown.1, (by simp [Hid]), ⟨hown.1, Nat.le_refl _, fun k hk => (hown.1.lt k hk).2⟩, World.grownBy.refl _ _, fun k hk => .inl hk⟩
 | some ad =>
  obtain ⟨v', w', h1, h2, h3, _, h5⟩ := run_append_own_at (P := Tryz.prog) w lo 22 ty 3 i0 (.int .i64 0) 1 8 Tryz.underlying22 hi0 hz0 hz1 hz2 rfl (by decide) _ _ _ hown.1 ad zs.length sc (zs.map (Value.int .i64)) (by simp) (by
   intro j u hj
   have hjl : j < zs.length := by
    by_cases e : j < zs.length
    ·exact e
    ·simp [List.getElem?_eq_none (Nat.le_of_not_lt e)] at hj
   have hne : zs ≠ [] := by intro e; simp [e] at hjl
   obtain ⟨b, off, hh, hcell⟩ := hr hne
   cases hh
   rw [Addr_add, hcell j hjl]
   simpa [hjl] using hj) (ints_oneCell _ _) (by simp only [maxLen]; omega) (by omega) hlo
  rw [← List.map_append, ← List.length_append] at h2
  have sh : ∃ a' c', v' = .slice a' (xs ++ zs).length c' := by
   rcases h2.2 with ⟨rfl, h0⟩ | ⟨g, cap, cur, rfl, _⟩
   ·exact ⟨none, 0, by rw [h0]⟩
   ·exact ⟨_, _, rfl⟩
  obtain ⟨a', c', rfl⟩ := sh
  refine ⟨a', c', xs ++ zs, w', h1, rfl, ⟨h2, Nat.le_refl _, fun k hk => (h2.lt k hk).2⟩, h3, fun k hk => ?_⟩
  rcases h5 with h5 | h5
  ·exact .inl (by rw [← h5]; exact hk)
  ·rw [h5] at hk
   exact .inr (Option.some.inj hk).symm
structure ObjAt (w : World) (lo Bo : Nat) (o : ObjV) (aI : Option Addr) (cI : Nat) (aR : Option Addr) (cR : Nat) : Prop where
 box : Box w Bo [.int .i64 o.kind, .slice aI o.ints.length cI, .slice aR o.refs.length cR] 43
 own : OwnO w lo w.heap.size aI cI aR cR o
 lt : Bo < lo
theorem ObjAt.three {w : World} {lo Bo : Nat} {aI : Option Addr} {cI : Nat} {aR : Option Addr} {cR : Nat} {o : ObjV} (h : ObjAt w lo Bo o aI cI aR cR) :
  w.cell? ⟨Bo, 0, none⟩ = some (.int .i64 o.kind) ∧ w.cell? ⟨Bo, 1, none⟩ = some (.slice aI o.ints.length cI) ∧ w.cell? ⟨Bo, 2, none⟩ = some (.slice aR o.refs.length cR) ∧ w.frozen? ⟨Bo, 0, none⟩ = false ∧ w.frozen? ⟨Bo, 1, none⟩ = false ∧ w.frozen? ⟨Bo, 2, none⟩ = false := h.box.three
def markL1 (k0 : Int) (i : Nat) : LiveV := ⟨k0 + 3 * i, k0 + 3 * i + 1, ((k0 + 3 * i + 1 + 1) % 3 == 0)⟩
def marksL (k0 : Int) (n : Nat) : List LiveV := (List.range n).map fun i : Nat => markL1 k0 i
theorem marksL_len (k0 : Int) (n : Nat) : (marksL k0 n).length = n := by simp [marksL]
def RecA.mark (r : RecA) (k : Int) : RecA := { r with bf := r.bf.mark k, af := r.af.mark (k + r.bf.count), txs := marksL (k + r.bf.count + r.af.count) r.txs.length }
def RecA.count (r : RecA) : Nat := r.bf.count + r.af.count + 3 * r.txs.length
end Go.Proofs.YtoboickdkednkabGreatDoor
namespace Go.Proofs.YtoboickdkednkabGreatDoor
open Go.RowKit Go.Maps Go.MapKept
structure ClaimV where
 key : Int
 tx : Int
 place : Int
def ClaimV.ent (m : ClaimV) : Value × Value := (.int .i64 m.key, .agg #[.int .i64 m.tx, .int .i64 m.place])
def MapAt (w : World) (B : Nat) (ms : List ClaimV) : Prop := ∃ es clock, w.heap[B]? = some (.map es clock) ∧ es.toList.map (fun e => (e.key, e.val)) = ms.map ClaimV.ent
def findC (k : Int) : List ClaimV → Nat → Option (Nat × Value)
 | [], _ => none
 | m :: r, i => if k = m.key then some (i, m.ent.2) else findC k r (i + 1)
def putC (c : ClaimV) : List ClaimV → List ClaimV
 | [] => [c]
 | m :: r => if c.key = m.key then c :: r else m :: putC c r
def getC (k : Int) : List ClaimV → Option ClaimV
 | [] => none
 | m :: r => if k = m.key then some m else getC k r
theorem MapAt.lt {w : World} {B : Nat} {ms : List ClaimV} (h : MapAt w B ms) : B < w.heap.size := by
 obtain ⟨es, clock, hb, _⟩ := h
 rcases Nat.lt_or_ge B w.heap.size with h | h
 ·exact h
 ·rw [Array.getElem?_eq_none h] at hb; cases hb
theorem MapAt.below {w w' : World} {B : Nat} {ms : List ClaimV} (h : MapAt w B ms) (hb : Below w.heap.size w w') : MapAt w' B ms := by
 have hl := h.lt
 obtain ⟨es, clock, h1, h2⟩ := h
 exact ⟨es, clock, by rw [hb.block B hl]; exact h1, h2⟩
theorem MapAt.touch {w w' : World} {B : Nat} {ms : List ClaimV} {bl : List Nat} (h : MapAt w B ms) (ht : Touch bl w w') (hn : B ∉ bl) : MapAt w' B ms := by
 have hl := h.lt
 obtain ⟨es, clock, h1, h2⟩ := h
 exact ⟨es, clock, by rw [ht.block B hl hn]; exact h1, h2⟩
theorem mapAt_made (w : World) : MapAt (w.alloc (.map #[] 0)) w.heap.size [] := ⟨#[], 0, (heap_alloc w _).1, rfl⟩
theorem findNow_c (k : Int) : ∀ (ms : List ClaimV) (l : List MapEntry) (i : Nat), l.map (fun e => (e.key, e.val)) = ms.map ClaimV.ent → Instr.findNow (.int .i64) (.int .i64 k) l i = some (findC k ms i) := by
 intro ms
 induction ms with
 | nil => intro l i h; cases l with
  | nil => rfl
  | cons e r => simp at h
 | cons m r ih =>
  intro l i h
  cases l with
  | nil => simp at h
  | cons e q =>
   simp only [List.map_cons, List.cons.injEq, ClaimV.ent, Prod.mk.injEq] at h
   obtain ⟨⟨h1, h2⟩, h3⟩ := h
   have h4 := ih q (i + 1) (by simpa [ClaimV.ent] using h3)
   rw [Instr.findNow, h1, findC]
   by_cases hk : k = m.key
   ·subst hk
    simp [Instr.sameNow, h2, ClaimV.ent]
   ·have hkb : (k == m.key) = false := by simpa using hk
    simp [Instr.sameNow, hk, h4, hkb]
theorem findC_cases (k : Int) : ∀ (ms : List ClaimV) (i : Nat), (findC k ms i = none ∧ getC k ms = none ∧ ∀ c : ClaimV, c.key = k → putC c ms = ms ++ [c]) ∨ ∃ (j : Nat) (m : ClaimV), ms[j]? = some m ∧ m.key = k ∧ findC k ms i = some (i + j, m.ent.2) ∧ getC k ms = some m ∧ ∀ c : ClaimV, c.key = k → putC c ms = ms.set j c := by
 intro ms
 induction ms with
 | nil => intro i; exact .inl ⟨rfl, rfl, fun c hc => rfl⟩
 | cons m r ih =>
  intro i
  by_cases hk : k = m.key
  ·refine .inr ⟨0, m, rfl, hk.symm, by rw [findC, if_pos hk]; rfl, by rw [getC, if_pos hk], fun c hc => ?_⟩
   rw [putC, if_pos (by rw [hc, hk]), List.set_cons_zero]
  ·rcases ih (i + 1) with ⟨h1, h2, h3⟩ | ⟨j, n, h1, h2, h3, h4, h5⟩
   ·exact .inl ⟨by rw [findC, if_neg hk]; exact h1, by rw [getC, if_neg hk]; exact h2, fun c hc => by rw [putC, if_neg (by rw [hc]; exact hk), h3 c hc]; rfl⟩
   ·refine .inr ⟨j + 1, n, by simpa using h1, h2, by rw [findC, if_neg hk, h3]; congr 2; omega, by rw [getC, if_neg hk]; exact h4, fun c hc => ?_⟩
    rw [putC, if_neg (by rw [hc]; exact hk), h5 c hc, List.set_cons_succ]
theorem isKey_int (k : Int) : IsKey (.int .i64) (.int .i64 k) := rfl
theorem kv_modify (l : List MapEntry) (j : Nat) (f : MapEntry → MapEntry) (v : Value × Value) (hf : ∀ e, ((f e).key, (f e).val) = v) : (l.modify j f).map (fun e => (e.key, e.val)) = (l.map (fun e => (e.key, e.val))).set j v := by
 induction l generalizing j with
 | nil => simp
 | cons e r ih =>
  cases j with
  | zero => simp [hf]
  | succ j => simp [ih j]
theorem run_update_c {w : World} {B : Nat} {ms : List ClaimV} (h : MapAt w B ms) (c : ClaimV) :
  ∃ w', (Instr.mapUpdate 142 (.map (some B)) (.int .i64 c.key) (.agg #[.int .i64 c.tx, .int .i64 c.place])).run Tryz.prog w = .ok () w' ∧ MapAt w' B (putC c ms) ∧ w.grownBy w' (some B) := by
 obtain ⟨es, clock, hb, he⟩ := h
 have hck := run_checkKey (P := Tryz.prog) (w := w) Tryz.underlying3 (isKey_int c.key) false 9999
 have hfd := run_findKey (P := Tryz.prog) (w := w) (kt := 3) Tryz.underlying3 (findNow_c c.key ms es.toList 0 he)
 have hgo : (getObj B).run Tryz.prog w = .ok (.map es clock) w := by simp [getObj, Sem.run, hb]
 have hgr : ∀ o : Obj, w.grownBy { w with heap := w.heap.setIfInBounds B o } (some B) := fun o => ⟨rfl, rfl, rfl, by simp, fun i _ hi => (heap_set hb).2 i (fun e => hi (by rw [e]))⟩
 rcases findC_cases c.key ms 0 with ⟨h1, _, h3⟩ | ⟨j, m, h1, h2, h3, _, h5⟩
 ·rw [h1] at hfd
  refine ⟨{ w with heap := w.heap.setIfInBounds B (.map (es.push { key := .int .i64 c.key, val := .agg #[.int .i64 c.tx, .int .i64 c.place], born := clock }) (clock + 1)) }, ?_, ⟨_, _, (heap_set hb).1, ?_⟩, hgr _⟩
  ·simp only [Instr.mapUpdate, Sem.run_bind, run_underlying Tryz.underlying142, Result.andThen, hgo, hck, hfd, run_setObj_map _ hb]
  ·rw [h3 c rfl, Array.toList_push, List.map_append, List.map_append, he]; rfl
 ·rw [h3] at hfd
  have hold : ((es[0 + j]?).map (·.key)).getD (.int .i64 c.key) = .int .i64 c.key := by
   have e := congrArg (fun l => l[j]?) he
   simp only [List.getElem?_map, h1, Option.map_some, ClaimV.ent] at e
   rw [Nat.zero_add]
   rw [← Array.getElem?_toList]
   cases hq : es.toList[j]? with
   | none => rfl
   | some x =>
    rw [hq] at e
    simp only [Option.map_some, Option.some.injEq, Prod.mk.injEq] at e
    simp [e.1, h2]
  have hst : (Instr.keyThatStays (.int .i64 c.key) (.int .i64 c.key)).run Tryz.prog w = .ok (.int .i64 c.key) w := by
   have : Instr.sameBits 10000 (.int .i64 c.key) (.int .i64 c.key) = true := by simp [Instr.sameBits]
   simp [Instr.keyThatStays, this]
  refine ⟨{ w with heap := w.heap.setIfInBounds B (.map (es.modify (0 + j) fun e => { e with key := .int .i64 c.key, val := .agg #[.int .i64 c.tx, .int .i64 c.place] }) clock) }, ?_, ⟨_, _, (heap_set hb).1, ?_⟩, hgr _⟩
  ·simp only [Instr.mapUpdate, Sem.run_bind, run_underlying Tryz.underlying142, Result.andThen, hgo, hck, hfd, hold, hst, run_setObj_map _ hb]
  ·rw [h5 c rfl, Array.toList_modify, kv_modify _ _ _ c.ent (fun e => rfl), he, List.map_set, Nat.zero_add]
theorem run_len_c {w : World} {B : Nat} {ms : List ClaimV} (h : MapAt w B ms) (ty : TypeId) : (Builtin.len_ #[142] ty #[.map (some B)]).run Tryz.prog w = .ok (.int .i64 (ms.length : Int)) w := by
 obtain ⟨es, clock, hb, he⟩ := h
 have hgo : (getObj B).run Tryz.prog w = .ok (.map es clock) w := by simp [getObj, Sem.run, hb]
 have hl : es.size = ms.length := by have := congrArg List.length he; simpa using this
 simp [Builtin.len_, run_underlying Tryz.underlying142, Result.andThen, hgo, hl]
 rfl
end Go.Proofs.YtoboickdkednkabGreatDoor
namespace Go.Proofs.YtoboickdkednkabGreatDoor
open Go.RowKit Go.Maps Go.MapKept
def claimsTo (hs : List HoldV) : Nat → List ClaimV
 | 0 => []
 | k + 1 => putC ⟨(hs.getD k zeroH).oid, (hs.getD k zeroH).tx, (k : Int)⟩ (claimsTo hs k)
theorem putC_len (c : ClaimV) (ms : List ClaimV) : (putC c ms).length = if (getC c.key ms).isSome then ms.length else ms.length + 1 := by
 rcases findC_cases c.key ms 0 with ⟨_, h2, h3⟩ | ⟨j, m, _, _, _, h4, h5⟩
 ·rw [h2, h3 c rfl]; simp
 ·rw [h4, h5 c rfl]; simp
theorem getC_put (k : Int) (c : ClaimV) (ms : List ClaimV) : getC k (putC c ms) = if k = c.key then some c else getC k ms := by
 induction ms with
 | nil => simp only [putC, getC]
 | cons m r ih =>
  rw [putC]
  by_cases h : c.key = m.key
  ·rw [if_pos h, getC, getC]
   by_cases h2 : k = c.key
   ·rw [if_pos h2, if_pos h2]
   ·rw [if_neg h2, if_neg h2, if_neg (by rw [← h]; exact h2)]
  ·rw [if_neg h, getC, getC, ih]
   by_cases h2 : k = m.key
   ·rw [if_pos h2, if_pos h2, if_neg (by rw [h2]; exact fun e => h e.symm)]
   ·rw [if_neg h2, if_neg h2]
theorem claims_none (hs : List HoldV) (k : Int) : ∀ n, getC k (claimsTo hs n) = none ↔ ∀ j, j < n → (hs.getD j zeroH).oid ≠ k := by
 intro n
 induction n with
 | zero => exact ⟨fun _ j hj => by omega, fun _ => rfl⟩
 | succ n ih =>
  rw [claimsTo, getC_put]
  by_cases h : k = (hs.getD n zeroH).oid
  ·rw [if_pos h]
   exact ⟨fun h => (by cases h), fun h2 => absurd h.symm (h2 n (by omega))⟩
  ·rw [if_neg h, ih]
   refine ⟨fun h2 j hj => ?_, fun h2 j hj => h2 j (by omega)⟩
   by_cases e : j = n
   ·rw [e]; exact fun q => h q.symm
   ·exact h2 j (by omega)
theorem claims_len_le (hs : List HoldV) : ∀ n, (claimsTo hs n).length ≤ n := by
 intro n
 induction n with
 | zero => exact Nat.le_refl _
 | succ n ih => rw [claimsTo, putC_len]; split <;> omega
theorem claims_len (hs : List HoldV) : ∀ n, (claimsTo hs n).length = n ↔ ∀ i, i < n → ∀ j, j < i → (hs.getD j zeroH).oid ≠ (hs.getD i zeroH).oid := by
 intro n
 induction n with
 | zero => exact ⟨fun _ i hi => by omega, fun _ => rfl⟩
 | succ n ih =>
  have hle := claims_len_le hs n
  rw [claimsTo, putC_len]
  simp only
  cases hg : getC (hs.getD n zeroH).oid (claimsTo hs n) with
  | none =>
   have hd := (claims_none hs _ n).1 hg
   simp only [Option.isSome_none, Bool.false_eq_true, if_false]
   constructor
   ·intro h i hi j hj
    by_cases e : i = n
    ·subst e; exact hd j hj
    ·exact ih.1 (by omega) i (by omega) j hj
   ·intro h
    rw [ih.2 (fun i hi j hj => h i (by omega) j hj)]
  | some m =>
   simp only [Option.isSome_some, if_true]
   constructor
   ·intro h; omega
   ·intro h
    have : getC (hs.getD n zeroH).oid (claimsTo hs n) = none := (claims_none hs _ n).2 (fun j hj => h n (by omega) j hj)
    rw [hg] at this; cases this
theorem wpList_update_c {w : World} {ops : Array Oper} {rest : List Oper} {o : Oper} {a : Act} {Q : Exit → Act → World → Prop} (hg : o.guard = none) (m x v : Operand) (hop : o.op = Op.mapUpdate 142 m x v)
  (B : Nat) (ms : List ClaimV) (c : ClaimV) (hm : a.eval m = .map (some B)) (hx : a.eval x = .int .i64 c.key) (hv : a.eval v = .agg #[.int .i64 c.tx, .int .i64 c.place]) (h : MapAt w B ms)
  (hK : ∀ w', MapAt w' B (putC c ms) → w.grownBy w' (some B) → wpList Tryz.prog ops Q rest (a.put o.dst undef) w') : wpList Tryz.prog ops Q (o :: rest) a w := by
 refine wpList_plain hg fun K' hK' => ?_
 obtain ⟨w', hrun, r1, r2⟩ := run_update_c h c
 unfold Oper.wp
 simp [execOp, hop, hm, hx, hv, hrun, Result.andThen]
 exact hK' _ _ (hK w' r1 r2)
theorem claimsOf_any (a : Option Addr) (cap : Nat) (hs : List HoldV) (w : World) (hr : ReadsH w a hs) (hl : hs.length ≤ 1099511627776) :
  Calls Tryz.prog 105 #[.slice a hs.length cap] w fun e w' => e = .returned (.map (some w.heap.size)) ∧ MapAt w' w.heap.size (claimsTo hs hs.length) ∧ Below w.heap.size w w' := by
 have hmm := @run_makeMap Tryz.prog
 obtain ⟨W, hW⟩ : ∃ W, Hid (w.alloc (.map #[] 0) = W) := ⟨_, rfl⟩
 have m0 : MapAt W w.heap.size [] := by rw [← hW.out]; exact mapAt_made w
 have hbW : Below w.heap.size w W := by rw [← hW.out]; exact (Below.refl _ _).alloc (Nat.le_refl _) _
 have HR : Hid (ReadsH w a hs) := hr
 clear hr
 go_enter Tryz.func105, Tryz.ntmps105
 go_wp2_with fail
 rw [hW.out]
 clear hW
 go_loopw [9] (fun i wr => ∃ k : Nat, k ≤ hs.length ∧ i = .int .i64 (k : Int) ∧ MapAt wr w.heap.size (claimsTo hs k) ∧ Below w.heap.size w wr) (fun i _ => hs.length - (intOf i).toNat)
 case atStart => exact ⟨0, Nat.zero_le _, rfl, m0, hbW⟩
 case round =>
  obtain ⟨k, hk, rfl, hm, hnx⟩ := hrel
  clear m0 hbW
  by_cases hlt : k < hs.length
  ·obtain ⟨b, off, rfl, hc⟩ := (HR.out.below hnx) (by intro e; rw [e] at hlt; simp at hlt)
   obtain ⟨c0, c1⟩ := hc k hlt
   have HP : Hid (claimsTo hs (k + 1) = putC ⟨(hs.getD k zeroH).oid, (hs.getD k zeroH).tx, (k : Int)⟩ (claimsTo hs k)) := rfl
   clear hc
   generalize hs.getD k zeroH = h at *
   obtain ⟨V, hV, bV, hbV, hsV⟩ := boxes1 wr [.int .i64 h.tx, .int .i64 h.oid] 132
   have hmV := hm.below hbV
   have hnV := hnx.trans (hbV.mono hnx.size)
   have hln : w.heap.size < V.heap.size := hmV.lt
   have x0 := bV.cell 0 _ rfl
   have x1 := bV.cell 1 _ rfl
   clear hm hnx hbV hsV bV
   go_upto_region 5 with fail
   rw [hV.out]
   clear hV c0 c1
   go_wp2_with (first | (at_mapUpdate; refine wpList_update_c rfl _ _ _ rfl w.heap.size (claimsTo hs k) ⟨h.oid, h.tx, (k : Int)⟩ rfl rfl rfl hmV ?_; intro w5 hm5 hg5) | fail)
   have HM5 : Hid (MapAt w5 w.heap.size (claimsTo hs (k + 1)) ∧ Below w.heap.size w w5) := by
    rw [HP.out]
    exact ⟨hm5, hnV.grown hg5 hnV.size (fun j hj => by cases hj; exact Nat.le_refl _)⟩
   clear hm5 hg5 hmV hnV HP x0 x1
   go_wp2_with fail
   go_roundw
   case rel => exact ⟨k + 1, by omega, by go_num, HM5.out.1, HM5.out.2⟩
   case measure => simp [intOf]; omega
  ·have e : k = hs.length := by omega
   have HE : Hid (MapAt wr w.heap.size (claimsTo hs hs.length)) := by rw [e] at hm; exact hm
   clear e
   go_wp2
   go_ret
   exact ⟨rfl, HE.out, hnx⟩
end Go.Proofs.YtoboickdkednkabGreatDoor
namespace Go.Proofs.YtoboickdkednkabGreatDoor
open Go.RowKit
theorem wpList_load_mid_if {ops : Array Oper} {rest : List Oper} {op : Oper} {a : Act} {w : World} {Q : Exit → Act → World → Prop} {P : Program} (hw : Region.wanted op (yielded ops a.tmps) = true) (ty : TypeId) (x : Operand) (ho : op.op = .load ty x)
  (b o : Nat) (hx : a.eval x = .pointer (some ⟨b, o, none⟩)) (cs : List Value) (d : TypeDesc) (hc : w.rangeAt b o cs)
  (hu : P.underlying ty = some d) (hd : d.isRow = true) (hi : (P.info? ty).map (·.size) = some cs.length)
  (h : wpList P ops Q rest (a.put op.dst (.agg cs.toArray)) w) : wpList P ops Q (op :: rest) a w :=
 wpList_step fun _ hK => by
  simp only [hw, if_true]
  exact wp_load_mid ty x ho b o hx cs d hc hu hd hi (hK _ _ h)
theorem page_out {w : World} {C : Nat} {T : TypeId} {d : TypeDesc} (q : PageA) (hq : q.ss.length = 4) (old : List Value) (ho : old.length = 17) (bC : Box w C old T) (hu : Tryz.prog.underlying T = some d) (hd : d.isRow = true) (hi : (Tryz.prog.info? T).map (·.size) = some 17) :
  ∃ WF, Hid (w.setCells C 0 q.cells = WF) ∧ Within C (C + 1) w WF ∧ WF.heap.size = w.heap.size ∧ Hid (w.there C 0 q.cells.toArray.size) ∧ Hid ((loadVar T ⟨C, 0, none⟩).run Tryz.prog WF = .ok (.agg q.cells.toArray) WF) ∧ Box WF C q.cells T := by
 have hl : q.cells.length = 17 := page_len q hq
 obtain ⟨WF, hWF, bF, hwF, hsF⟩ := range_fill [] old q.cells [] (by simpa using bC) (by rw [hl, ho])
 have bF' : Box WF C q.cells T := by simpa using bF
 refine ⟨WF, hWF, hwF, hsF, bC.there 0 _ (by rw [List.size_toArray, hl, ho]; omega), ?_, bF'⟩
 exact run_loadVar_mid (P := Tryz.prog) WF C 0 T q.cells d (Box.range [] q.cells [] (by simpa using bF')) hu hd (by rw [hi, hl])
end Go.Proofs.YtoboickdkednkabGreatDoor