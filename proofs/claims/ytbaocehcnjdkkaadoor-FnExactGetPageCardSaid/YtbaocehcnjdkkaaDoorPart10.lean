/- Several texts in one, in their order. -/
import Derived.Test.YtbaocehcnjdkkaaDoorPart9
import Derived.Deep.MidRow
import Derived.Deep.RegionHeld3
import Derived.Test.YtbaocehcnjdkkaaDoorPart6
import Derived.Deep.CutRange
import Derived.Test.YtbaocehcnjdkkaaDoorPart1
import Derived.ProofKit
import Derived.OpenShut
import Derived.ChangeOld
import Derived.Test.YtbaocehcnjdkkaaDoorPart5
import Derived.ChangeArms
import Derived.Test.YtbaocehcnjdkkaaDoorPart7
import Derived.Test.YtbaocehcnjdkkaaDoorPart8
import Derived.Test.YtbaocehcnjdkkaaDoorProg
import Derived.Test.YtbaocehcnjdkkaaDoorRows
import Derived.LaidLaws
import Derived.LaidHandle
import Derived.Stop.Joined
import Derived.ChangeVars
/- The walks of impl.markSlots over impl.slotHas and over impl.slotOk. -/
namespace Go.Proofs.YtbaocehcnjdkkaaDoor
open Go.RowKit

/-- A row of four marks of which the first ones are laid. -/
def mkB (bs : List Bool) : List Value := bs.map Value.bool ++ List.replicate (4 - bs.length) (.bool false)
theorem mkB_set (bs : List Bool) (b : Bool) (h : bs.length < 4) : (mkB bs).set bs.length (.bool b) = mkB (bs ++ [b]) := by
  unfold mkB
  rw [List.set_append_right _ _ (by simp)]
  have e : 4 - bs.length = (4 - (bs ++ [b]).length) + 1 := by simp; omega
  rw [e, List.replicate_succ]
  simp
theorem mkB_len (bs : List Bool) (h : bs.length ≤ 4) : (mkB bs).length = 4 := by simp [mkB]; omega
theorem mkB_all (bs : List Bool) (h : bs.length = 4) : mkB bs = bs.map Value.bool := by simp [mkB, h]
theorem mkB_some (bs : List Bool) (h : bs.length ≤ 4) (k : Nat) (hk : k < 4) : ∃ v, (mkB bs)[k]? = some v := ⟨_, List.getElem?_eq_getElem (by rw [mkB_len bs h]; exact hk)⟩
/-- The answer is a row of these four marks. -/
def FourAns (bs : List Bool) (e : Ending) : Prop := ∃ c0 c1 c2 c3 : Bool, e = .returned (.agg #[.bool c0, .bool c1, .bool c2, .bool c3]) ∧ bs = [c0, c1, c2, c3]
theorem take_snoc (ss : List SlotA) (q : SlotV → Bool) (k : Nat) (h : k < ss.length) : (ss.take (k + 1)).map (fun s => q s.v) = (ss.take k).map (fun s => q s.v) ++ [q (ss.getD k zeroS).v] := by
  rw [List.take_add_one, List.map_append]
  simp [List.getD, h]

set_option maxHeartbeats 1000000 in
set_option maxRecDepth 100000 in
theorem markSlots_has (p : PageA) (h4 : p.ss.length = 4) (w : World) :
    Calls Tryd.prog 47 #[.agg p.cells.toArray, .func (.func 53) #[] #[]] w fun e w' => FourAns (p.ss.map (fun s => s.v.has)) e ∧ Below w.heap.size w w' := by
  obtain ⟨n, ss⟩ := p
  simp only [PageA.cells] at *
  obtain ⟨W, hW, b0, b1, b2, hbW, hsW⟩ := boxes3 w (.int .i64 n :: cellsS ss) [.bool false, .bool false, .bool false, .bool false] [.bool false, .bool false, .bool false, .bool false] 31 72 72
  have b2' : Box W (w.heap.size + 1 + 1) (mkB []) 72 := b2
  have hsW' : w.heap.size + 1 + 1 < W.heap.size := by omega
  have hrg0 : W.rangeAt w.heap.size 1 (cellsS ss) := Box.range [.int .i64 n] (cellsS ss) [] (by simpa using b0)
  have hi0 : (Tryd.prog.info? 29).map (·.size) = some (cellsS ss).length := by rw [cellsS_len, h4]; kernel_rfl
  have HX := run_index_slot ss h4
  have H4 : Hid (ss.length = 4) := h4
  clear b2 hsW h4
  go_enter Tryd.func47, Tryd.ntmps47
  go_wp2_with (first | (guard_target = wpList _ _ _ (Oper.mk (some 9) _ _ _ _ _ :: _) _ _; refine wpList_load_mid rfl 29 (.tmp 8) rfl w.heap.size 1 rfl (cellsS ss) _ (by rw [hW.out]; exact hrg0) Tryd.underlying29 rfl hi0 ?_) | fail)
  rw [hW.out]
  clear hW hrg0 hi0
  go_loopw [10] (fun i wr => ∃ (k : Nat) (bs : List Bool), i = .int .i64 k ∧ k ≤ 4 ∧ Hid (bs.length = k ∧ bs = (ss.take k).map (fun s => s.v.has)) ∧ Box wr (w.heap.size + 1 + 1) (mkB bs) 72 ∧ Below (w.heap.size + 1 + 1) W wr)
    (fun i _ => 4 - (intOf i).toNat)
  case atStart => exact ⟨0, [], rfl, by omega, ⟨rfl, rfl⟩, b2', Below.refl _ _⟩
  case round =>
    obtain ⟨k, bs, rfl, hk, hbs, hbox, hbl⟩ := hrel
    clear b2'
    have b1r := b1.below hbl (by omega)
    have hsr := hbl.size
    by_cases hlt : k < 4
    · have hkl : k < ss.length := by rw [H4.out]; exact hlt
      have hx := HX k hlt
      clear HX
      have hbs4 : bs.length ≤ 4 := by have := hbs.out.1; omega
      have HV : Hid (_ = _) := take_snoc ss (fun s => s.has) k hkl

      generalize ss.getD k zeroS = s at *
      simp only [SlotA.cells] at hx
      obtain ⟨W1, hW1, bx, hbx1, hsx1⟩ := boxes1 wr [.bool s.v.has, .int .i64 s.v.o.kind, .slice s.aI s.v.o.ints.length s.cI, .slice s.aR s.v.o.refs.length s.cR] 28
      have hsz := hbox.lt
      have B1 : Below (w.heap.size + 1 + 1) W W1 := hbl.trans (hbx1.mono (by omega))
      go_wp2_with fail
      rw [hW1.out]
      clear hx
      refine (slotHas_any s W1).mono ?_
      rintro e w2 ⟨rfl, hb2⟩
      have hs2 := hb2.size
      have bm2 := (hbox.below hbx1 hsz).below hb2 (by omega)
      obtain ⟨u, hu⟩ := mkB_some bs hbs4 k hlt
      have hc := bm2.cell k u hu
      have hf := bm2.frozen k
      obtain ⟨W3, hW3, b3, hw3, hs3⟩ := box_set bm2 k (.bool (s.v.has))
      have b3' : Box W3 (w.heap.size + 1 + 1) (mkB (bs ++ [s.v.has])) 72 := by
        have e := mkB_set bs (s.v.has) (by have := hbs.out.1; omega)
        rw [hbs.out.1] at e
        rw [← e]; exact b3
      have HB : Hid ((bs ++ [s.v.has]).length = k + 1 ∧ bs ++ [s.v.has] = (ss.take (k + 1)).map (fun s => s.v.has)) := ⟨by have := hbs.out.1; simp; omega, by rw [HV.out, ← hbs.out.2]⟩
      have B3 : Below (w.heap.size + 1 + 1) W W3 := (B1.trans (hb2.mono (by omega))).trans (hw3.below (Nat.le_refl _) (by omega))
      clear b3 bm2 hu HV
      go_wp2_with fail
      rw [hW3.out]
      go_roundw
      case rel => exact ⟨k + 1, bs ++ [s.v.has], by go_num, by omega, HB, b3', B3⟩
      case measure => simp [intOf]; omega
    · obtain rfl : k = 4 := by omega
      have hkk : ¬ ((4 : Nat) : Int) < 4 := by omega
      have HQ : Hid (bs = ss.map (fun s => s.v.has)) := by rw [Hid, hbs.out.2, List.take_of_length_le (by rw [H4.out]; omega)]
      obtain ⟨c0, c1, c2, c3, rfl⟩ : ∃ c0 c1 c2 c3, bs = [c0, c1, c2, c3] := by
        match bs, hbs.out.1 with
        | [c0, c1, c2, c3], _ => exact ⟨c0, c1, c2, c3, rfl⟩
      have hbx : Box wr (w.heap.size + 1 + 1) [.bool c0, .bool c1, .bool c2, .bool c3] 72 := hbox
      obtain ⟨x0, x1, x2, x3, _⟩ := hbx.four
      obtain ⟨y0, y1, y2, y3, f0, f1, f2, f3⟩ := b1r.four
      obtain ⟨WF, hWF, bF, hwF, hsF⟩ := box4_fill b1r (.bool c0) (.bool c1) (.bool c2) (.bool c3)
      have hbF : Below w.heap.size w WF := (hbW.trans (hbl.mono (by omega))).trans (hwF.below (by omega) (by omega))
      clear hbox hbs
      go_wp2
      rw [hWF.out]
      obtain ⟨q0, q1, q2, q3, _⟩ := bF.four
      exact bodyPost_ret (v := .agg #[.bool c0, .bool c1, .bool c2, .bool c3]) (by simp [results, Tryd.results47, go_sem, q0, q1, q2, q3]) rfl ⟨⟨c0, c1, c2, c3, rfl, HQ.out.symm⟩, hbF⟩

set_option maxHeartbeats 1000000 in
set_option maxRecDepth 100000 in
theorem markSlots_ok (p : PageA) (h4 : p.ss.length = 4) (w : World) (hg : ErrT w) (hr : ReadsS w p.ss) (hl : Fit p.ss) :
    Calls Tryd.prog 47 #[.agg p.cells.toArray, .func (.func 45) #[] #[]] w fun e w' => FourAns (p.ss.map (fun s => slotB s.v)) e ∧ Below w.heap.size w w' := by
  obtain ⟨n, ss⟩ := p
  simp only [PageA.cells] at *
  obtain ⟨W, hW, b0, b1, b2, hbW, hsW⟩ := boxes3 w (.int .i64 n :: cellsS ss) [.bool false, .bool false, .bool false, .bool false] [.bool false, .bool false, .bool false, .bool false] 31 72 72
  have b2' : Box W (w.heap.size + 1 + 1) (mkB []) 72 := b2
  have hsW' : w.heap.size + 1 + 1 < W.heap.size := by omega
  have hrg0 : W.rangeAt w.heap.size 1 (cellsS ss) := Box.range [.int .i64 n] (cellsS ss) [] (by simpa using b0)
  have hi0 : (Tryd.prog.info? 29).map (·.size) = some (cellsS ss).length := by rw [cellsS_len, h4]; kernel_rfl
  have HX := run_index_slot ss h4
  have H4 : Hid (ss.length = 4) := h4
  clear b2 hsW h4
  go_enter Tryd.func47, Tryd.ntmps47
  go_wp2_with (first | (guard_target = wpList _ _ _ (Oper.mk (some 9) _ _ _ _ _ :: _) _ _; refine wpList_load_mid rfl 29 (.tmp 8) rfl w.heap.size 1 rfl (cellsS ss) _ (by rw [hW.out]; exact hrg0) Tryd.underlying29 rfl hi0 ?_) | fail)
  rw [hW.out]
  clear hW hrg0 hi0
  go_loopw [10] (fun i wr => ∃ (k : Nat) (bs : List Bool), i = .int .i64 k ∧ k ≤ 4 ∧ Hid (bs.length = k ∧ bs = (ss.take k).map (fun s => slotB s.v)) ∧ Box wr (w.heap.size + 1 + 1) (mkB bs) 72 ∧ Below (w.heap.size + 1 + 1) W wr)
    (fun i _ => 4 - (intOf i).toNat)
  case atStart => exact ⟨0, [], rfl, by omega, ⟨rfl, rfl⟩, b2', Below.refl _ _⟩
  case round =>
    obtain ⟨k, bs, rfl, hk, hbs, hbox, hbl⟩ := hrel
    clear b2'
    have b1r := b1.below hbl (by omega)
    have hsr := hbl.size
    by_cases hlt : k < 4
    · have hkl : k < ss.length := by rw [H4.out]; exact hlt
      have hx := HX k hlt
      clear HX
      have hbs4 : bs.length ≤ 4 := by have := hbs.out.1; omega
      have HV : Hid (_ = _) := take_snoc ss (fun s => slotB s) k hkl
      have hgr := hg.keep (hbW.trans (hbl.mono (by omega)))
      have hrk := (hr _ (getD_mem hkl)).below (hbW.trans (hbl.mono (by omega)))
      have hlk : Fit [ss.getD k zeroS] := fun s hs => by obtain rfl := List.mem_singleton.1 hs; exact hl _ (getD_mem hkl)
      generalize ss.getD k zeroS = s at *
      simp only [SlotA.cells] at hx
      obtain ⟨W1, hW1, bx, hbx1, hsx1⟩ := boxes1 wr [.bool s.v.has, .int .i64 s.v.o.kind, .slice s.aI s.v.o.ints.length s.cI, .slice s.aR s.v.o.refs.length s.cR] 28
      have hsz := hbox.lt
      have B1 : Below (w.heap.size + 1 + 1) W W1 := hbl.trans (hbx1.mono (by omega))
      go_wp2_with fail
      rw [hW1.out]
      clear hx
      refine (slotOk_any s W1 (hgr.keep hbx1) (hrk.below hbx1) hlk).mono ?_
      rintro e w2 ⟨rfl, hb2⟩
      have hs2 := hb2.size
      have bm2 := (hbox.below hbx1 hsz).below hb2 (by omega)
      obtain ⟨u, hu⟩ := mkB_some bs hbs4 k hlt
      have hc := bm2.cell k u hu
      have hf := bm2.frozen k
      obtain ⟨W3, hW3, b3, hw3, hs3⟩ := box_set bm2 k (.bool (slotB s.v))
      have b3' : Box W3 (w.heap.size + 1 + 1) (mkB (bs ++ [slotB s.v])) 72 := by
        have e := mkB_set bs (slotB s.v) (by have := hbs.out.1; omega)
        rw [hbs.out.1] at e
        rw [← e]; exact b3
      have HB : Hid ((bs ++ [slotB s.v]).length = k + 1 ∧ bs ++ [slotB s.v] = (ss.take (k + 1)).map (fun s => slotB s.v)) := ⟨by have := hbs.out.1; simp; omega, by rw [HV.out, ← hbs.out.2]⟩
      have B3 : Below (w.heap.size + 1 + 1) W W3 := (B1.trans (hb2.mono (by omega))).trans (hw3.below (Nat.le_refl _) (by omega))
      clear b3 bm2 hu HV
      go_wp2_with fail
      rw [hW3.out]
      go_roundw
      case rel => exact ⟨k + 1, bs ++ [slotB s.v], by go_num, by omega, HB, b3', B3⟩
      case measure => simp [intOf]; omega
    · obtain rfl : k = 4 := by omega
      have hkk : ¬ ((4 : Nat) : Int) < 4 := by omega
      have HQ : Hid (bs = ss.map (fun s => slotB s.v)) := by rw [Hid, hbs.out.2, List.take_of_length_le (by rw [H4.out]; omega)]
      obtain ⟨c0, c1, c2, c3, rfl⟩ : ∃ c0 c1 c2 c3, bs = [c0, c1, c2, c3] := by
        match bs, hbs.out.1 with
        | [c0, c1, c2, c3], _ => exact ⟨c0, c1, c2, c3, rfl⟩
      have hbx : Box wr (w.heap.size + 1 + 1) [.bool c0, .bool c1, .bool c2, .bool c3] 72 := hbox
      obtain ⟨x0, x1, x2, x3, _⟩ := hbx.four
      obtain ⟨y0, y1, y2, y3, f0, f1, f2, f3⟩ := b1r.four
      obtain ⟨WF, hWF, bF, hwF, hsF⟩ := box4_fill b1r (.bool c0) (.bool c1) (.bool c2) (.bool c3)
      have hbF : Below w.heap.size w WF := (hbW.trans (hbl.mono (by omega))).trans (hwF.below (by omega) (by omega))
      clear hbox hbs
      go_wp2
      rw [hWF.out]
      obtain ⟨q0, q1, q2, q3, _⟩ := bF.four
      exact bodyPost_ret (v := .agg #[.bool c0, .bool c1, .bool c2, .bool c3]) (by simp [results, Tryd.results47, go_sem, q0, q1, q2, q3]) rfl ⟨⟨c0, c1, c2, c3, rfl, HQ.out.symm⟩, hbF⟩
end Go.Proofs.YtbaocehcnjdkkaaDoor

/- The walk of impl.PageOk. -/
namespace Go.Proofs.YtbaocehcnjdkkaaDoor
open Go.RowKit

theorem okP_out {n : Int} {vs : List SlotV} (h : inB n 0 1000000 = false) : okP n vs = false := by simp [okP, h]
theorem okP_four {n : Int} {ss : List SlotA} {c0 c1 c2 c3 : Bool} (h : inB n 0 1000000 = true) (hb : ss.map (fun s => slotB s.v) = [c0, c1, c2, c3]) : okP n (ss.map (·.v)) = (c0 && (c1 && (c2 && c3))) := by
  have e : (ss.map (·.v)).map slotB = [c0, c1, c2, c3] := by rw [List.map_map]; exact hb
  have e2 : ∀ vs : List SlotV, vs.all slotB = (vs.map slotB).all id := fun vs => by induction vs with
    | nil => rfl
    | cons v r ih => rw [List.all_cons, List.map_cons, List.all_cons, ← ih]; rfl
  rw [okP, h, Bool.and_true, e2, e]
  simp

theorem run_eq4 (c0 c1 c2 c3 : Bool) (w : World) : (Op.equalIn 10000 72 (.agg #[.bool c0, .bool c1, .bool c2, .bool c3]) (.agg #[.bool true, .bool true, .bool true, .bool true])).run Tryd.prog w = .ok (c0 && (c1 && (c2 && c3))) w := by
  cases c0 <;> cases c1 <;> cases c2 <;> cases c3 <;> kernel_rfl

set_option maxHeartbeats 1000000 in
set_option maxRecDepth 100000 in
theorem implPageOk_any (p : PageA) (h4 : p.ss.length = 4) (w : World) (hg : ErrT w) (hr : ReadsS w p.ss) (hl : Fit p.ss) :
    Calls Tryd.prog 13 #[.agg p.cells.toArray] w fun e w' => e = .returned (.bool (okP p.lsn (p.ss.map (·.v)))) ∧ Below w.heap.size w w' := by
  obtain ⟨W, hW, b0, b1, hbW, hsW⟩ := boxes2 w p.cells [.bool true, .bool true, .bool true, .bool true] 31 72
  have hc0 : ∀ w', Below W.heap.size W w' → w'.cell? ⟨w.heap.size, 0, none⟩ = some (.int .i64 p.lsn) := fun w' hh => (b0.below hh b0.lt).cell 0 _ rfl
  have hw0 := hc0 W (Below.refl _ _)
  cases hin : inB p.lsn 0 1000000 with
  | false =>
    have HF : Hid (okP p.lsn (p.ss.map (·.v)) = false) := okP_out hin
    have hz := inB_false hin
    clear hin hc0
    generalize okP p.lsn (p.ss.map (·.v)) = R at *
    generalize p.lsn = n at *
    rcases hz with h1 | ⟨h1, h2⟩
    · have h1' : decide ((0 : Int) ≤ n) = false := decide_eq_false (by omega)
      clear h1
      go_enter Tryd.func13, Tryd.ntmps13
      go_wp2_with fail
      rw [hW.out]
      go_quiet (fail)
      go_wp2
      go_ret
      exact ⟨ret_bool HF.out.symm, below_drewN hbW _⟩
    · have h1' : decide ((0 : Int) ≤ n) = true := decide_eq_true (by omega)
      have h2' : decide (n ≤ 1000000) = false := decide_eq_false (by omega)
      clear h1 h2
      go_enter Tryd.func13, Tryd.ntmps13
      go_wp2_with fail
      rw [hW.out]
      go_quiet (fail)
      go_wp2
      go_ret
      exact ⟨ret_bool HF.out.symm, below_drewN hbW _⟩
  | true =>
    obtain ⟨h1, h2⟩ := inB_true hin
    have h1' : (0 : Int) ≤ p.lsn := by omega
    have h2' : p.lsn ≤ 1000000 := by omega
    have HIN : Hid (_ = _) := hin
    have HRG : Hid (∀ w', Below W.heap.size W w' → w'.rangeAt w.heap.size 0 p.cells) := fun w' hh => Box.range [] p.cells [] (by simpa using b0.below hh b0.lt)
    have HRA : Hid (∀ w', Below W.heap.size W w' → w'.rangeAt (w.heap.size + 1) 0 [.bool true, .bool true, .bool true, .bool true]) := fun w' hh => Box.range [] [.bool true, .bool true, .bool true, .bool true] [] (by simpa using b1.below hh b1.lt)
    have HI : Hid ((Tryd.prog.info? 31).map (·.size) = some p.cells.length) := by rw [Hid, page_len p h4]; kernel_rfl
    clear hin h1 h2
    go_enter Tryd.func13, Tryd.ntmps13
    go_wp2_with fail
    rw [hW.out]
    refine wp_region_held_drew (S := fun w' => w'.cell? ⟨w.heap.size, 0, none⟩ = some (.int .i64 p.lsn) ∧ w'.rangeAt w.heap.size 0 p.cells ∧ w'.rangeAt (w.heap.size + 1) 0 [.bool true, .bool true, .bool true, .bool true]) (by kernel_rfl) ?_ (fun hHeld => ?_)
    · exact ⟨hc0 _ (Below.refl _ _).drew, HRG.out _ (Below.refl _ _).drew, HRA.out _ (Below.refl _ _).drew⟩
    have hd1 : decide ((0 : Int) ≤ p.lsn) = true := decide_eq_true h1'
    have hd2 : decide (p.lsn ≤ 1000000) = true := decide_eq_true h2'
    refine wpAnyH_take (i := 0) (v := .pointer (some ⟨w.heap.size, 0, none⟩)) rfl (by kernel_rfl) (by kernel_rfl) (by kernel_rfl) (fun _ _ _ h => h) (Or.inl ⟨by rfl, fun w' hw' => ?_⟩) hHeld ?_
    · go_simp
    go_simp
    refine wpAnyH_take (i := 1) (v := .int .i64 p.lsn) rfl (by kernel_rfl) (by kernel_rfl) (by kernel_rfl) (fun _ _ _ h => h) (Or.inl ⟨by rfl, fun w' hw' => ?_⟩) hHeld ?_
    · have q := hw'.1; go_simp
    go_simp
    refine wpAnyH_take (i := 2) (v := .bool true) rfl (by kernel_rfl) (by kernel_rfl) (by kernel_rfl) (fun _ _ _ h => h) (Or.inl ⟨by rfl, fun w' hw' => ?_⟩) hHeld ?_
    · go_simp
    go_simp
    refine wpAnyH_take (i := 3) (v := .bool true) rfl (by kernel_rfl) (by kernel_rfl) (by kernel_rfl) (fun _ _ _ h => h) (Or.inl ⟨by rfl, fun w' hw' => ?_⟩) hHeld ?_
    · go_simp
    go_simp
    refine wpAnyH_take (i := 4) (v := .pointer (some ⟨w.heap.size, 0, none⟩)) rfl (by kernel_rfl) (by kernel_rfl) (by kernel_rfl) (fun _ _ _ h => h) (Or.inl ⟨by rfl, fun w' hw' => ?_⟩) hHeld ?_
    · go_simp
    go_simp
    refine wpAnyH_take (i := 5) (v := .int .i64 p.lsn) rfl (by kernel_rfl) (by kernel_rfl) (by kernel_rfl) (fun _ _ _ h => h) (Or.inl ⟨by rfl, fun w' hw' => ?_⟩) hHeld ?_
    · have q := hw'.1; go_simp
    go_simp
    refine wpAnyH_take (i := 6) (v := .bool true) rfl (by kernel_rfl) (by kernel_rfl) (by kernel_rfl) (fun _ _ _ h => h) (Or.inl ⟨by rfl, fun w' hw' => ?_⟩) hHeld ?_
    · go_simp
    go_simp
    refine wpAnyH_take (i := 7) (v := .bool true) rfl (by kernel_rfl) (by kernel_rfl) (by kernel_rfl) (fun _ _ _ h => h) (Or.inl ⟨by rfl, fun w' hw' => ?_⟩) hHeld ?_
    · go_simp
    go_simp
    refine wpAnyH_take (i := 8) (v := .bool true) rfl (by kernel_rfl) (by kernel_rfl) (by kernel_rfl) (fun _ _ _ h => h) (Or.inl ⟨by rfl, fun w' hw' => ?_⟩) hHeld ?_
    · go_simp
    go_simp
    refine wpAnyH_take (i := 9) rfl (by kernel_rfl) (by kernel_rfl) (by kernel_rfl) (fun _ _ _ h => h) (yieldsIf_load_mid (by rfl) _ _ rfl _ _ rfl p.cells _ (fun _ h => h.2.1) Tryd.underlying31 rfl HI.out) hHeld ?_
    go_simp
    refine wpAnyH_take (i := 11) rfl (by kernel_rfl) (by kernel_rfl) (by kernel_rfl) (fun _ _ _ h => h) (yieldsIf_load_mid (by rfl) _ _ rfl _ _ rfl [.bool true, .bool true, .bool true, .bool true] _ (fun _ h => h.2.2) Tryd.underlying72 rfl (by kernel_rfl)) hHeld ?_
    go_simp
    refine wpAnyH_ready (rs := [10]) (by kernel_rfl) (by simp) ?_
    refine AllReadyH.cons rfl (fun K hK => ?_) AllReadyH.nil
    go_simp
    refine (markSlots_ok p h4 _ (hg.keep hbW.drew) (hr.below hbW.drew) hl).mono ?_
    rintro e w2 ⟨⟨c0, c1, c2, c3, rfl, hcs⟩, hb2⟩
    have B2 : Below W.heap.size W w2 := ((Below.refl _ _).drew).trans hb2
    have HR : Hid (_ = _) := okP_four HIN.out hcs
    clear hcs
    refine hK.out _ _ ⟨hc0 _ B2, HRG.out _ B2, HRA.out _ B2⟩ (fun hHeld => ?_)
    clear hK K
    refine wpAnyH_take (i := 12) (v := .bool (c0 && (c1 && (c2 && c3)))) rfl (by kernel_rfl) (by kernel_rfl) (by kernel_rfl) (fun _ _ _ h => h) (Or.inl ⟨by rfl, fun w' hw' => ?_⟩) hHeld ?_
    · have q := run_eq4 c0 c1 c2 c3 w'; go_simp
    go_simp
    generalize (c0 && (c1 && (c2 && c3))) = D at *
    refine wpAnyH_take (i := 13) (v := .bool D) rfl (by kernel_rfl) (by kernel_rfl) (by kernel_rfl) (fun _ _ _ h => h) (Or.inl ⟨by rfl, fun w' hw' => ?_⟩) hHeld ?_
    · go_simp
    go_simp
    refine wpAnyH_take (i := 14) (v := .bool D) rfl (by kernel_rfl) (by kernel_rfl) (by kernel_rfl) (fun _ _ _ h => h) (Or.inl ⟨by rfl, fun w' hw' => ?_⟩) hHeld ?_
    · go_simp
    go_simp
    refine wpAnyH_done (by kernel_rfl) ?_ _
    go_wp2
    go_ret
    exact ⟨ret_bool HR.out.symm, hbW.trans (B2.mono hbW.size)⟩
end Go.Proofs.YtbaocehcnjdkkaaDoor

/- The walk of impl.GetPage. -/
namespace Go.Proofs.YtbaocehcnjdkkaaDoor
open Go.RowKit

set_option maxHeartbeats 4000000 in
set_option maxRecDepth 100000 in
theorem implGetPage_any (a : Option Addr) (c : Nat) (zs : List Int) (w : World) (hg : ErrT w) (hr : Reads w a zs) (hl : zs.length ≤ 1099511627776) (hcap : zs.length ≤ c) :
    Calls Tryd.prog 14 #[.slice a zs.length c] w fun e w' => ∃ ts : List SlotA, e = .returned (.tuple #[.agg (PageA.cells ⟨(pairP zs).1.1, ts⟩).toArray, .bool (pairP zs).2]) ∧ Hid (ts.map (·.v) = (pairP zs).1.2) ∧ OwnS w' w.heap.size w'.heap.size ts ∧ Below w.heap.size w w' := by
  have HUL : Hid (_ ≤ _) := unf_len zs 0
  have H1 : Hid (¬ ((unfOf zs 0).2.2 = 0 ∧ (unfOf zs 0).2.1 = (zs.length : Int)) → pairP zs = (noP, false)) := pairP_unf zs
  have H2 : Hid (readP (unfOf zs 0).1 = none → pairP zs = (noP, false)) := pairP_none zs
  have H3 : Hid (∀ n l, readP (unfOf zs 0).1 = some (n, l) → okP n l = false → pairP zs = (noP, false)) := fun n l => pairP_bad zs n l
  have H4 : Hid (((unfOf zs 0).2.2 = 0 ∧ (unfOf zs 0).2.1 = (zs.length : Int)) → Bytes (unfOf zs 0).1 → ∀ n l, readP (unfOf zs 0).1 = some (n, l) → okP n l = true → pairP zs = ((n, l), true)) := fun h hb n l => pairP_some zs hr.1 h n l hb
  generalize pairP zs = PP at *
  obtain ⟨W, hW, b0, hbW, hsW⟩ := boxes1 w [.int .i64 0, .bool false, .int .i64 0, .slice none 0 0, .slice none 0 0, .bool false, .int .i64 0, .slice none 0 0, .slice none 0 0, .bool false, .int .i64 0, .slice none 0 0, .slice none 0 0, .bool false, .int .i64 0, .slice none 0 0, .slice none 0 0] 31
  have HI0 : Hid ((Tryd.prog.info? 31).map (·.size) = some (PageA.cells ⟨0, zero4⟩).length) := by rw [Hid]; kernel_rfl
  have HO0 : Hid (_) := all_oneCell_toArray (oneP ⟨0, zero4⟩)
  have hsW' : w.heap.size < W.heap.size := b0.lt
  clear hsW
  go_enter Tryd.func14, Tryd.ntmps14
  go_wp2_with fail
  rw [hW.out]
  clear hW
  refine (implUnframe_any a c zs 0 W (hr.below hbW) (by omega) hcap).mono ?_
  rintro e w1 ⟨a1, c1, body, q, code, rfl, HU, ho1, hb1⟩
  have hs1 := hb1.size
  have B1 : Below w.heap.size w w1 := hbW.trans (hb1.mono (by omega))
  have b01 := b0.below hb1 b0.lt
  rw [HU.out] at H1 H2 H3 H4 HUL
  simp only at H1 H2 H3 H4 HUL
  clear b0
  by_cases hgood : code = 0 ∧ q = (zs.length : Int)
  case neg =>
    have HPP : Hid (PP = (noP, false)) := H1.out hgood
    clear H1 H2 H3 H4
    by_cases hc0 : code = 0
    · have hq0 : (q == (zs.length : Int)) = false := by simp; exact fun e => hgood ⟨hc0, e⟩
      subst hc0
      clear hgood
      obtain ⟨WF, hWF, hwF, hsF, HTF, HLF, _⟩ := page_out (C := w.heap.size) (T := 31) ⟨0, zero4⟩ rfl _ rfl b01 Tryd.underlying31 rfl (by kernel_rfl)
      have HEND : Hid (∃ ts : List SlotA, Ending.returned (.tuple #[.agg (PageA.cells ⟨0, zero4⟩).toArray, .bool false]) = .returned (.tuple #[.agg (PageA.cells ⟨PP.1.1, ts⟩).toArray, .bool PP.2]) ∧ Hid (ts.map (·.v) = PP.1.2) ∧ OwnS WF w.heap.size WF.heap.size ts ∧ Below w.heap.size w WF) :=
        ⟨zero4, by rw [HPP.out]; rfl, by rw [HPP.out]; rfl, own_zero4 _ _ _ (Nat.le_refl _), B1.trans (hwF.below (Nat.le_refl _) (by have := B1.size; omega))⟩
      clear hwF hsF
      go_wp2_with (first | (guard_target = wpList _ _ _ (Oper.mk none (Op.store _ (Operand.tmp 2) _) _ _ _ _ :: _) _ _; refine wpList_store_mid rfl 31 (.tmp 2) (.tmp 23) rfl w.heap.size 0 (PageA.cells ⟨0, zero4⟩).toArray rfl rfl HTF.out (by rw [List.size_toArray]; exact HI0.out) HO0.out ?_) | fail)
      rw [hWF.out]
      exact bodyPost_ret (v := .tuple #[.agg (PageA.cells ⟨0, zero4⟩).toArray, .bool false]) (results_cell_flag Tryd.results14 rfl HLF.out rfl) rfl HEND.out
    · have hcb : (code == 0) = false := by simpa using hc0
      clear hgood hc0
      obtain ⟨WF, hWF, hwF, hsF, HTF, HLF, _⟩ := page_out (C := w.heap.size) (T := 31) ⟨0, zero4⟩ rfl _ rfl b01 Tryd.underlying31 rfl (by kernel_rfl)
      have HEND : Hid (∃ ts : List SlotA, Ending.returned (.tuple #[.agg (PageA.cells ⟨0, zero4⟩).toArray, .bool false]) = .returned (.tuple #[.agg (PageA.cells ⟨PP.1.1, ts⟩).toArray, .bool PP.2]) ∧ Hid (ts.map (·.v) = PP.1.2) ∧ OwnS WF w.heap.size WF.heap.size ts ∧ Below w.heap.size w WF) :=
        ⟨zero4, by rw [HPP.out]; rfl, by rw [HPP.out]; rfl, own_zero4 _ _ _ (Nat.le_refl _), B1.trans (hwF.below (Nat.le_refl _) (by have := B1.size; omega))⟩
      clear hwF hsF
      go_wp2_with (first | (guard_target = wpList _ _ _ (Oper.mk none (Op.store _ (Operand.tmp 2) _) _ _ _ _ :: _) _ _; refine wpList_store_mid rfl 31 (.tmp 2) (.tmp 23) rfl w.heap.size 0 (PageA.cells ⟨0, zero4⟩).toArray rfl rfl HTF.out (by rw [List.size_toArray]; exact HI0.out) HO0.out ?_) | fail)
      rw [hWF.out]
      exact bodyPost_ret (v := .tuple #[.agg (PageA.cells ⟨0, zero4⟩).toArray, .bool false]) (results_cell_flag Tryd.results14 rfl HLF.out rfl) rfl HEND.out
  case pos =>
  obtain ⟨rfl, rfl⟩ := hgood
  have hbl := HUL.out
  have hbcap := ho1.len_cap
  have H4' : Hid (∀ n l, readP body = some (n, l) → okP n l = true → PP = ((n, l), true)) := H4.out ⟨rfl, rfl⟩ ho1.1
  clear H1 H4
  go_wp2_with fail
  refine (readPage_any a1 c1 body w1 (hg.keep B1) ho1.reads (by omega) hbcap).mono ?_
  rintro e w2 ⟨hans, hb2⟩
  have hs2 := hb2.size
  have B2 : Below w.heap.size w w2 := B1.trans (hb2.mono B1.size)
  have b02 := b01.below hb2 b01.lt
  obtain ⟨W3, hW3, b3, hb3, hs3⟩ := boxes1 w2 [.int .i64 0, .bool false, .int .i64 0, .slice none 0 0, .slice none 0 0, .bool false, .int .i64 0, .slice none 0 0, .slice none 0 0, .bool false, .int .i64 0, .slice none 0 0, .slice none 0 0, .bool false, .int .i64 0, .slice none 0 0, .slice none 0 0] 31
  have b03 := b02.below hb3 b02.lt
  have B3 : Below w.heap.size w W3 := B2.trans (hb3.mono B2.size)
  have hlt2 := b02.lt
  clear b01 b02 hs3
  cases hrp : readP body with
  | none =>
    have HPP : Hid (PP = (noP, false)) := H2.out hrp
    rw [hrp] at hans
    obtain ⟨Q, hQ4, rfl⟩ := hans
    clear hrp H2 H3 H4'
    have HIQ : Hid ((Tryd.prog.info? 31).map (·.size) = some Q.cells.length) := by rw [Hid, page_len Q hQ4]; kernel_rfl
    have HOQ : Hid (_) := all_oneCell_toArray (oneP Q)
    obtain ⟨W4, hW4, hw4, hs4, HT4, _, bQ⟩ := page_out (C := w2.heap.size) (T := 31) Q hQ4 _ rfl b3 Tryd.underlying31 rfl (by kernel_rfl)
    have b04 := b03.within hw4 (by omega)
    have B4 : Below w.heap.size w W4 := B3.trans (hw4.below (by omega) (by have := B3.size; have := hb3.size; omega))
    clear hw4 b3 b03
    go_upto_region 5 with (first | (guard_target = wpList _ _ _ (Oper.mk none (Op.store _ (Operand.tmp 7) _) _ _ _ _ :: _) _ _; refine wpList_store_mid rfl 31 (.tmp 7) (.tmp 27) rfl w2.heap.size 0 Q.cells.toArray rfl rfl (by rw [hW3.out]; exact HT4.out) (by rw [List.size_toArray]; exact HIQ.out) HOQ.out ?_) | fail)
    rw [hW3.out, hW4.out]
    clear hW3 hW4 HT4
    obtain ⟨WF, hWF, hwF, hsF, HTF, HLF, _⟩ := page_out (C := w.heap.size) (T := 31) ⟨0, zero4⟩ rfl _ rfl b04 Tryd.underlying31 rfl (by kernel_rfl)
    have HEND : Hid (∃ ts : List SlotA, Ending.returned (.tuple #[.agg (PageA.cells ⟨0, zero4⟩).toArray, .bool false]) = .returned (.tuple #[.agg (PageA.cells ⟨PP.1.1, ts⟩).toArray, .bool PP.2]) ∧ Hid (ts.map (·.v) = PP.1.2) ∧ OwnS WF w.heap.size WF.heap.size ts ∧ Below w.heap.size w WF) :=
      ⟨zero4, by rw [HPP.out]; rfl, by rw [HPP.out]; rfl, own_zero4 _ _ _ (Nat.le_refl _), B4.trans (hwF.below (Nat.le_refl _) (by have := B4.size; omega))⟩
    clear hwF hsF
    go_wp2_with (first | (guard_target = wpList _ _ _ (Oper.mk none (Op.store _ (Operand.tmp 2) _) _ _ _ _ :: _) _ _; refine wpList_store_mid rfl 31 (.tmp 2) (.tmp 36) rfl w.heap.size 0 (PageA.cells ⟨0, zero4⟩).toArray rfl rfl HTF.out (by rw [List.size_toArray]; exact HI0.out) HO0.out ?_) | fail)
    rw [hWF.out]
    exact bodyPost_ret (v := .tuple #[.agg (PageA.cells ⟨0, zero4⟩).toArray, .bool false]) (results_cell_flag Tryd.results14 rfl HLF.out rfl) rfl HEND.out
  | some nl =>
    obtain ⟨n, l⟩ := nl
    rw [hrp] at hans
    obtain ⟨ts, rfl, hvl, hts4, hsm, hoT⟩ := hans
    have HK3 : Hid (okP n l = false → PP = (noP, false)) := H3.out n l hrp
    have HK4 : Hid (okP n l = true → PP = ((n, l), true)) := H4'.out n l hrp
    have HVL : Hid (_ = _) := hvl
    clear hrp H2 H3 H4' hvl
    have HIQ : Hid ((Tryd.prog.info? 31).map (·.size) = some (PageA.cells ⟨n, ts⟩).length) := by rw [Hid, page_len _ hts4]; kernel_rfl
    have HOQ : Hid (_) := all_oneCell_toArray (oneP ⟨n, ts⟩)
    obtain ⟨W4, hW4, hw4, hs4, HT4, _, bQ⟩ := page_out (C := w2.heap.size) (T := 31) ⟨n, ts⟩ hts4 _ rfl b3 Tryd.underlying31 rfl (by kernel_rfl)
    have b04 := b03.within hw4 (by omega)
    have B4 : Below w.heap.size w W4 := B3.trans (hw4.below (by omega) (by have := B3.size; have := hb3.size; omega))
    have oT4 : OwnS W4 w1.heap.size w2.heap.size ts := (hoT.below hb3).within hw4 (.inl (Nat.le_refl _))
    have HRQ : Hid (∀ w', Below W4.heap.size W4 w' → w'.rangeAt w2.heap.size 0 (PageA.cells ⟨n, ts⟩)) := fun w' hh => Box.range [] (PageA.cells ⟨n, ts⟩) [] (by simpa using bQ.below hh bQ.lt)
    have rQ := HRQ.out _ (Below.refl _ _)
    have hltQ := bQ.lt
    have C := implPageOk_any ⟨n, ts⟩ hts4 W4 (hg.keep B4) oT4.reads (fun s hs => by have := hsm s hs; omega)
    simp only [HVL.out] at C
    clear hw4 b3 b03 hoT hsm
    generalize hPQ : (⟨n, ts⟩ : PageA) = Q at *
    have HQe : Hid (Q = ⟨n, ts⟩) := hPQ.symm
    clear hPQ
    go_wp2_with (first | (guard_target = wpList _ _ _ (Oper.mk none (Op.store _ (Operand.tmp 7) _) _ _ _ _ :: _) _ _; refine wpList_store_mid rfl 31 (.tmp 7) (.tmp 27) rfl w2.heap.size 0 Q.cells.toArray rfl rfl (by rw [hW3.out]; exact HT4.out) (by rw [List.size_toArray]; exact HIQ.out) HOQ.out ?_) | (guard_target = wpList _ _ _ (Oper.mk (some 32) _ _ _ _ _ :: _) _ _; refine wpList_load_mid_if (by rfl) 31 (.tmp 7) rfl w2.heap.size 0 rfl Q.cells _ (by rw [hW3.out, hW4.out]; exact rQ) Tryd.underlying31 rfl HIQ.out ?_) | fail)
    rw [hW3.out, hW4.out]
    clear hW3 hW4 HT4 rQ
    refine C.mono ?_
    clear C
    rintro e w5 ⟨rfl, hb5⟩
    have hs5 := hb5.size
    have b05 := b04.below hb5 b04.lt
    have B5 : Below w.heap.size w w5 := B4.trans (hb5.mono B4.size)
    have oT5 := oT4.below hb5
    have rQ5 := HRQ.out _ hb5
    cases hok : okP n l with
    | false =>
      have HPP : Hid (PP = (noP, false)) := HK3.out hok
      clear hok HK3 HK4
      obtain ⟨WF, hWF, hwF, hsF, HTF, HLF, _⟩ := page_out (C := w.heap.size) (T := 31) ⟨0, zero4⟩ rfl _ rfl b05 Tryd.underlying31 rfl (by kernel_rfl)
      have HEND : Hid (∃ ts : List SlotA, Ending.returned (.tuple #[.agg (PageA.cells ⟨0, zero4⟩).toArray, .bool false]) = .returned (.tuple #[.agg (PageA.cells ⟨PP.1.1, ts⟩).toArray, .bool PP.2]) ∧ Hid (ts.map (·.v) = PP.1.2) ∧ OwnS WF w.heap.size WF.heap.size ts ∧ Below w.heap.size w WF) :=
        ⟨zero4, by rw [HPP.out]; rfl, by rw [HPP.out]; rfl, own_zero4 _ _ _ (Nat.le_refl _), B5.trans (hwF.below (Nat.le_refl _) (by have := B5.size; omega))⟩
      clear hwF hsF
      go_wp2_with (first | (guard_target = wpList _ _ _ (Oper.mk none (Op.store _ (Operand.tmp 2) _) _ _ _ _ :: _) _ _; refine wpList_store_mid rfl 31 (.tmp 2) (.tmp 36) rfl w.heap.size 0 (PageA.cells ⟨0, zero4⟩).toArray rfl rfl HTF.out (by rw [List.size_toArray]; exact HI0.out) HO0.out ?_) | fail)
      rw [hWF.out]
      exact bodyPost_ret (v := .tuple #[.agg (PageA.cells ⟨0, zero4⟩).toArray, .bool false]) (results_cell_flag Tryd.results14 rfl HLF.out rfl) rfl HEND.out
    | true =>
      have HPP : Hid (PP = ((n, l), true)) := HK4.out hok
      clear hok HK3 HK4
      have hQ4 : Q.ss.length = 4 := by rw [HQe.out]; exact hts4
      obtain ⟨WF, hWF, hwF, hsF, HTF, HLF, _⟩ := page_out (C := w.heap.size) (T := 31) Q hQ4 _ rfl b05 Tryd.underlying31 rfl (by kernel_rfl)
      have HOF : Hid (OwnS WF w.heap.size WF.heap.size ts) := (oT5.within hwF (.inr (by omega))).widen (by omega) (by omega) (Nat.le_refl _)
      have HEND : Hid (∃ ts : List SlotA, Ending.returned (.tuple #[.agg Q.cells.toArray, .bool true]) = .returned (.tuple #[.agg (PageA.cells ⟨PP.1.1, ts⟩).toArray, .bool PP.2]) ∧ Hid (ts.map (·.v) = PP.1.2) ∧ OwnS WF w.heap.size WF.heap.size ts ∧ Below w.heap.size w WF) :=
        ⟨ts, by rw [HPP.out, HQe.out], by rw [HPP.out]; exact HVL.out, HOF.out, B5.trans (hwF.below (Nat.le_refl _) (by have := B5.size; omega))⟩
      clear hwF hsF HOF HQe
      go_wp2_with (first | (guard_target = wpList _ _ _ (Oper.mk (some 37) _ _ _ _ _ :: _) _ _; refine wpList_load_mid rfl 31 (.tmp 7) rfl w2.heap.size 0 rfl Q.cells _ rQ5 Tryd.underlying31 rfl HIQ.out ?_) | (guard_target = wpList _ _ _ (Oper.mk none (Op.store _ (Operand.tmp 2) _) _ _ _ _ :: _) _ _; refine wpList_store_mid rfl 31 (.tmp 2) (.tmp 37) rfl w.heap.size 0 Q.cells.toArray rfl rfl HTF.out (by rw [List.size_toArray]; exact HIQ.out) HOQ.out ?_) | fail)
      rw [hWF.out]
      exact bodyPost_ret (v := .tuple #[.agg Q.cells.toArray, .bool true]) (results_cell_flag Tryd.results14 rfl HLF.out rfl) rfl HEND.out
end Go.Proofs.YtbaocehcnjdkkaaDoor

/- What came in, read: a slice of numbers, an object. -/
namespace Go.Proofs.YtbaocehcnjdkkaaDoor
open Go.ChangeShapes Go.WideShapes Go.ChangeAt Go.RowKit

def InI64 (z : Int) : Prop := -9223372036854775808 ≤ z ∧ z ≤ 9223372036854775807
theorem wf_i64 {z : Int} (h : (Lit.int .i64 z).wf = true) : InI64 z := by
  simp [Lit.wf, IntKind.min, IntKind.max, IntKind.signed, IntKind.bits] at h
  unfold InI64; omega

theorem some_at {α : Type} (xs : List α) (i : Nat) (h : i < xs.length) : ∃ y, xs[i]? = some y := ⟨_, List.getElem?_eq_getElem h⟩

section
variable {H : Type} {enc : TypeId × Value → H} {w : World} {base : Nat} {spare : Nat → Bool} {held : Bool}

theorem trod_ints {fuel : Nat} {cs : List Value} {x : DataW H × List MemPlace} (h : DataW.trod enc Tryd.prog w base spare held fuel 24 cs = some x) :
    ∃ (a : Option Addr) (c : Nat) (ns : List Int), cs = [.slice a ns.length c] ∧ ReadsI w a ns ∧ (a = none → c = 0) ∧ ns.length ≤ maxLen ∧ ∀ z ∈ ns, InI64 z := by
  rcases open_ints Tryd.underlying24 Tryd.underlying3 (by kernel_rfl) h with ⟨rfl, _⟩ | ⟨a, len, cap, zs, rfl, _, hl, hm, hz, _, hcell, hwf⟩
  · exact ⟨none, 0, [], rfl, fun h => absurd rfl h, fun _ => rfl, by simp, by simp⟩
  · have hlz : len ≤ zs.length := by rw [hz]; split <;> omega
    refine ⟨some a, cap, zs.take len, by simp; omega, ?_, (fun h => by cases h), by simp; omega, fun z hzz => wf_i64 (hwf z (List.mem_of_mem_take hzz))⟩
    intro hne
    have hpos := List.length_pos_iff.2 hne
    simp at hpos
    obtain ⟨b, off, spot⟩ := a
    have hc0 := hcell 0 (by omega)
    have hspot : spot = none := by simpa [Addr.add] using World.cell?_spot hc0
    subst hspot
    refine ⟨b, off, rfl, fun i hi => ?_⟩
    have hi' : i < len := by simp at hi; omega
    have := hcell i (by omega)
    have e : (List.take len zs).getD i 0 = zs.getD i 0 := by simp [List.getD, hi']
    rw [e, ← Addr_add]
    exact this

theorem trod_num {fuel : Nat} {cs : List Value} {x : DataW H × List MemPlace} (h : DataW.trod enc Tryd.prog w base spare held fuel 3 cs = some x) : ∃ n : Int, cs = [.int .i64 n] ∧ InI64 n := by
  obtain ⟨n, rfl, _, hw⟩ := DataW.trod_int Tryd.underlying3 h
  exact ⟨n, rfl, wf_i64 hw⟩

theorem Tryd.cellsI : Tryd.prog.cellsOf 3 = 1 := by kernel_rfl
theorem Tryd.cellsIs : Tryd.prog.cellsOf 24 = 1 := by kernel_rfl
theorem Tryd.cellsO : Tryd.prog.cellsOf 42 = 3 := by kernel_rfl

set_option maxRecDepth 100000 in
theorem trod_obj {fuel : Nat} {cs : List Value} {x : DataW H × List MemPlace} (h : DataW.trod enc Tryd.prog w base spare held fuel 42 cs = some x) :
    ∃ (o : ObjV) (aI : Option Addr) (cI : Nat) (aR : Option Addr) (cR : Nat), cs = [.int .i64 o.kind, .slice aI o.ints.length cI, .slice aR o.refs.length cR] ∧ ReadsO w aI cI aR cR o ∧ o.ints.length ≤ maxLen ∧ o.refs.length ≤ maxLen ∧ InI64 o.kind ∧ (∀ z ∈ o.ints, InI64 z) ∧ (∀ z ∈ o.refs, InI64 z) := by
  obtain ⟨xs, n, _, _, hlen, hxl, hf⟩ := DataW.trod_struct Tryd.underlying42 h
  rw [Tryd.cellsO] at hlen
  match cs, hlen with
  | [v0, v1, v2], _ =>
    have f0 := hf 0 _ rfl
    have f1 := hf 1 _ rfl
    have f2 := hf 2 _ rfl
    obtain ⟨y0, hx0⟩ := some_at xs 0 (by rw [hxl]; decide)
    obtain ⟨y1, hx1⟩ := some_at xs 1 (by rw [hxl]; decide)
    obtain ⟨y2, hx2⟩ := some_at xs 2 (by rw [hxl]; decide)
    rw [hx0] at f0
    rw [hx1] at f1
    rw [hx2] at f2
    simp only [List.getElem_toArray, List.getElem_cons_zero, List.getElem_cons_succ, Tryd.cellsI, Tryd.cellsIs, List.drop, List.take] at f0 f1 f2
    obtain ⟨k, e0, wk⟩ := trod_num f0
    obtain ⟨aI, cI, ints, e1, hI, nI, lI, wI⟩ := trod_ints f1
    obtain ⟨aR, cR, refs, e2, hR, nR, lR, wR⟩ := trod_ints f2
    simp only [List.cons.injEq, and_true] at e0 e1 e2
    subst e0 e1 e2
    exact ⟨⟨k, ints, refs⟩, aI, cI, aR, cR, rfl, ⟨hI, hR, nI, nR⟩, lI, lR, wk, wI, wR⟩

set_option maxRecDepth 100000 in
/-- An object that came in as an argument. -/
theorem open_obj {b0 : Nat} {v : Value} {d : DataW H} {ps : List MemPlace} (hval : Value.okWide Tryd.prog w .any b0 42 v) (h : DataW.Trod enc Tryd.prog w base spare held 42 v d ps) :
    ∃ (o : ObjV) (aI : Option Addr) (cI : Nat) (aR : Option Addr) (cR : Nat), v = .agg #[.int .i64 o.kind, .slice aI o.ints.length cI, .slice aR o.refs.length cR] ∧ ReadsO w aI cI aR cR o ∧ o.ints.length ≤ maxLen ∧ o.refs.length ≤ maxLen ∧ InI64 o.kind ∧ (∀ z ∈ o.ints, InI64 z) ∧ (∀ z ∈ o.refs, InI64 z) := by
  obtain ⟨cs, rfl, hcs⟩ := okWide_struct Tryd.underlying42 hval
  obtain ⟨fuel, hf⟩ := h
  have e : (Value.agg cs).cells.toList = cs.toList := rfl
  rw [e] at hf
  obtain ⟨o, aI, cI, aR, cR, hc, rest⟩ := trod_obj hf
  refine ⟨o, aI, cI, aR, cR, ?_, rest⟩
  congr 1
  apply Array.toList_inj.1
  rw [hc]
end
end Go.Proofs.YtbaocehcnjdkkaaDoor

/- What came in, read: a slot, a page. -/
namespace Go.Proofs.YtbaocehcnjdkkaaDoor
open Go.ChangeShapes Go.WideShapes Go.ChangeAt Go.RowKit

/-- A slot as it came in: its lists are read, its numbers are 64-bit numbers. -/
structure InSlot (w : World) (s : SlotA) : Prop where
  reads : s.reads w
  lI : s.v.o.ints.length ≤ maxLen
  lR : s.v.o.refs.length ≤ maxLen
  kind : InI64 s.v.o.kind
  ints : ∀ z ∈ s.v.o.ints, InI64 z
  refs : ∀ z ∈ s.v.o.refs, InI64 z

section
variable {H : Type} {enc : TypeId × Value → H} {w : World} {base : Nat} {spare : Nat → Bool} {held : Bool}

theorem Tryd.cellsB : Tryd.prog.cellsOf 4 = 1 := by kernel_rfl
theorem Tryd.cellsSl : Tryd.prog.cellsOf 44 = 4 := by kernel_rfl
theorem Tryd.cellsSl4 : Tryd.prog.cellsOf 45 = 16 := by kernel_rfl
theorem Tryd.cellsPg : Tryd.prog.cellsOf 47 = 17 := by kernel_rfl

set_option maxRecDepth 100000 in
theorem trod_slot {fuel : Nat} {cs : List Value} {x : DataW H × List MemPlace} (h : DataW.trod enc Tryd.prog w base spare held fuel 44 cs = some x) :
    ∃ s : SlotA, cs = s.cells ∧ InSlot w s := by
  obtain ⟨xs, n, _, _, hlen, hxl, hf⟩ := DataW.trod_struct Tryd.underlying44 h
  rw [Tryd.cellsSl] at hlen
  match cs, hlen with
  | [v0, v1, v2, v3], _ =>
    have f0 := hf 0 _ rfl
    have f1 := hf 1 _ rfl
    obtain ⟨y0, hx0⟩ := some_at xs 0 (by rw [hxl]; decide)
    obtain ⟨y1, hx1⟩ := some_at xs 1 (by rw [hxl]; decide)
    rw [hx0] at f0
    rw [hx1] at f1
    simp only [List.getElem_toArray, List.getElem_cons_zero, List.getElem_cons_succ, Tryd.cellsB, Tryd.cellsO, List.drop, List.take] at f0 f1
    obtain ⟨b, e0, _⟩ := DataW.trod_bool Tryd.underlying4 f0
    obtain ⟨o, aI, cI, aR, cR, e1, hr, lI, lR, wk, wI, wR⟩ := trod_obj f1
    simp only [List.cons.injEq, and_true] at e0 e1
    obtain ⟨rfl, rfl, rfl⟩ := e1
    subst e0
    exact ⟨⟨⟨b, o⟩, aI, cI, aR, cR⟩, rfl, hr, lI, lR, wk, wI, wR⟩

theorem four_of (cs : List Value) (h : cs.length = 16) (f : ∀ i, i < 4 → ∃ s : SlotA, (cs.drop (i * 4)).take 4 = s.cells ∧ InSlot w s) : ∃ ss : List SlotA, ss.length = 4 ∧ cs = cellsS ss ∧ ∀ s ∈ ss, InSlot w s := by
  obtain ⟨s0, e0, h0⟩ := f 0 (by omega)
  obtain ⟨s1, e1, h1⟩ := f 1 (by omega)
  obtain ⟨s2, e2, h2⟩ := f 2 (by omega)
  obtain ⟨s3, e3, h3⟩ := f 3 (by omega)
  refine ⟨[s0, s1, s2, s3], rfl, ?_, ?_⟩
  · simp only [cellsS, List.flatMap_cons, List.flatMap_nil, List.append_nil, ← e0, ← e1, ← e2, ← e3]
    simp only [Nat.zero_mul, Nat.one_mul, List.drop_zero]
    have d : ∀ (l : List Value) (k : Nat), l.drop k = (l.drop k).take 4 ++ l.drop (k + 4) := fun l k => by rw [← List.drop_drop, List.take_append_drop]
    have a0 := d cs 0
    have a1 := d cs 4
    have a2 := d cs 8
    have a3 := d cs 12
    rw [List.drop_zero] at a0
    have a4 : cs.drop (12 + 4) = [] := List.drop_eq_nil_of_le (by omega)
    rw [a4, List.append_nil] at a3
    simp only [show 0 + 4 = 4 from rfl, show 4 + 4 = 8 from rfl, show 8 + 4 = 12 from rfl, show 2 * 4 = 8 from rfl, show 3 * 4 = 12 from rfl] at *
    conv => lhs; rw [a0, a1, a2, a3]
  · intro s hs
    simp only [List.mem_cons, List.not_mem_nil, or_false] at hs
    rcases hs with rfl | rfl | rfl | rfl <;> assumption

set_option maxRecDepth 100000 in
theorem trod_page {fuel : Nat} {cs : List Value} {x : DataW H × List MemPlace} (h : DataW.trod enc Tryd.prog w base spare held fuel 47 cs = some x) :
    ∃ p : PageA, cs = p.cells ∧ p.ss.length = 4 ∧ InI64 p.lsn ∧ ∀ s ∈ p.ss, InSlot w s := by
  obtain ⟨xs, n, _, _, hlen, hxl, hf⟩ := DataW.trod_struct Tryd.underlying47 h
  rw [Tryd.cellsPg] at hlen
  obtain ⟨v0, r, rfl⟩ : ∃ v0 r, cs = v0 :: r := by
    cases cs with
    | nil => simp at hlen
    | cons v r => exact ⟨v, r, rfl⟩
  have hr16 : r.length = 16 := by simpa using hlen
  have f0 := hf 0 _ rfl
  have f1 := hf 1 _ rfl
  obtain ⟨y0, hx0⟩ := some_at xs 0 (by rw [hxl]; decide)
  obtain ⟨y1, hx1⟩ := some_at xs 1 (by rw [hxl]; decide)
  rw [hx0] at f0
  rw [hx1] at f1
  simp only [List.getElem_toArray, List.getElem_cons_zero, List.getElem_cons_succ, Tryd.cellsI, Tryd.cellsSl4, List.drop_zero, List.drop_succ_cons, List.take_succ_cons, List.take_zero] at f0 f1
  rw [List.take_of_length_le (by omega)] at f1
  obtain ⟨k, e0, wk⟩ := trod_num f0
  obtain ⟨ys, m, _, _, _, hyl, hg⟩ := DataW.trod_array Tryd.underlying45 f1
  obtain ⟨ss, h4, e1, hs⟩ := four_of (w := w) r hr16 (fun i hi => by
    have g := hg i hi
    obtain ⟨y, hy⟩ := some_at ys i (by omega)
    rw [hy, Tryd.cellsSl] at g
    exact trod_slot g)
  simp only [List.cons.injEq, and_true] at e0
  subst e0 e1
  exact ⟨⟨k, ss⟩, rfl, h4, wk, hs⟩

set_option maxRecDepth 100000 in
/-- A page that came in as an argument. -/
theorem open_page {b0 : Nat} {v : Value} {d : DataW H} {ps : List MemPlace} (hval : Value.okWide Tryd.prog w .any b0 47 v) (h : DataW.Trod enc Tryd.prog w base spare held 47 v d ps) :
    ∃ p : PageA, v = .agg p.cells.toArray ∧ p.ss.length = 4 ∧ InI64 p.lsn ∧ ∀ s ∈ p.ss, InSlot w s := by
  obtain ⟨cs, rfl, hcs⟩ := okWide_struct Tryd.underlying47 hval
  obtain ⟨fuel, hf⟩ := h
  have e : (Value.agg cs).cells.toList = cs.toList := rfl
  rw [e] at hf
  obtain ⟨p, hc, rest⟩ := trod_page hf
  refine ⟨p, ?_, rest⟩
  congr 1
  apply Array.toList_inj.1
  rw [hc]

set_option maxRecDepth 100000 in
/-- A slot that came in as an argument. -/
theorem open_slot {b0 : Nat} {v : Value} {d : DataW H} {ps : List MemPlace} (hval : Value.okWide Tryd.prog w .any b0 44 v) (h : DataW.Trod enc Tryd.prog w base spare held 44 v d ps) :
    ∃ s : SlotA, v = .agg s.cells.toArray ∧ InSlot w s := by
  obtain ⟨cs, rfl, hcs⟩ := okWide_struct Tryd.underlying44 hval
  obtain ⟨fuel, hf⟩ := h
  have e : (Value.agg cs).cells.toList = cs.toList := rfl
  rw [e] at hf
  obtain ⟨s, hc, rest⟩ := trod_slot hf
  refine ⟨s, ?_, rest⟩
  congr 1
  apply Array.toList_inj.1
  rw [hc]
end
end Go.Proofs.YtbaocehcnjdkkaaDoor

/- What the laws of pages share. -/
namespace Go.Proofs.YtbaocehcnjdkkaaDoor
open Go.RowKit

theorem map_len4 {ss ts : List SlotA} (h : ts.map (·.v) = ss.map (·.v)) (h4 : ss.length = 4) : ts.length = 4 := by
  have := congrArg List.length h
  simp only [List.length_map] at this
  omega
theorem small_of {ss ts : List SlotA} (h : ts.map (·.v) = ss.map (·.v)) (hl : ∀ s ∈ ss, s.v.o.ints.length ≤ 1048576 ∧ s.v.o.refs.length ≤ 1048576) : ∀ s ∈ ts, s.v.o.ints.length ≤ 1048576 ∧ s.v.o.refs.length ≤ 1048576 := by
  intro t ht
  have : t.v ∈ ss.map (·.v) := by rw [← h]; exact List.mem_map.2 ⟨t, ht, rfl⟩
  obtain ⟨s, hs, e⟩ := List.mem_map.1 this
  rw [← e]
  exact hl s hs
theorem wide_of {ss : List SlotA} (hl : ∀ s ∈ ss, s.v.o.ints.length ≤ 1048576 ∧ s.v.o.refs.length ≤ 1048576) : ∀ s ∈ ss, s.v.o.ints.length ≤ 1099511627776 ∧ s.v.o.refs.length ≤ 1099511627776 := fun s hs => by have := hl s hs; omega

end Go.Proofs.YtbaocehcnjdkkaaDoor

/- What came in, read: a slice of bytes. -/
namespace Go.Proofs.YtbaocehcnjdkkaaDoor
open Go.ChangeShapes Go.WideShapes Go.ChangeAt Go.RowKit

section
variable {H : Type} {enc : TypeId × Value → H} {w : World} {base : Nat} {spare : Nat → Bool} {held : Bool}

theorem trod_bytes {fuel : Nat} {cs : List Value} {x : DataW H × List MemPlace} (h : DataW.trod enc Tryd.prog w base spare held fuel 22 cs = some x) :
    ∃ (a : Option Addr) (c : Nat) (ns : List Int), cs = [.slice a ns.length c] ∧ Reads w a ns ∧ (a = none → c = 0) ∧ ns.length ≤ maxLen := by
  rcases open_ints Tryd.underlying22 Tryd.underlying5 (by kernel_rfl) h with ⟨rfl, _⟩ | ⟨a, len, cap, zs, rfl, _, hl, hm, hz, _, hcell, hwf⟩
  · exact ⟨none, 0, [], rfl, ⟨by simp, by simp⟩, fun _ => rfl, by simp⟩
  · have hlz : len ≤ zs.length := by rw [hz]; split <;> omega
    refine ⟨some a, cap, zs.take len, by simp; omega, ⟨fun z hzz => ?_, ?_⟩, (fun h => by cases h), by simp; omega⟩
    · have := hwf z (List.mem_of_mem_take hzz)
      simp [Lit.wf, IntKind.min, IntKind.max, IntKind.signed, IntKind.bits] at this
      omega
    · intro hne
      have hpos := List.length_pos_iff.2 hne
      simp at hpos
      obtain ⟨b, off, spot⟩ := a
      have hc0 := hcell 0 (by omega)
      have hspot : spot = none := by simpa [Addr.add] using World.cell?_spot hc0
      subst hspot
      refine ⟨b, off, rfl, fun i hi => ?_⟩
      have hi' : i < len := by simp at hi; omega
      have := hcell i (by omega)
      have e : (List.take len zs).getD i 0 = zs.getD i 0 := by simp [List.getD, hi']
      rw [e, ← Addr_add]
      exact this

set_option maxRecDepth 100000 in
/-- A slice of bytes that came in as an argument. -/
theorem open_bytes {b0 : Nat} {v : Value} {d : DataW H} {ps : List MemPlace} (hval : Value.okWide Tryd.prog w .any b0 22 v) (h : DataW.Trod enc Tryd.prog w base spare held 22 v d ps) :
    ∃ (a : Option Addr) (c : Nat) (ns : List Int), v = .slice a ns.length c ∧ Reads w a ns ∧ (a = none → c = 0) ∧ ns.length ≤ maxLen := by
  obtain ⟨a, len, cap, hv⟩ := okWide_slice (e := 5) Tryd.underlying22 hval
  subst hv
  obtain ⟨fuel, hf⟩ := h
  have e : (Value.slice a len cap).cells.toList = [Value.slice a len cap] := rfl
  rw [e] at hf
  obtain ⟨a', c', ns, hc, rest⟩ := trod_bytes hf
  simp only [List.cons.injEq, and_true] at hc
  exact ⟨a', c', ns, hc, rest⟩
end
end Go.Proofs.YtbaocehcnjdkkaaDoor

/- The walk of laws.FnExactGetPage. -/
namespace Go.Proofs.YtbaocehcnjdkkaaDoor
open Go.RowKit

set_option maxHeartbeats 4000000 in
set_option maxRecDepth 100000 in
theorem lawGetPage_walk (a : Option Addr) (cap : Nat) (zs : List Int) (w : World) (hg : ErrT w) (hr : Reads w a zs) :
    Calls Tryd.prog 6 #[.slice a zs.length cap] w fun e w' => e = .returned (.bool true) ∧ Below w.heap.size w w' := by
  by_cases hbig : 1048576 < zs.length
  · go_enter Tryd.func6, Tryd.ntmps6
    go_wp2
    go_ret
    exact ⟨rfl, Below.refl _ _⟩
  have HPL := pairP_len zs (pairP zs).1.1 (pairP zs).1.2 (pairP zs).2 rfl
  have HC1 := fun (a' : Option Addr) (c' : Nat) (w' : World) (h1 : Reads w' a' zs) (h2 : zs.length ≤ c') => specGetPage_any a' c' zs w' h1 (by omega) h2
  have HC2 := fun (a' : Option Addr) (c' : Nat) (w' : World) (hg' : ErrT w') (h1 : Reads w' a' zs) (h2 : zs.length ≤ c') => implGetPage_any a' c' zs w' hg' h1 (by omega) h2
  generalize pairP zs = PP at *
  have HLEN : Hid (PP.1.2.length = 4 ∧ ∀ s ∈ PP.1.2, s.o.ints.length ≤ 5 ∧ s.o.refs.length ≤ 5) := HPL
  have H4 : Hid (∀ ts : List SlotA, ts.map (·.v) = PP.1.2 → ts.length = 4 ∧ Fit ts ∧ countS ts ≤ 40) := by
    intro ts h
    have h4 : ts.length = 4 := by have := congrArg List.length h; rw [List.length_map, HLEN.out.1] at this; exact this
    have hs : ∀ s ∈ ts, s.v.o.ints.length ≤ 5 ∧ s.v.o.refs.length ≤ 5 := fun s hs => HLEN.out.2 s.v (by rw [← h]; exact List.mem_map.2 ⟨s, hs, rfl⟩)
    refine ⟨h4, fun s hs' => by have := hs s hs'; omega, ?_⟩
    have := countS_le ts 5 hs
    rw [h4] at this
    omega
  clear HPL
  have HC1' : Hid _ := HC1
  have HC2' : Hid _ := HC2
  clear HC1 HC2
  go_enter Tryd.func6, Tryd.ntmps6
  go_wp2_with fail
  refine (toByteS_own a cap zs w hr (by omega)).mono ?_
  rintro e w1 ⟨t1, c1, rfl, ho1, hb1⟩
  have hs1 := hb1.size
  go_wp2_with fail
  refine (HC1'.out t1 c1 w1 ho1.reads ho1.len_cap).mono ?_
  rintro e w2 ⟨aw, rfl, hva, hoa, hb2⟩
  have hs2 := hb2.size
  obtain ⟨haw4, haf, _⟩ := H4.out aw hva.out
  have HIw : Hid ((Tryd.prog.info? 31).map (·.size) = some (PageA.cells ⟨PP.1.1, aw⟩).length) := by rw [Hid, page_len _ haw4]; kernel_rfl
  have HOw : Hid (_) := all_oneCell_toArray (oneP ⟨PP.1.1, aw⟩)
  obtain ⟨V3, hV3, bz3, hbz3, hsz3⟩ := boxes1 w2 [.int .i64 0, .bool false, .int .i64 0, .slice none 0 0, .slice none 0 0, .bool false, .int .i64 0, .slice none 0 0, .slice none 0 0, .bool false, .int .i64 0, .slice none 0 0, .slice none 0 0, .bool false, .int .i64 0, .slice none 0 0, .slice none 0 0] 31
  obtain ⟨W3, hW3, hw3, hs3, HT3, _, bw3⟩ := page_out (C := w2.heap.size) (T := 31) ⟨PP.1.1, aw⟩ haw4 _ rfl bz3 Tryd.underlying31 rfl (by kernel_rfl)
  have M3 : Below w2.heap.size w2 W3 := hbz3.trans (hw3.below (Nat.le_refl _) (by omega))
  have ow3 : OwnS W3 w1.heap.size w2.heap.size aw := hoa.below M3
  have N3 : Below w.heap.size w W3 := (hb1.trans (hb2.mono hs1)).trans (M3.mono (by omega))
  have hsw3 := M3.size
  have hlw3 := bw3.lt
  clear bz3 hbz3 hsz3 hw3 hs3 hoa ho1
  go_wp2_with (first | (guard_target = wpList _ _ _ (Oper.mk none (Op.store _ (Operand.tmp 3) _) _ _ _ _ :: _) _ _; refine wpList_store_mid rfl 31 (.tmp 3) (.tmp 20) rfl w2.heap.size 0 (PageA.cells ⟨PP.1.1, aw⟩).toArray rfl rfl (by rw [hV3.out]; exact HT3.out) (by rw [List.size_toArray]; exact HIw.out) HOw.out ?_) | fail)
  rw [hV3.out, hW3.out]
  clear hV3 hW3 HT3
  refine (toByteS_own a cap zs W3 (hr.below N3) (by omega)).mono ?_
  rintro e w4 ⟨t4, c4, rfl, ho4, hb4⟩
  have hs4 := hb4.size
  have ox4 := ho4.spanned
  go_wp2_with fail
  refine (HC2'.out t4 c4 w4 (hg.keep (N3.trans (hb4.mono N3.size))) ho4.reads ho4.len_cap).mono ?_
  rintro e w5 ⟨ag, rfl, hvg, hog, hb5⟩
  have hs5 := hb5.size
  obtain ⟨hag4, hgf, hgc⟩ := H4.out ag hvg.out
  have HIg : Hid ((Tryd.prog.info? 31).map (·.size) = some (PageA.cells ⟨PP.1.1, ag⟩).length) := by rw [Hid, page_len _ hag4]; kernel_rfl
  have HOg : Hid (_) := all_oneCell_toArray (oneP ⟨PP.1.1, ag⟩)
  obtain ⟨V6, hV6, bz6, hbz6, hsz6⟩ := boxes1 w5 [.int .i64 0, .bool false, .int .i64 0, .slice none 0 0, .slice none 0 0, .bool false, .int .i64 0, .slice none 0 0, .slice none 0 0, .bool false, .int .i64 0, .slice none 0 0, .slice none 0 0, .bool false, .int .i64 0, .slice none 0 0, .slice none 0 0] 31
  obtain ⟨W6, hW6, hw6, hs6, HT6, _, bg6⟩ := page_out (C := w5.heap.size) (T := 31) ⟨PP.1.1, ag⟩ hag4 _ rfl bz6 Tryd.underlying31 rfl (by kernel_rfl)
  have M6 : Below w5.heap.size w5 W6 := hbz6.trans (hw6.below (Nat.le_refl _) (by omega))
  have M36 : Below W3.heap.size W3 W6 := (hb4.trans (hb5.mono hs4)).trans (M6.mono (by omega))
  have M46 : Below w4.heap.size w4 W6 := hb5.trans (M6.mono hs5)
  have og6 : OwnS W6 w4.heap.size w5.heap.size ag := hog.below M6
  have ow6 := ow3.below M36
  have bw6 := bw3.below M36 hlw3
  have ox6 := ox4.below M46
  have N6 : Below w.heap.size w W6 := N3.trans (M36.mono N3.size)
  have hsg6 := M6.size
  have hlg6 := bg6.lt
  have hN3 := N3.size
  clear bz6 hbz6 hsz6 hw6 hs6 hog ho4 ow3 bw3 ox4
  have rg6 := Box.range [] (PageA.cells ⟨PP.1.1, ag⟩) [] (by simpa using bg6 : Box W6 w5.heap.size ([] ++ ((PageA.cells ⟨PP.1.1, ag⟩) ++ [])) 31)
  have rw6 := Box.range [] (PageA.cells ⟨PP.1.1, aw⟩) [] (by simpa using bw6 : Box W6 w2.heap.size ([] ++ ((PageA.cells ⟨PP.1.1, aw⟩) ++ [])) 31)
  go_wp2_with (first | (guard_target = wpList _ _ _ (Oper.mk none (Op.store _ (Operand.tmp 6) _) _ _ _ _ :: _) _ _; refine wpList_store_mid rfl 31 (.tmp 6) (.tmp 27) rfl w5.heap.size 0 (PageA.cells ⟨PP.1.1, ag⟩).toArray rfl rfl (by rw [hV6.out]; exact HT6.out) (by rw [List.size_toArray]; exact HIg.out) HOg.out ?_) | (guard_target = wpList _ _ _ (Oper.mk (some 29) _ _ _ _ _ :: _) _ _; refine wpList_load_mid rfl 31 (.tmp 6) rfl w5.heap.size 0 rfl (PageA.cells ⟨PP.1.1, ag⟩) _ (by rw [hV6.out, hW6.out]; exact rg6) Tryd.underlying31 rfl HIg.out ?_) | (guard_target = wpList _ _ _ (Oper.mk (some 30) _ _ _ _ _ :: _) _ _; refine wpList_load_mid rfl 31 (.tmp 3) rfl w2.heap.size 0 rfl (PageA.cells ⟨PP.1.1, aw⟩) _ (by rw [hV6.out, hW6.out]; exact rw6) Tryd.underlying31 rfl HIw.out ?_) | fail)
  rw [hV6.out, hW6.out]
  clear hV6 hW6 HT6 rg6 rw6
  refine (eqPage_same PP.1.1 ag aw hag4 (by rw [hva.out, hvg.out]) W6 og6.reads ow6.reads hgf).mono ?_
  rintro e w7 ⟨rfl, hb7⟩
  have hs7 := hb7.size
  have N7 : Below w.heap.size w w7 := N6.trans (hb7.mono N6.size)
  generalize hOK : PP.2 = OK at *
  clear hOK
  go_wp2_with fail
  refine (toByteS_own a cap zs w7 (hr.below N7) (by omega)).mono ?_
  rintro e w8 ⟨t8, c8, rfl, ho8, hb8⟩
  have M68 : Below W6.heap.size W6 w8 := hb7.trans (hb8.mono hs7)
  have ox8 := ox6.below M68
  go_wp2_with fail
  refine (eqByteS_same t4 t8 c4 c8 zs w8 ox8.reads ho8.reads (by omega)).mono ?_
  rintro e w9 ⟨rfl, n9, rfl⟩
  have M69 : Below W6.heap.size W6 (w8.drewN n9) := below_drewN M68 n9
  have ox9 := ox6.below M69
  have ow9 := ow6.below M69
  have og9 := og6.below M69
  have bw9 := bw6.below M69 bw6.lt
  have bg9 := bg6.below M69 bg6.lt
  have N9 : Below w.heap.size w (w8.drewN n9) := N6.trans (M69.mono N6.size)
  have hs9 : W6.heap.size ≤ (w8.drewN n9).heap.size := M69.size
  generalize w8.drewN n9 = w9 at *
  clear ox8 ox6 ow6 og6 bw6 bg6 ho8 hb8
  go_wp2_with fail
  refine (markByteS_r W3.heap.size w4.heap.size t4 c4 1 zs w9 ox9 (by omega) (by omega)).mono ?_
  rintro e w10 ⟨mx, rfl, hmx, omx, hw10⟩
  have hs10 := hw10.size
  have ow10 : OwnS w10 w1.heap.size w2.heap.size aw := ow9.within hw10 (.inl (by omega))
  have og10 : OwnS w10 w4.heap.size w5.heap.size ag := og9.within hw10 (.inr (Nat.le_refl _))
  have bw10 := bw9.within hw10 (by omega)
  have bg10 := bg9.within hw10 (by omega)
  have N10 : Below w.heap.size w w10 := N9.trans (hw10.below (by omega) (by omega))
  have hkn : ¬ ((1 : Int) + (zs.length : Int)) < 0 := by omega
  have rg10 := Box.range [] (PageA.cells ⟨PP.1.1, ag⟩) [] (by simpa using bg10 : Box w10 w5.heap.size ([] ++ ((PageA.cells ⟨PP.1.1, ag⟩) ++ [])) 31)
  have rw10 := Box.range [] (PageA.cells ⟨PP.1.1, aw⟩) [] (by simpa using bw10 : Box w10 w2.heap.size ([] ++ ((PageA.cells ⟨PP.1.1, aw⟩) ++ [])) 31)
  go_wp2_with (first | (guard_target = wpList _ _ _ (Oper.mk (some 49) _ _ _ _ _ :: _) _ _; refine wpList_load_mid_if (by rfl) 31 (.tmp 6) rfl w5.heap.size 0 rfl (PageA.cells ⟨PP.1.1, ag⟩) _ (rg10) Tryd.underlying31 rfl HIg.out ?_) | (guard_target = wpList _ _ _ (Oper.mk (some 50) _ _ _ _ _ :: _) _ _; refine wpList_load_mid_if (by rfl) 31 (.tmp 3) rfl w2.heap.size 0 rfl (PageA.cells ⟨PP.1.1, aw⟩) _ (rw10) Tryd.underlying31 rfl HIw.out ?_) | fail)
  clear rg10 rw10
  refine (eqPage_same PP.1.1 ag aw hag4 (by rw [hva.out, hvg.out]) w10 og10.reads ow10.reads hgf).mono ?_
  rintro e w11 ⟨rfl, hb11⟩
  have hs11 := hb11.size
  have og11 := og10.below hb11
  have ow11 := ow10.below hb11
  have bw11 := bw10.below hb11 bw10.lt
  have bg11 := bg10.below hb11 bg10.lt
  have N11 : Below w.heap.size w w11 := N10.trans (hb11.mono N10.size)
  have rg11 := Box.range [] (PageA.cells ⟨PP.1.1, ag⟩) [] (by simpa using bg11 : Box w11 w5.heap.size ([] ++ ((PageA.cells ⟨PP.1.1, ag⟩) ++ [])) 31)
  go_wp2_with (first | (guard_target = wpList _ _ _ (Oper.mk (some 59) _ _ _ _ _ :: _) _ _; refine wpList_load_mid rfl 31 (.tmp 6) rfl w5.heap.size 0 rfl (PageA.cells ⟨PP.1.1, ag⟩) _ (rg11) Tryd.underlying31 rfl HIg.out ?_) | fail)
  clear rg11
  refine (markPage_touch ⟨PP.1.1, ag⟩ hag4 w4.heap.size w5.heap.size 1 w11 og11 hgf (by omega) (by omega) (by omega)).mono ?_
  simp only
  rintro e w12 ⟨rfl, om12, ht12⟩
  have hw12 : Within w4.heap.size w5.heap.size w11 w12 := ht12.within og11.blocks_lt
  have hs12 := hw12.size
  have ow12 : OwnS w12 w1.heap.size w2.heap.size aw := ow11.within hw12 (.inl (by omega))
  have bw12 := bw11.within hw12 (by omega)
  have bg12 := bg11.within hw12 (by omega)
  have N12 : Below w.heap.size w w12 := N11.trans (hw12.below (by omega) (by have := N11.size; omega))
  have rg12 := Box.range [] (PageA.cells ⟨PP.1.1, ag⟩) [] (by simpa using bg12 : Box w12 w5.heap.size ([] ++ ((PageA.cells ⟨PP.1.1, ag⟩) ++ [])) 31)
  go_wp2_with (first | (guard_target = wpList _ _ _ (Oper.mk (some 62) _ _ _ _ _ :: _) _ _; refine wpList_load_mid rfl 31 (.tmp 6) rfl w5.heap.size 0 rfl (PageA.cells ⟨PP.1.1, ag⟩) _ (rg12) Tryd.underlying31 rfl HIg.out ?_) | fail)
  clear rg12
  refine (heldPage_any ⟨PP.1.1, ag⟩ hag4 w4.heap.size w5.heap.size 1 w12 om12 hgf (by omega) (by omega)).mono ?_
  simp only
  rintro e w13 ⟨rfl, hb13⟩
  have hs13 := hb13.size
  have N13 : Below w.heap.size w w13 := N12.trans (hb13.mono N12.size)
  have hng : ¬ ((1 : Int) + (countS ag : Int)) < 0 := by omega
  generalize hcg : countS ag = cg at *
  have HCG : Hid (_ = _) := hcg
  clear hcg
  go_wp2_with fail
  refine (toByteS_own a cap zs w13 (hr.below N13) (by omega)).mono ?_
  rintro e w14 ⟨t14, c14, rfl, ho14, hb14⟩
  have hs14 := hb14.size
  go_wp2_with fail
  refine (HC2'.out t14 c14 w14 (hg.keep (N13.trans (hb14.mono N13.size))) ho14.reads ho14.len_cap).mono ?_
  rintro e w15 ⟨ah, rfl, hvh, hoh, hb15⟩
  have hs15 := hb15.size
  obtain ⟨hah4, hhf, _⟩ := H4.out ah hvh.out
  have HIh : Hid ((Tryd.prog.info? 31).map (·.size) = some (PageA.cells ⟨PP.1.1, ah⟩).length) := by rw [Hid, page_len _ hah4]; kernel_rfl
  have HOh : Hid (_) := all_oneCell_toArray (oneP ⟨PP.1.1, ah⟩)
  obtain ⟨V16, hV16, bz16, hbz16, hsz16⟩ := boxes1 w15 [.int .i64 0, .bool false, .int .i64 0, .slice none 0 0, .slice none 0 0, .bool false, .int .i64 0, .slice none 0 0, .slice none 0 0, .bool false, .int .i64 0, .slice none 0 0, .slice none 0 0, .bool false, .int .i64 0, .slice none 0 0, .slice none 0 0] 31
  obtain ⟨W16, hW16, hw16, hs16, HT16, _, bh16⟩ := page_out (C := w15.heap.size) (T := 31) ⟨PP.1.1, ah⟩ hah4 _ rfl bz16 Tryd.underlying31 rfl (by kernel_rfl)
  have M16 : Below w15.heap.size w15 W16 := hbz16.trans (hw16.below (Nat.le_refl _) (by omega))
  have M126 : Below w12.heap.size w12 W16 := ((hb13.trans (hb14.mono hs13)).trans (hb15.mono (by omega))).trans (M16.mono (by omega))
  have oh16 := hoh.below M16
  have ow16 := ow12.below M126
  have om16 := om12.below M126
  have bw16 := bw12.below M126 bw12.lt
  have bg16 := bg12.below M126 bg12.lt
  have N16 : Below w.heap.size w W16 := N12.trans (M126.mono N12.size)
  clear bz16 hbz16 hsz16 hw16 hs16 hoh ho14
  have rh16 := Box.range [] (PageA.cells ⟨PP.1.1, ah⟩) [] (by simpa using bh16 : Box W16 w15.heap.size ([] ++ ((PageA.cells ⟨PP.1.1, ah⟩) ++ [])) 31)
  have rw16 := Box.range [] (PageA.cells ⟨PP.1.1, aw⟩) [] (by simpa using bw16 : Box W16 w2.heap.size ([] ++ ((PageA.cells ⟨PP.1.1, aw⟩) ++ [])) 31)
  go_wp2_with (first | (guard_target = wpList _ _ _ (Oper.mk none (Op.store _ (Operand.tmp 11) _) _ _ _ _ :: _) _ _; refine wpList_store_mid rfl 31 (.tmp 11) (.tmp 74) rfl w15.heap.size 0 (PageA.cells ⟨PP.1.1, ah⟩).toArray rfl rfl (by rw [hV16.out]; exact HT16.out) (by rw [List.size_toArray]; exact HIh.out) HOh.out ?_) | (guard_target = wpList _ _ _ (Oper.mk (some 76) _ _ _ _ _ :: _) _ _; refine wpList_load_mid rfl 31 (.tmp 11) rfl w15.heap.size 0 rfl (PageA.cells ⟨PP.1.1, ah⟩) _ (by rw [hV16.out, hW16.out]; exact rh16) Tryd.underlying31 rfl HIh.out ?_) | (guard_target = wpList _ _ _ (Oper.mk (some 77) _ _ _ _ _ :: _) _ _; refine wpList_load_mid rfl 31 (.tmp 3) rfl w2.heap.size 0 rfl (PageA.cells ⟨PP.1.1, aw⟩) _ (by rw [hV16.out, hW16.out]; exact rw16) Tryd.underlying31 rfl HIw.out ?_) | fail)
  rw [hV16.out, hW16.out]
  clear hV16 hW16 HT16 rh16 rw16
  refine (eqPage_same PP.1.1 ah aw hah4 (by rw [hva.out, hvh.out]) W16 oh16.reads ow16.reads hhf).mono ?_
  rintro e w17 ⟨rfl, hb17⟩
  have om17 := om16.below hb17
  have bg17 := bg16.below hb17 bg16.lt
  have N17 : Below w.heap.size w w17 := N16.trans (hb17.mono N16.size)
  have rg17 := Box.range [] (PageA.cells ⟨PP.1.1, ag⟩) [] (by simpa using bg17 : Box w17 w5.heap.size ([] ++ ((PageA.cells ⟨PP.1.1, ag⟩) ++ [])) 31)
  go_wp2_with (first | (guard_target = wpList _ _ _ (Oper.mk (some 85) _ _ _ _ _ :: _) _ _; refine wpList_load_mid rfl 31 (.tmp 6) rfl w5.heap.size 0 rfl (PageA.cells ⟨PP.1.1, ag⟩) _ (rg17) Tryd.underlying31 rfl HIg.out ?_) | fail)
  clear rg17
  refine (heldPage_any ⟨PP.1.1, ag⟩ hag4 w4.heap.size w5.heap.size 1 w17 om17 hgf (by omega) (by omega)).mono ?_
  simp only [HCG.out]
  rintro e w18 ⟨rfl, hb18⟩
  go_wp2
  go_ret
  exact ⟨rfl, N17.trans (hb18.mono N17.size)⟩
end Go.Proofs.YtbaocehcnjdkkaaDoor

/- What the row's condition on errors.errorType gives a walk; a world that meets it. -/
namespace Go.Proofs.YtbaocehcnjdkkaaDoor
open Go.ChangeShapes Go.WideShapes Go.RowKit

theorem Tryd.et : Tryd.prog.globalNamed "errors.errorType" = some 0 := by kernel_rfl
theorem Tryd.rt : (Tryd.prog.cutTypes.find? (·.1 == "internal/reflectlite.rtype")).map (·.2) = some 154 := by kernel_rfl
theorem Tryd.oneRow : ((List.range 196).filter fun t => Tryd.prog.rowNamed t [101, 114, 114, 111, 114]) = [123] := by kernel_rfl
theorem Tryd.typesSize : Tryd.prog.types.size = 196 := by kernel_rfl

theorem errT_of_handles {W : World} {laid : List (String × DataW Unit)} (hm : ("errors.errorType", Rows.laid_errors_errorType) ∈ laid) (h : handlesMet Tryd.prog laid W) : ErrT W := by
  obtain ⟨name, u, ty, e1, e2, e3, e4, e5⟩ := h _ hm
  have en : name = [101, 114, 114, 111, 114] := (Option.some.inj e1).symm
  subst en
  obtain rfl := Option.some.inj (Tryd.rt.symm.trans e2)
  have hm : ty ∈ (List.range 196).filter fun t => Tryd.prog.rowNamed t [101, 114, 114, 111, 114] := List.mem_filter.2 ⟨List.mem_range.2 (by rw [← Tryd.typesSize]; exact e3), e4⟩
  rw [Tryd.oneRow] at hm
  obtain rfl := List.mem_singleton.1 hm
  have hh : typeHandle Tryd.prog 123 = .pointer (some ⟨1, 123, none⟩) := by kernel_rfl
  rw [hh] at e5
  unfold ErrT
  simpa using World.var?_cell Tryd.et e5 0

/-- The one listed variable. -/
def laid1 : List (String × DataW Unit) := [("errors.errorType", Rows.laid_errors_errorType)]
theorem errT_of_laid1 {W : World} (h : laidMetH Tryd.prog laid1 W) : ErrT W := by
  have h' : laidMet Tryd.prog [] W ∧ handlesMet Tryd.prog laid1 W := h
  exact errT_of_handles (List.mem_singleton.2 rfl) h'.2
end Go.Proofs.YtbaocehcnjdkkaaDoor
