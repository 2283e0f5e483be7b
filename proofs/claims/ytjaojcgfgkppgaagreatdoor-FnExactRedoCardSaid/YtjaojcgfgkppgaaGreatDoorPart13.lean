/- Several texts in one, in their order. -/
import Derived.Test.YtjaojcgfgkppgaaGreatDoorPart10
import Derived.Deep.MidRow
import Derived.Deep.RegionHeld3
import Derived.Test.YtjaojcgfgkppgaaGreatDoorPart8
import Derived.Test.YtjaojcgfgkppgaaGreatDoorPart12
/- The walks of impl.markSlots over impl.slotHas and over impl.slotOk. -/
namespace Go.Proofs.YtjaojcgfgkppgaaGreatDoor
open Go.RowKit

/-- A row of four marks of which the first ones are laid. -/
def mkB (bs : List Bool) : List Value := bs.map Value.bool ++ List.replicate (4 - bs.length) (.bool false)
theorem mkB_set (bs : List Bool) (b : Bool) (h : bs.length < 4) : (mkB bs).set bs.length (.bool b) = mkB (bs ++ [b]) := by
  unfold mkB
  rw [List.set_append_right _ _ (by simp)]
  have e : 4 - bs.length = (4 - (bs ++ [b]).length) + 1 := by simp; omega
  rw [e, List.replicate_succ]
  simp
theorem mkB_len (bs : List Bool) (h : bs.length ≤ 4) : (mkB bs).length = 4 := by simp [mkB]; omega
theorem mkB_all (bs : List Bool) (h : bs.length = 4) : mkB bs = bs.map Value.bool := by simp [mkB, h]
theorem mkB_some (bs : List Bool) (h : bs.length ≤ 4) (k : Nat) (hk : k < 4) : ∃ v, (mkB bs)[k]? = some v := ⟨_, List.getElem?_eq_getElem (by rw [mkB_len bs h]; exact hk)⟩
/-- The answer is a row of these four marks. -/
def FourAns (bs : List Bool) (e : Ending) : Prop := ∃ c0 c1 c2 c3 : Bool, e = .returned (.agg #[.bool c0, .bool c1, .bool c2, .bool c3]) ∧ bs = [c0, c1, c2, c3]
theorem take_snoc (ss : List SlotA) (q : SlotV → Bool) (k : Nat) (h : k < ss.length) : (ss.take (k + 1)).map (fun s => q s.v) = (ss.take k).map (fun s => q s.v) ++ [q (ss.getD k zeroS).v] := by
  rw [List.take_add_one, List.map_append]
  simp [List.getD, h]

set_option maxHeartbeats 1000000 in
set_option maxRecDepth 100000 in
theorem markSlots_ok (p : PageA) (h4 : p.ss.length = 4) (w : World) (hg : ErrT w) (hr : ReadsS w p.ss) (hl : Fit p.ss) :
    Calls Tryz.prog 104 #[.agg p.cells.toArray, .func (.func 75) #[] #[]] w fun e w' => FourAns (p.ss.map (fun s => slotB s.v)) e ∧ Below w.heap.size w w' := by
  obtain ⟨n, ss⟩ := p
  simp only [PageA.cells] at *
  obtain ⟨W, hW, b0, b1, b2, hbW, hsW⟩ := boxes3 w (.int .i64 n :: cellsS ss) [.bool false, .bool false, .bool false, .bool false] [.bool false, .bool false, .bool false, .bool false] 52 148 148
  have b2' : Box W (w.heap.size + 1 + 1) (mkB []) 148 := b2
  have hsW' : w.heap.size + 1 + 1 < W.heap.size := by omega
  have hrg0 : W.rangeAt w.heap.size 1 (cellsS ss) := Box.range [.int .i64 n] (cellsS ss) [] (by simpa using b0)
  have hi0 : (Tryz.prog.info? 50).map (·.size) = some (cellsS ss).length := by rw [cellsS_len, h4]; kernel_rfl
  have HX := run_index_slot ss h4
  have H4 : Hid (ss.length = 4) := h4
  clear b2 hsW h4
  go_enter Tryz.func104, Tryz.ntmps104
  go_wp2_with (first | (guard_target = wpList _ _ _ (Oper.mk (some 9) _ _ _ _ _ :: _) _ _; refine wpList_load_mid rfl 50 (.tmp 8) rfl w.heap.size 1 rfl (cellsS ss) _ (by rw [hW.out]; exact hrg0) Tryz.underlying50 rfl hi0 ?_) | fail)
  rw [hW.out]
  clear hW hrg0 hi0
  go_loopw [10] (fun i wr => ∃ (k : Nat) (bs : List Bool), i = .int .i64 k ∧ k ≤ 4 ∧ Hid (bs.length = k ∧ bs = (ss.take k).map (fun s => slotB s.v)) ∧ Box wr (w.heap.size + 1 + 1) (mkB bs) 148 ∧ Below (w.heap.size + 1 + 1) W wr)
    (fun i _ => 4 - (intOf i).toNat)
  case atStart => exact ⟨0, [], rfl, by omega, ⟨rfl, rfl⟩, b2', Below.refl _ _⟩
  case round =>
    obtain ⟨k, bs, rfl, hk, hbs, hbox, hbl⟩ := hrel
    clear b2'
    have b1r := b1.below hbl (by omega)
    have hsr := hbl.size
    by_cases hlt : k < 4
    · have hkl : k < ss.length := by rw [H4.out]; exact hlt
      have hx := HX k hlt
      clear HX
      have hbs4 : bs.length ≤ 4 := by have := hbs.out.1; omega
      have HV : Hid (_ = _) := take_snoc ss (fun s => slotB s) k hkl
      have hgr := hg.keep (hbW.trans (hbl.mono (by omega)))
      have hrk := (hr _ (getD_mem hkl)).below (hbW.trans (hbl.mono (by omega)))
      have hlk : Fit [ss.getD k zeroS] := fun s hs => by obtain rfl := List.mem_singleton.1 hs; exact hl _ (getD_mem hkl)
      generalize ss.getD k zeroS = s at *
      simp only [SlotA.cells] at hx
      obtain ⟨W1, hW1, bx, hbx1, hsx1⟩ := boxes1 wr [.bool s.v.has, .int .i64 s.v.o.kind, .slice s.aI s.v.o.ints.length s.cI, .slice s.aR s.v.o.refs.length s.cR] 27
      have hsz := hbox.lt
      have B1 : Below (w.heap.size + 1 + 1) W W1 := hbl.trans (hbx1.mono (by omega))
      go_wp2_with fail
      rw [hW1.out]
      clear hx
      refine (slotOk_any s W1 (hgr.keep hbx1) (hrk.below hbx1) hlk).mono ?_
      rintro e w2 ⟨rfl, hb2⟩
      have hs2 := hb2.size
      have bm2 := (hbox.below hbx1 hsz).below hb2 (by omega)
      obtain ⟨u, hu⟩ := mkB_some bs hbs4 k hlt
      have hc := bm2.cell k u hu
      have hf := bm2.frozen k
      obtain ⟨W3, hW3, b3, hw3, hs3⟩ := box_set bm2 k (.bool (slotB s.v))
      have b3' : Box W3 (w.heap.size + 1 + 1) (mkB (bs ++ [slotB s.v])) 148 := by
        have e := mkB_set bs (slotB s.v) (by have := hbs.out.1; omega)
        rw [hbs.out.1] at e
        rw [← e]; exact b3
      have HB : Hid ((bs ++ [slotB s.v]).length = k + 1 ∧ bs ++ [slotB s.v] = (ss.take (k + 1)).map (fun s => slotB s.v)) := ⟨by have := hbs.out.1; simp; omega, by rw [HV.out, ← hbs.out.2]⟩
      have B3 : Below (w.heap.size + 1 + 1) W W3 := (B1.trans (hb2.mono (by omega))).trans (hw3.below (Nat.le_refl _) (by omega))
      clear b3 bm2 hu HV
      go_wp2_with fail
      rw [hW3.out]
      go_roundw
      case rel => exact ⟨k + 1, bs ++ [slotB s.v], by go_num, by omega, HB, b3', B3⟩
      case measure => simp [intOf]; omega
    · obtain rfl : k = 4 := by omega
      have hkk : ¬ ((4 : Nat) : Int) < 4 := by omega
      have HQ : Hid (bs = ss.map (fun s => slotB s.v)) := by rw [Hid, hbs.out.2, List.take_of_length_le (by rw [H4.out]; omega)]
      obtain ⟨c0, c1, c2, c3, rfl⟩ : ∃ c0 c1 c2 c3, bs = [c0, c1, c2, c3] := by
        match bs, hbs.out.1 with
        | [c0, c1, c2, c3], _ => exact ⟨c0, c1, c2, c3, rfl⟩
      have hbx : Box wr (w.heap.size + 1 + 1) [.bool c0, .bool c1, .bool c2, .bool c3] 148 := hbox
      obtain ⟨x0, x1, x2, x3, _⟩ := hbx.four
      obtain ⟨y0, y1, y2, y3, f0, f1, f2, f3⟩ := b1r.four
      obtain ⟨WF, hWF, bF, hwF, hsF⟩ := box4_fill b1r (.bool c0) (.bool c1) (.bool c2) (.bool c3)
      have hbF : Below w.heap.size w WF := (hbW.trans (hbl.mono (by omega))).trans (hwF.below (by omega) (by omega))
      clear hbox hbs
      go_wp2
      rw [hWF.out]
      obtain ⟨q0, q1, q2, q3, _⟩ := bF.four
      exact bodyPost_ret (v := .agg #[.bool c0, .bool c1, .bool c2, .bool c3]) (by simp [results, Tryz.results104, go_sem, q0, q1, q2, q3]) rfl ⟨⟨c0, c1, c2, c3, rfl, HQ.out.symm⟩, hbF⟩
end Go.Proofs.YtjaojcgfgkppgaaGreatDoor

/- The walk of impl.PageOk. -/
namespace Go.Proofs.YtjaojcgfgkppgaaGreatDoor
open Go.RowKit

theorem okP_out {n : Int} {vs : List SlotV} (h : inB n 0 1000000 = false) : okP n vs = false := by simp [okP, h]
theorem okP_four {n : Int} {ss : List SlotA} {c0 c1 c2 c3 : Bool} (h : inB n 0 1000000 = true) (hb : ss.map (fun s => slotB s.v) = [c0, c1, c2, c3]) : okP n (ss.map (·.v)) = (c0 && (c1 && (c2 && c3))) := by
  have e : (ss.map (·.v)).map slotB = [c0, c1, c2, c3] := by rw [List.map_map]; exact hb
  have e2 : ∀ vs : List SlotV, vs.all slotB = (vs.map slotB).all id := fun vs => by induction vs with
    | nil => rfl
    | cons v r ih => rw [List.all_cons, List.map_cons, List.all_cons, ← ih]; rfl
  rw [okP, h, Bool.and_true, e2, e]
  simp

theorem run_eq4 (c0 c1 c2 c3 : Bool) (w : World) : (Op.equalIn 10000 148 (.agg #[.bool c0, .bool c1, .bool c2, .bool c3]) (.agg #[.bool true, .bool true, .bool true, .bool true])).run Tryz.prog w = .ok (c0 && (c1 && (c2 && c3))) w := by
  cases c0 <;> cases c1 <;> cases c2 <;> cases c3 <;> kernel_rfl

set_option maxHeartbeats 1000000 in
set_option maxRecDepth 100000 in
theorem implPageOk_any (p : PageA) (h4 : p.ss.length = 4) (w : World) (hg : ErrT w) (hr : ReadsS w p.ss) (hl : Fit p.ss) :
    Calls Tryz.prog 74 #[.agg p.cells.toArray] w fun e w' => e = .returned (.bool (okP p.lsn (p.ss.map (·.v)))) ∧ Below w.heap.size w w' := by
  obtain ⟨W, hW, b0, b1, hbW, hsW⟩ := boxes2 w p.cells [.bool true, .bool true, .bool true, .bool true] 52 148
  have hc0 : ∀ w', Below W.heap.size W w' → w'.cell? ⟨w.heap.size, 0, none⟩ = some (.int .i64 p.lsn) := fun w' hh => (b0.below hh b0.lt).cell 0 _ rfl
  have hw0 := hc0 W (Below.refl _ _)
  cases hin : inB p.lsn 0 1000000 with
  | false =>
    have HF : Hid (okP p.lsn (p.ss.map (·.v)) = false) := okP_out hin
    have hz := inB_false hin
    clear hin hc0
    generalize okP p.lsn (p.ss.map (·.v)) = R at *
    generalize p.lsn = n at *
    rcases hz with h1 | ⟨h1, h2⟩
    · have h1' : decide ((0 : Int) ≤ n) = false := decide_eq_false (by omega)
      clear h1
      go_enter Tryz.func74, Tryz.ntmps74
      go_wp2_with fail
      rw [hW.out]
      go_quiet (fail)
      go_wp2
      go_ret
      exact ⟨ret_bool HF.out.symm, below_drewN hbW _⟩
    · have h1' : decide ((0 : Int) ≤ n) = true := decide_eq_true (by omega)
      have h2' : decide (n ≤ 1000000) = false := decide_eq_false (by omega)
      clear h1 h2
      go_enter Tryz.func74, Tryz.ntmps74
      go_wp2_with fail
      rw [hW.out]
      go_quiet (fail)
      go_wp2
      go_ret
      exact ⟨ret_bool HF.out.symm, below_drewN hbW _⟩
  | true =>
    obtain ⟨h1, h2⟩ := inB_true hin
    have h1' : (0 : Int) ≤ p.lsn := by omega
    have h2' : p.lsn ≤ 1000000 := by omega
    have HIN : Hid (_ = _) := hin
    have HRG : Hid (∀ w', Below W.heap.size W w' → w'.rangeAt w.heap.size 0 p.cells) := fun w' hh => Box.range [] p.cells [] (by simpa using b0.below hh b0.lt)
    have HRA : Hid (∀ w', Below W.heap.size W w' → w'.rangeAt (w.heap.size + 1) 0 [.bool true, .bool true, .bool true, .bool true]) := fun w' hh => Box.range [] [.bool true, .bool true, .bool true, .bool true] [] (by simpa using b1.below hh b1.lt)
    have HI : Hid ((Tryz.prog.info? 52).map (·.size) = some p.cells.length) := by rw [Hid, page_len p h4]; kernel_rfl
    clear hin h1 h2
    go_enter Tryz.func74, Tryz.ntmps74
    go_wp2_with fail
    rw [hW.out]
    refine wp_region_held_drew (S := fun w' => w'.cell? ⟨w.heap.size, 0, none⟩ = some (.int .i64 p.lsn) ∧ w'.rangeAt w.heap.size 0 p.cells ∧ w'.rangeAt (w.heap.size + 1) 0 [.bool true, .bool true, .bool true, .bool true]) (by kernel_rfl) ?_ (fun hHeld => ?_)
    · exact ⟨hc0 _ (Below.refl _ _).drew, HRG.out _ (Below.refl _ _).drew, HRA.out _ (Below.refl _ _).drew⟩
    have hd1 : decide ((0 : Int) ≤ p.lsn) = true := decide_eq_true h1'
    have hd2 : decide (p.lsn ≤ 1000000) = true := decide_eq_true h2'
    refine wpAnyH_take (i := 0) (v := .pointer (some ⟨w.heap.size, 0, none⟩)) rfl (by kernel_rfl) (by kernel_rfl) (by kernel_rfl) (fun _ _ _ h => h) (Or.inl ⟨by rfl, fun w' hw' => ?_⟩) hHeld ?_
    · go_simp
    go_simp
    refine wpAnyH_take (i := 1) (v := .int .i64 p.lsn) rfl (by kernel_rfl) (by kernel_rfl) (by kernel_rfl) (fun _ _ _ h => h) (Or.inl ⟨by rfl, fun w' hw' => ?_⟩) hHeld ?_
    · have q := hw'.1; go_simp
    go_simp
    refine wpAnyH_take (i := 2) (v := .bool true) rfl (by kernel_rfl) (by kernel_rfl) (by kernel_rfl) (fun _ _ _ h => h) (Or.inl ⟨by rfl, fun w' hw' => ?_⟩) hHeld ?_
    · go_simp
    go_simp
    refine wpAnyH_take (i := 3) (v := .bool true) rfl (by kernel_rfl) (by kernel_rfl) (by kernel_rfl) (fun _ _ _ h => h) (Or.inl ⟨by rfl, fun w' hw' => ?_⟩) hHeld ?_
    · go_simp
    go_simp
    refine wpAnyH_take (i := 4) (v := .pointer (some ⟨w.heap.size, 0, none⟩)) rfl (by kernel_rfl) (by kernel_rfl) (by kernel_rfl) (fun _ _ _ h => h) (Or.inl ⟨by rfl, fun w' hw' => ?_⟩) hHeld ?_
    · go_simp
    go_simp
    refine wpAnyH_take (i := 5) (v := .int .i64 p.lsn) rfl (by kernel_rfl) (by kernel_rfl) (by kernel_rfl) (fun _ _ _ h => h) (Or.inl ⟨by rfl, fun w' hw' => ?_⟩) hHeld ?_
    · have q := hw'.1; go_simp
    go_simp
    refine wpAnyH_take (i := 6) (v := .bool true) rfl (by kernel_rfl) (by kernel_rfl) (by kernel_rfl) (fun _ _ _ h => h) (Or.inl ⟨by rfl, fun w' hw' => ?_⟩) hHeld ?_
    · go_simp
    go_simp
    refine wpAnyH_take (i := 7) (v := .bool true) rfl (by kernel_rfl) (by kernel_rfl) (by kernel_rfl) (fun _ _ _ h => h) (Or.inl ⟨by rfl, fun w' hw' => ?_⟩) hHeld ?_
    · go_simp
    go_simp
    refine wpAnyH_take (i := 8) (v := .bool true) rfl (by kernel_rfl) (by kernel_rfl) (by kernel_rfl) (fun _ _ _ h => h) (Or.inl ⟨by rfl, fun w' hw' => ?_⟩) hHeld ?_
    · go_simp
    go_simp
    refine wpAnyH_take (i := 9) rfl (by kernel_rfl) (by kernel_rfl) (by kernel_rfl) (fun _ _ _ h => h) (yieldsIf_load_mid (by rfl) _ _ rfl _ _ rfl p.cells _ (fun _ h => h.2.1) Tryz.underlying52 rfl HI.out) hHeld ?_
    go_simp
    refine wpAnyH_take (i := 11) rfl (by kernel_rfl) (by kernel_rfl) (by kernel_rfl) (fun _ _ _ h => h) (yieldsIf_load_mid (by rfl) _ _ rfl _ _ rfl [.bool true, .bool true, .bool true, .bool true] _ (fun _ h => h.2.2) Tryz.underlying148 rfl (by kernel_rfl)) hHeld ?_
    go_simp
    refine wpAnyH_ready (rs := [10]) (by kernel_rfl) (by simp) ?_
    refine AllReadyH.cons rfl (fun K hK => ?_) AllReadyH.nil
    go_simp
    refine (markSlots_ok p h4 _ (hg.keep hbW.drew) (hr.below hbW.drew) hl).mono ?_
    rintro e w2 ⟨⟨c0, c1, c2, c3, rfl, hcs⟩, hb2⟩
    have B2 : Below W.heap.size W w2 := ((Below.refl _ _).drew).trans hb2
    have HR : Hid (_ = _) := okP_four HIN.out hcs
    clear hcs
    refine hK.out _ _ ⟨hc0 _ B2, HRG.out _ B2, HRA.out _ B2⟩ (fun hHeld => ?_)
    clear hK K
    refine wpAnyH_take (i := 12) (v := .bool (c0 && (c1 && (c2 && c3)))) rfl (by kernel_rfl) (by kernel_rfl) (by kernel_rfl) (fun _ _ _ h => h) (Or.inl ⟨by rfl, fun w' hw' => ?_⟩) hHeld ?_
    · have q := run_eq4 c0 c1 c2 c3 w'; go_simp
    go_simp
    generalize (c0 && (c1 && (c2 && c3))) = D at *
    refine wpAnyH_take (i := 13) (v := .bool D) rfl (by kernel_rfl) (by kernel_rfl) (by kernel_rfl) (fun _ _ _ h => h) (Or.inl ⟨by rfl, fun w' hw' => ?_⟩) hHeld ?_
    · go_simp
    go_simp
    refine wpAnyH_take (i := 14) (v := .bool D) rfl (by kernel_rfl) (by kernel_rfl) (by kernel_rfl) (fun _ _ _ h => h) (Or.inl ⟨by rfl, fun w' hw' => ?_⟩) hHeld ?_
    · go_simp
    go_simp
    refine wpAnyH_done (by kernel_rfl) ?_ _
    go_wp2
    go_ret
    exact ⟨ret_bool HR.out.symm, hbW.trans (B2.mono hbW.size)⟩
end Go.Proofs.YtjaojcgfgkppgaaGreatDoor

/- The walk of impl.SetSlot. -/
namespace Go.Proofs.YtjaojcgfgkppgaaGreatDoor
open Go.RowKit

set_option maxHeartbeats 4000000 in
set_option maxRecDepth 100000 in
theorem implSetSlot_any (p : PageA) (h4 : p.ss.length = 4) (slot : Int) (s : SlotA) (lsn : Int) (w : World) (hg : ErrT w) (hr : ReadsS w p.ss) (hl : Fit p.ss) (hrs : s.reads w) (hls : Fit [s]) :
    Calls Tryz.prog 47 #[.agg p.cells.toArray, .int .i64 slot, .agg s.cells.toArray, .int .i64 lsn] w fun e w' => ∃ ts : List SlotA, e = .returned (.tuple #[.agg (PageA.cells ⟨(setOf p.lsn (p.ss.map (·.v)) slot s.v lsn).1, ts⟩).toArray, .bool (setOk p.lsn (p.ss.map (·.v)) slot s.v lsn)]) ∧ Hid (ts.map (·.v) = (setOf p.lsn (p.ss.map (·.v)) slot s.v lsn).2) ∧ OwnS w' w.heap.size w'.heap.size ts ∧ Below w.heap.size w w' := by
  have HNO : Hid (setOk p.lsn (p.ss.map (·.v)) slot s.v lsn = false → setOf p.lsn (p.ss.map (·.v)) slot s.v lsn = (p.lsn, p.ss.map (·.v))) := fun h => setOf_no h
  have HYE : Hid (setOk p.lsn (p.ss.map (·.v)) slot s.v lsn = true → setOf p.lsn (p.ss.map (·.v)) slot s.v lsn = (lsn, (p.ss.map (·.v)).set slot.toNat s.v)) := fun h => setOf_ok h
  have H1 : Hid (okP p.lsn (p.ss.map (·.v)) = false → setOk p.lsn (p.ss.map (·.v)) slot s.v lsn = false) := fun h => setOk_p h
  have H2 : Hid (inB slot 0 3 = false → setOk p.lsn (p.ss.map (·.v)) slot s.v lsn = false) := fun h => setOk_slot h
  have H3 : Hid (slotB s.v = false → setOk p.lsn (p.ss.map (·.v)) slot s.v lsn = false) := fun h => setOk_s h
  have H5 : Hid (inB lsn p.lsn 1000000 = false → setOk p.lsn (p.ss.map (·.v)) slot s.v lsn = false) := fun h => setOk_lsn h
  have H6 : Hid (okP p.lsn (p.ss.map (·.v)) = true → inB slot 0 3 = true → slotB s.v = true → inB lsn p.lsn 1000000 = true → setOk p.lsn (p.ss.map (·.v)) slot s.v lsn = true) := fun a b c d => setOk_all a b c d
  generalize setOk p.lsn (p.ss.map (·.v)) slot s.v lsn = OK at *
  generalize setOf p.lsn (p.ss.map (·.v)) slot s.v lsn = SO at *
  obtain ⟨hls1, hls2⟩ := hls s (List.mem_singleton.2 rfl)
  have HI : Hid ((Tryz.prog.info? 52).map (·.size) = some p.cells.length) := by rw [Hid, page_len p h4]; kernel_rfl
  obtain ⟨W, hW, b0, b1, b2, hbW, hsW⟩ := boxes3 w p.cells s.cells [.int .i64 0, .bool false, .int .i64 0, .slice none 0 0, .slice none 0 0, .bool false, .int .i64 0, .slice none 0 0, .slice none 0 0, .bool false, .int .i64 0, .slice none 0 0, .slice none 0 0, .bool false, .int .i64 0, .slice none 0 0, .slice none 0 0] 52 27 52
  have hsW' : w.heap.size + 1 + 1 < W.heap.size := by omega
  have HRG : Hid (∀ w', Below W.heap.size W w' → w'.rangeAt w.heap.size 0 p.cells) := fun w' hh => Box.range [] p.cells [] (by simpa using b0.below hh b0.lt)
  have b0' : ∀ w', Below W.heap.size W w' → w'.cell? ⟨w.heap.size, 0, none⟩ = some (.int .i64 p.lsn) := fun w' hh => (b0.below hh b0.lt).cell 0 _ rfl
  have HB2 : Hid (∀ w', Below W.heap.size W w' → Box w' (w.heap.size + 1 + 1) zero17 52) := fun w' hh => b2.below hh b2.lt
  have HB1 : Hid (∀ w', Below W.heap.size W w' → Box w' (w.heap.size + 1) s.cells 27) := fun w' hh => b1.below hh b1.lt
  have HL0 : Hid _ := b0'
  clear hsW b0' b2 b1 b0
  simp only [SlotA.cells] at HB1 hW
  simp only [SlotA.cells]
  go_enter Tryz.func47, Tryz.ntmps47
  go_wp2_with (first | (guard_target = wpList _ _ _ (Oper.mk (some 11) _ _ _ _ _ :: _) _ _; refine wpList_load_mid rfl 52 (.tmp 4) rfl w.heap.size 0 rfl p.cells _ (by rw [hW.out]; exact HRG.out _ (Below.refl _ _)) Tryz.underlying52 rfl HI.out ?_) | fail)
  rw [hW.out]
  clear hW
  refine (copyPage_own p h4 W (hr.below hbW) hl).mono ?_
  rintro e w1 ⟨ts, rfl, hv, ho1, hb1⟩
  have hts4 : ts.length = 4 := by have := congrArg List.length hv.out; simp only [List.length_map] at this; omega
  have HV : Hid (ts.map (·.v) = p.ss.map (·.v)) := hv
  generalize hq : (⟨p.lsn, ts⟩ : PageA) = q at *
  have hq4 : q.ss.length = 4 := by rw [← hq]; exact hts4
  have HQ : Hid (q.lsn = p.lsn ∧ q.ss = ts) := by rw [← hq]; exact ⟨rfl, rfl⟩
  clear hq hv
  have hs1 := hb1.size
  have HIq : Hid ((Tryz.prog.info? 52).map (·.size) = some q.cells.length) := by rw [Hid, page_len q hq4]; kernel_rfl
  have HOq : Hid (_) := all_oneCell_toArray (oneP q)
  obtain ⟨W2, hW2, b3, hb2, hs2⟩ := boxes1 w1 [.int .i64 0, .bool false, .int .i64 0, .slice none 0 0, .slice none 0 0, .bool false, .int .i64 0, .slice none 0 0, .slice none 0 0, .bool false, .int .i64 0, .slice none 0 0, .slice none 0 0, .bool false, .int .i64 0, .slice none 0 0, .slice none 0 0] 52
  obtain ⟨W3, hW3, hw3, hs3, HT3, _, bQ⟩ := page_out (C := w1.heap.size) (T := 52) q hq4 [.int .i64 0, .bool false, .int .i64 0, .slice none 0 0, .slice none 0 0, .bool false, .int .i64 0, .slice none 0 0, .slice none 0 0, .bool false, .int .i64 0, .slice none 0 0, .slice none 0 0, .bool false, .int .i64 0, .slice none 0 0, .slice none 0 0] rfl b3 Tryz.underlying52 rfl (by kernel_rfl)
  have B3 : Below W.heap.size W W3 := (hb1.trans (hb2.mono hs1)).trans (hw3.below (by omega) (by omega))
  have ho3 : OwnS W3 W.heap.size w1.heap.size ts := (ho1.below hb2).within hw3 (.inl (Nat.le_refl _))
  have hs13 : w1.heap.size < W3.heap.size := bQ.lt
  have C1 := implPageOk_any p h4 W3 (hg.keep (hbW.trans (B3.mono hbW.size))) (hr.below (hbW.trans (B3.mono hbW.size))) hl
  clear b3 hw3 hs3 ho1 hb1 hb2 hs2
  go_wp2_with (first | (guard_target = wpList _ _ _ (Oper.mk none (Op.store _ (Operand.tmp 10) _) _ _ _ _ :: _) _ _; refine wpList_store_mid rfl 52 (.tmp 10) (.tmp 12) rfl w1.heap.size 0 q.cells.toArray rfl rfl (by rw [hW2.out]; exact HT3.out) (by rw [List.size_toArray]; exact HIq.out) HOq.out ?_) | (guard_target = wpList _ _ _ (Oper.mk (some 13) _ _ _ _ _ :: _) _ _; refine wpList_load_mid rfl 52 (.tmp 4) rfl w.heap.size 0 rfl p.cells _ (by rw [hW2.out, hW3.out]; exact HRG.out _ B3) Tryz.underlying52 rfl HI.out ?_) | fail)
  rw [hW2.out, hW3.out]
  clear hW2 hW3 HT3
  refine C1.mono ?_
  clear C1
  rintro e w4 ⟨rfl, hb4⟩
  have N4 := hb4
  have B4 : Below W.heap.size W w4 := B3.trans (hb4.mono B3.size)
  have hs4 := hb4.size
  cases hok : okP p.lsn (p.ss.map (·.v)) with
  | false =>
    have HOK : Hid (OK = false) := H1.out hok
    clear hok H1 H2 H3 H5 H6
    have bQv := bQ.below N4 hs13
    have rQv := Box.range [] q.cells [] (by simpa using bQv : Box w4 w1.heap.size ([] ++ (q.cells ++ [])) 52)
    obtain ⟨WF, hWF, hwF, hsF, HTF, HLF, _⟩ := page_out (C := w.heap.size + 1 + 1) (T := 52) q hq4 zero17 rfl (HB2.out _ B4) Tryz.underlying52 rfl (by kernel_rfl)
    have HOF : Hid (OwnS WF w.heap.size WF.heap.size ts) := ((ho3.below N4).within hwF (.inr (by omega))).widen (by omega) (by omega) (Nat.le_refl _)
    have HBF : Hid (Below w.heap.size w WF) := (hbW.trans (B4.mono (by omega))).trans (hwF.below (by omega) (by have := B4.size; omega))
    have HEND : Hid (∃ ts' : List SlotA, Ending.returned (.tuple #[.agg q.cells.toArray, .bool false]) = .returned (.tuple #[.agg (PageA.cells ⟨SO.1, ts'⟩).toArray, .bool OK]) ∧ Hid (ts'.map (·.v) = SO.2) ∧ OwnS WF w.heap.size WF.heap.size ts' ∧ Below w.heap.size w WF) := by
      obtain ⟨qn, qs⟩ := q
      obtain ⟨e1, e2⟩ := HQ.out
      simp only at e1 e2
      subst e2
      refine ⟨qs, ?_, ?_, HOF.out, HBF.out⟩
      · rw [HNO.out HOK.out, HOK.out, e1]
      · rw [Hid, HNO.out HOK.out]; exact HV.out
    clear bQv hwF hsF HOF HBF HNO HYE ho3
    go_wp2_with (first | (guard_target = wpList _ _ _ (Oper.mk (some 39) _ _ _ _ _ :: _) _ _; refine wpList_load_mid rfl 52 (.tmp 10) rfl w1.heap.size 0 rfl q.cells _ (rQv) Tryz.underlying52 rfl HIq.out ?_) | (guard_target = wpList _ _ _ (Oper.mk none (Op.store _ (Operand.tmp 8) _) _ _ _ _ :: _) _ _; refine wpList_store_mid rfl 52 (.tmp 8) (.tmp 39) rfl (w.heap.size + 1 + 1) 0 q.cells.toArray rfl rfl (HTF.out) (by rw [List.size_toArray]; exact HIq.out) HOq.out ?_) | fail)
    rw [hWF.out]
    exact bodyPost_ret (v := .tuple #[.agg q.cells.toArray, .bool false]) (results_cell_flag Tryz.results47 rfl HLF.out rfl) rfl HEND.out
  | true =>
  have HP : Hid (_ = _) := hok
  clear hok H1
  cases hin : inB slot 0 3 with
  | false =>
    have HOK : Hid (OK = false) := H2.out hin
    have hz := inB_false hin
    clear hin H2 H3 H5 H6
    rcases hz with hz1 | ⟨hz1, hz2⟩
    · have hd1 : slot < 0 := hz1
      have bQv := bQ.below N4 hs13
      have rQv := Box.range [] q.cells [] (by simpa using bQv : Box w4 w1.heap.size ([] ++ (q.cells ++ [])) 52)
      obtain ⟨WF, hWF, hwF, hsF, HTF, HLF, _⟩ := page_out (C := w.heap.size + 1 + 1) (T := 52) q hq4 zero17 rfl (HB2.out _ B4) Tryz.underlying52 rfl (by kernel_rfl)
      have HOF : Hid (OwnS WF w.heap.size WF.heap.size ts) := ((ho3.below N4).within hwF (.inr (by omega))).widen (by omega) (by omega) (Nat.le_refl _)
      have HBF : Hid (Below w.heap.size w WF) := (hbW.trans (B4.mono (by omega))).trans (hwF.below (by omega) (by have := B4.size; omega))
      have HEND : Hid (∃ ts' : List SlotA, Ending.returned (.tuple #[.agg q.cells.toArray, .bool false]) = .returned (.tuple #[.agg (PageA.cells ⟨SO.1, ts'⟩).toArray, .bool OK]) ∧ Hid (ts'.map (·.v) = SO.2) ∧ OwnS WF w.heap.size WF.heap.size ts' ∧ Below w.heap.size w WF) := by
        obtain ⟨qn, qs⟩ := q
        obtain ⟨e1, e2⟩ := HQ.out
        simp only at e1 e2
        subst e2
        refine ⟨qs, ?_, ?_, HOF.out, HBF.out⟩
        · rw [HNO.out HOK.out, HOK.out, e1]
        · rw [Hid, HNO.out HOK.out]; exact HV.out
      clear bQv hwF hsF HOF HBF HNO HYE ho3
      go_wp2_with (first | (guard_target = wpList _ _ _ (Oper.mk (some 39) _ _ _ _ _ :: _) _ _; refine wpList_load_mid rfl 52 (.tmp 10) rfl w1.heap.size 0 rfl q.cells _ (rQv) Tryz.underlying52 rfl HIq.out ?_) | (guard_target = wpList _ _ _ (Oper.mk none (Op.store _ (Operand.tmp 8) _) _ _ _ _ :: _) _ _; refine wpList_store_mid rfl 52 (.tmp 8) (.tmp 39) rfl (w.heap.size + 1 + 1) 0 q.cells.toArray rfl rfl (HTF.out) (by rw [List.size_toArray]; exact HIq.out) HOq.out ?_) | fail)
      rw [hWF.out]
      exact bodyPost_ret (v := .tuple #[.agg q.cells.toArray, .bool false]) (results_cell_flag Tryz.results47 rfl HLF.out rfl) rfl HEND.out
    · have hd1 : ¬ slot < 0 := hz1
      have hd2 : 4 ≤ slot := by omega
      clear hz1 hz2
      have bQv := bQ.below N4 hs13
      have rQv := Box.range [] q.cells [] (by simpa using bQv : Box w4 w1.heap.size ([] ++ (q.cells ++ [])) 52)
      obtain ⟨WF, hWF, hwF, hsF, HTF, HLF, _⟩ := page_out (C := w.heap.size + 1 + 1) (T := 52) q hq4 zero17 rfl (HB2.out _ B4) Tryz.underlying52 rfl (by kernel_rfl)
      have HOF : Hid (OwnS WF w.heap.size WF.heap.size ts) := ((ho3.below N4).within hwF (.inr (by omega))).widen (by omega) (by omega) (Nat.le_refl _)
      have HBF : Hid (Below w.heap.size w WF) := (hbW.trans (B4.mono (by omega))).trans (hwF.below (by omega) (by have := B4.size; omega))
      have HEND : Hid (∃ ts' : List SlotA, Ending.returned (.tuple #[.agg q.cells.toArray, .bool false]) = .returned (.tuple #[.agg (PageA.cells ⟨SO.1, ts'⟩).toArray, .bool OK]) ∧ Hid (ts'.map (·.v) = SO.2) ∧ OwnS WF w.heap.size WF.heap.size ts' ∧ Below w.heap.size w WF) := by
        obtain ⟨qn, qs⟩ := q
        obtain ⟨e1, e2⟩ := HQ.out
        simp only at e1 e2
        subst e2
        refine ⟨qs, ?_, ?_, HOF.out, HBF.out⟩
        · rw [HNO.out HOK.out, HOK.out, e1]
        · rw [Hid, HNO.out HOK.out]; exact HV.out
      clear bQv hwF hsF HOF HBF HNO HYE ho3
      go_wp2_with (first | (guard_target = wpList _ _ _ (Oper.mk (some 39) _ _ _ _ _ :: _) _ _; refine wpList_load_mid rfl 52 (.tmp 10) rfl w1.heap.size 0 rfl q.cells _ (rQv) Tryz.underlying52 rfl HIq.out ?_) | (guard_target = wpList _ _ _ (Oper.mk none (Op.store _ (Operand.tmp 8) _) _ _ _ _ :: _) _ _; refine wpList_store_mid rfl 52 (.tmp 8) (.tmp 39) rfl (w.heap.size + 1 + 1) 0 q.cells.toArray rfl rfl (HTF.out) (by rw [List.size_toArray]; exact HIq.out) HOq.out ?_) | fail)
      rw [hWF.out]
      exact bodyPost_ret (v := .tuple #[.agg q.cells.toArray, .bool false]) (results_cell_flag Tryz.results47 rfl HLF.out rfl) rfl HEND.out
  | true =>
  have HIN : Hid (_ = _) := hin
  obtain ⟨hz1, hz2⟩ := inB_true hin
  clear hin H2
  have hd2 : ¬ 4 ≤ slot := by omega
  have bs4 := HB1.out _ B4
  obtain ⟨x0, x1, x2, x3, _⟩ := bs4.four
  have C2 := slotOk_any s w4 (hg.keep (hbW.trans (B4.mono hbW.size))) (ReadsO.below hrs (hbW.trans (B4.mono hbW.size))) hls
  simp only [SlotA.cells] at C2
  go_wp2_with fail
  refine C2.mono ?_
  clear C2 x0 x1 x2 x3
  rintro e w5 ⟨rfl, hb5⟩
  have N5 : Below W3.heap.size W3 w5 := N4.trans (hb5.mono N4.size)
  have B5 : Below W.heap.size W w5 := B4.trans (hb5.mono B4.size)
  have hs5 := hb5.size
  cases hsb : slotB s.v with
  | false =>
    have HOK : Hid (OK = false) := H3.out hsb
    clear hsb H3 H5 H6
    have bQv := bQ.below N5 hs13
    have rQv := Box.range [] q.cells [] (by simpa using bQv : Box w5 w1.heap.size ([] ++ (q.cells ++ [])) 52)
    obtain ⟨WF, hWF, hwF, hsF, HTF, HLF, _⟩ := page_out (C := w.heap.size + 1 + 1) (T := 52) q hq4 zero17 rfl (HB2.out _ B5) Tryz.underlying52 rfl (by kernel_rfl)
    have HOF : Hid (OwnS WF w.heap.size WF.heap.size ts) := ((ho3.below N5).within hwF (.inr (by omega))).widen (by omega) (by omega) (Nat.le_refl _)
    have HBF : Hid (Below w.heap.size w WF) := (hbW.trans (B5.mono (by omega))).trans (hwF.below (by omega) (by have := B5.size; omega))
    have HEND : Hid (∃ ts' : List SlotA, Ending.returned (.tuple #[.agg q.cells.toArray, .bool false]) = .returned (.tuple #[.agg (PageA.cells ⟨SO.1, ts'⟩).toArray, .bool OK]) ∧ Hid (ts'.map (·.v) = SO.2) ∧ OwnS WF w.heap.size WF.heap.size ts' ∧ Below w.heap.size w WF) := by
      obtain ⟨qn, qs⟩ := q
      obtain ⟨e1, e2⟩ := HQ.out
      simp only at e1 e2
      subst e2
      refine ⟨qs, ?_, ?_, HOF.out, HBF.out⟩
      · rw [HNO.out HOK.out, HOK.out, e1]
      · rw [Hid, HNO.out HOK.out]; exact HV.out
    clear bQv hwF hsF HOF HBF HNO HYE ho3
    go_wp2_with (first | (guard_target = wpList _ _ _ (Oper.mk (some 39) _ _ _ _ _ :: _) _ _; refine wpList_load_mid rfl 52 (.tmp 10) rfl w1.heap.size 0 rfl q.cells _ (rQv) Tryz.underlying52 rfl HIq.out ?_) | (guard_target = wpList _ _ _ (Oper.mk none (Op.store _ (Operand.tmp 8) _) _ _ _ _ :: _) _ _; refine wpList_store_mid rfl 52 (.tmp 8) (.tmp 39) rfl (w.heap.size + 1 + 1) 0 q.cells.toArray rfl rfl (HTF.out) (by rw [List.size_toArray]; exact HIq.out) HOq.out ?_) | fail)
    rw [hWF.out]
    exact bodyPost_ret (v := .tuple #[.agg q.cells.toArray, .bool false]) (results_cell_flag Tryz.results47 rfl HLF.out rfl) rfl HEND.out
  | true =>
  have HSB : Hid (_ = _) := hsb
  clear hsb H3
  have y0 := HL0.out _ B5
  cases hln : inB lsn p.lsn 1000000 with
  | false =>
    have HOK : Hid (OK = false) := H5.out hln
    have hz := inB_false hln
    clear hln H5 H6
    rcases hz with hl1 | ⟨hl1, hl2⟩
    · have hd5 : lsn < p.lsn := hl1
      generalize p.lsn = pn at *
      have bQv := bQ.below N5 hs13
      have rQv := Box.range [] q.cells [] (by simpa using bQv : Box w5 w1.heap.size ([] ++ (q.cells ++ [])) 52)
      obtain ⟨WF, hWF, hwF, hsF, HTF, HLF, _⟩ := page_out (C := w.heap.size + 1 + 1) (T := 52) q hq4 zero17 rfl (HB2.out _ B5) Tryz.underlying52 rfl (by kernel_rfl)
      have HOF : Hid (OwnS WF w.heap.size WF.heap.size ts) := ((ho3.below N5).within hwF (.inr (by omega))).widen (by omega) (by omega) (Nat.le_refl _)
      have HBF : Hid (Below w.heap.size w WF) := (hbW.trans (B5.mono (by omega))).trans (hwF.below (by omega) (by have := B5.size; omega))
      have HEND : Hid (∃ ts' : List SlotA, Ending.returned (.tuple #[.agg q.cells.toArray, .bool false]) = .returned (.tuple #[.agg (PageA.cells ⟨SO.1, ts'⟩).toArray, .bool OK]) ∧ Hid (ts'.map (·.v) = SO.2) ∧ OwnS WF w.heap.size WF.heap.size ts' ∧ Below w.heap.size w WF) := by
        obtain ⟨qn, qs⟩ := q
        obtain ⟨e1, e2⟩ := HQ.out
        simp only at e1 e2
        subst e2
        refine ⟨qs, ?_, ?_, HOF.out, HBF.out⟩
        · rw [HNO.out HOK.out, HOK.out, e1]
        · rw [Hid, HNO.out HOK.out]; exact HV.out
      clear bQv hwF hsF HOF HBF HNO HYE ho3
      go_wp2_with (first | (guard_target = wpList _ _ _ (Oper.mk (some 39) _ _ _ _ _ :: _) _ _; refine wpList_load_mid rfl 52 (.tmp 10) rfl w1.heap.size 0 rfl q.cells _ (rQv) Tryz.underlying52 rfl HIq.out ?_) | (guard_target = wpList _ _ _ (Oper.mk none (Op.store _ (Operand.tmp 8) _) _ _ _ _ :: _) _ _; refine wpList_store_mid rfl 52 (.tmp 8) (.tmp 39) rfl (w.heap.size + 1 + 1) 0 q.cells.toArray rfl rfl (HTF.out) (by rw [List.size_toArray]; exact HIq.out) HOq.out ?_) | fail)
      rw [hWF.out]
      exact bodyPost_ret (v := .tuple #[.agg q.cells.toArray, .bool false]) (results_cell_flag Tryz.results47 rfl HLF.out rfl) rfl HEND.out
    · generalize p.lsn = pn at *
      have bQv := bQ.below N5 hs13
      have rQv := Box.range [] q.cells [] (by simpa using bQv : Box w5 w1.heap.size ([] ++ (q.cells ++ [])) 52)
      obtain ⟨WF, hWF, hwF, hsF, HTF, HLF, _⟩ := page_out (C := w.heap.size + 1 + 1) (T := 52) q hq4 zero17 rfl (HB2.out _ B5) Tryz.underlying52 rfl (by kernel_rfl)
      have HOF : Hid (OwnS WF w.heap.size WF.heap.size ts) := ((ho3.below N5).within hwF (.inr (by omega))).widen (by omega) (by omega) (Nat.le_refl _)
      have HBF : Hid (Below w.heap.size w WF) := (hbW.trans (B5.mono (by omega))).trans (hwF.below (by omega) (by have := B5.size; omega))
      have HEND : Hid (∃ ts' : List SlotA, Ending.returned (.tuple #[.agg q.cells.toArray, .bool false]) = .returned (.tuple #[.agg (PageA.cells ⟨SO.1, ts'⟩).toArray, .bool OK]) ∧ Hid (ts'.map (·.v) = SO.2) ∧ OwnS WF w.heap.size WF.heap.size ts' ∧ Below w.heap.size w WF) := by
        obtain ⟨qn, qs⟩ := q
        obtain ⟨e1, e2⟩ := HQ.out
        simp only at e1 e2
        subst e2
        refine ⟨qs, ?_, ?_, HOF.out, HBF.out⟩
        · rw [HNO.out HOK.out, HOK.out, e1]
        · rw [Hid, HNO.out HOK.out]; exact HV.out
      clear bQv hwF hsF HOF HBF HNO HYE ho3
      go_wp2_with (first | (guard_target = wpList _ _ _ (Oper.mk (some 39) _ _ _ _ _ :: _) _ _; refine wpList_load_mid rfl 52 (.tmp 10) rfl w1.heap.size 0 rfl q.cells _ (rQv) Tryz.underlying52 rfl HIq.out ?_) | (guard_target = wpList _ _ _ (Oper.mk none (Op.store _ (Operand.tmp 8) _) _ _ _ _ :: _) _ _; refine wpList_store_mid rfl 52 (.tmp 8) (.tmp 39) rfl (w.heap.size + 1 + 1) 0 q.cells.toArray rfl rfl (HTF.out) (by rw [List.size_toArray]; exact HIq.out) HOq.out ?_) | fail)
      rw [hWF.out]
      exact bodyPost_ret (v := .tuple #[.agg q.cells.toArray, .bool false]) (results_cell_flag Tryz.results47 rfl HLF.out rfl) rfl HEND.out
  | true =>
  have HLN : Hid (_ = _) := hln
  obtain ⟨hl1, hl2⟩ := inB_true hln
  clear hln H5
  have HOK : Hid (OK = true) := H6.out HP.out HIN.out HSB.out HLN.out
  have HSO : Hid (SO = (lsn, (p.ss.map (·.v)).set slot.toNat s.v)) := HYE.out HOK.out
  clear H6 HNO HYE
  obtain ⟨k, rfl⟩ : ∃ k : Nat, slot = (k : Int) := ⟨slot.toNat, by omega⟩
  have hk4 : k < 4 := by omega
  have bs5 := HB1.out _ B5
  obtain ⟨x0, x1, x2, x3, _⟩ := bs5.four
  have C3 := copySlot_own s w5 (ReadsO.below hrs (hbW.trans (B5.mono hbW.size))) hls1 hls2
  simp only [SlotA.cells] at C3
  go_wp2_with fail
  refine C3.mono ?_
  clear C3 x0 x1 x2 x3 y0
  rintro e w7 ⟨t, rfl, hvt, hot, hb7⟩
  have N7 : Below W3.heap.size W3 w7 := N5.trans (hb7.mono N5.size)
  have B7 : Below W.heap.size W w7 := B5.trans (hb7.mono B5.size)
  have hs7 := hb7.size
  obtain ⟨qn, qs⟩ := q
  simp only [PageA.cells] at bQ
  obtain ⟨hqn, hqs⟩ := HQ.out
  simp only at hqn hqs
  subst hqs
  have hs3n := N5.size
  have bQ7 := bQ.below N7 hs13
  have hkl : k < qs.length := by rw [hts4]; exact hk4
  obtain ⟨W8, hW8, b8, hw8, hs8⟩ := pslot_fill bQ7 k hkl t
  obtain ⟨z0, z1, z2, z3, hfz⟩ := bQ7.pslot k hkl
  have f0 := hfz (1 + k * 4)
  have f1 := hfz (1 + k * 4 + 1)
  have f2 := hfz (1 + k * 4 + 2)
  have f3 := hfz (1 + k * 4 + 3)
  obtain ⟨W9, hW9, b9, hw9, hs9⟩ := box_set b8 0 (.int .i64 lsn)
  simp only [List.set_cons_zero] at b9
  have g0 := b8.cell 0 _ rfl
  have g1 := b8.frozen 0
  have B9 : Below W.heap.size W W9 := (B7.trans (hw8.below hs1 (by omega))).trans (hw9.below hs1 (by omega))
  have hr4 : (⟨lsn, qs.set k t⟩ : PageA).ss.length = 4 := by simp only [List.length_set]; exact hts4
  have hap : OwnS W9 W.heap.size w7.heap.size (qs.set k t) := by
    have o1 : OwnS W9 W.heap.size w1.heap.size qs := ((ho3.below N7).within hw8 (.inl (Nat.le_refl _))).within hw9 (.inl (Nat.le_refl _))
    have o2 : t.own W9 w5.heap.size w7.heap.size := OwnO.within (OwnO.within hot hw8 (.inr (by omega))) hw9 (.inr (by omega))
    exact o1.set k o2 (by omega) (by omega) (by omega)
  have HMV : Hid ((qs.set k t).map (·.v) = SO.2) := by rw [Hid, HSO.out, List.map_set, HV.out, hvt.out, Int.toNat_natCast]
  have HS1 : Hid (SO.1 = lsn) := by rw [Hid, HSO.out]
  generalize hrr : (⟨lsn, qs.set k t⟩ : PageA) = r at *
  have b9' : Box W9 w1.heap.size r.cells 52 := by rw [← hrr]; exact b9
  have HEQ : Hid (r = ⟨lsn, qs.set k t⟩) := hrr.symm
  clear hrr b9
  have rR := Box.range [] r.cells [] (by simpa using b9' : Box W9 w1.heap.size ([] ++ (r.cells ++ [])) 52)
  have HIr : Hid ((Tryz.prog.info? 52).map (·.size) = some r.cells.length) := by rw [Hid, page_len r hr4]; kernel_rfl
  have HOr : Hid (_) := all_oneCell_toArray (oneP r)
  obtain ⟨WF, hWF, hwF, hsF, HTF, HLF, _⟩ := page_out (C := w.heap.size + 1 + 1) (T := 52) r hr4 zero17 rfl (HB2.out _ B9) Tryz.underlying52 rfl (by kernel_rfl)
  have HOF : Hid (OwnS WF w.heap.size WF.heap.size (qs.set k t)) := (hap.within hwF (.inr (by omega))).widen (by omega) (by omega) (Nat.le_refl _)
  have HBF : Hid (Below w.heap.size w WF) := (hbW.trans (B9.mono (by omega))).trans (hwF.below (by omega) (by have := B9.size; omega))
  have HEND : Hid (∃ ts' : List SlotA, Ending.returned (.tuple #[.agg r.cells.toArray, .bool true]) = .returned (.tuple #[.agg (PageA.cells ⟨SO.1, ts'⟩).toArray, .bool OK]) ∧ Hid (ts'.map (·.v) = SO.2) ∧ OwnS WF w.heap.size WF.heap.size ts' ∧ Below w.heap.size w WF) :=
    ⟨qs.set k t, by rw [HS1.out, HOK.out, HEQ.out], HMV, HOF.out, HBF.out⟩
  have hi0 : (0 : Int) ≤ (k : Int) := by omega
  have hi4 : (k : Int) < 4 := by omega
  generalize qs.getD k zeroS = old at *
  have W9e := hW9.out
  have W8e := hW8.out
  clear hfz hw8 hw9 hwF hsF HOF HBF hap ho3 hot hvt bQ7 b8 b9' hs8 hs9 HEQ HS1 HMV
  rw [← W9e, ← W8e] at rR HTF
  rw [← W8e] at g0 g1
  rw [← W9e, ← W8e] at hWF
  clear W9e W8e hW8 hW9
  go_wp2_with (first | (guard_target = wpList _ _ _ (Oper.mk (some 47) _ _ _ _ _ :: _) _ _; refine wpList_load_mid rfl 52 (.tmp 10) rfl w1.heap.size 0 rfl r.cells _ (rR) Tryz.underlying52 rfl HIr.out ?_) | (guard_target = wpList _ _ _ (Oper.mk none (Op.store _ (Operand.tmp 8) _) _ _ _ _ :: _) _ _; refine wpList_store_mid rfl 52 (.tmp 8) (.tmp 47) rfl (w.heap.size + 1 + 1) 0 r.cells.toArray rfl rfl (HTF.out) (by rw [List.size_toArray]; exact HIr.out) HOr.out ?_) | fail)
  rw [hWF.out]
  exact bodyPost_ret (v := .tuple #[.agg r.cells.toArray, .bool true]) (results_cell_flag Tryz.results47 rfl HLF.out rfl) rfl HEND.out
end Go.Proofs.YtjaojcgfgkppgaaGreatDoor

/- The walks of impl.changeOf and impl.Redo. -/
namespace Go.Proofs.YtjaojcgfgkppgaaGreatDoor
open Go.RowKit

theorem results_mid {P : Program} {fn : Func} {s t u : Nat} {ty : TypeId} {tmps : Array Value} {w : World} {v a b : Value} {ad : Addr} (hf : fn.results = #[.tmp s, .cell t ty, .tmp u]) (ha : tmps[s]?.getD undef = a) (ht : tmps[t]?.getD undef = .pointer (some ad)) (hl : (loadVar ty ad).run P w = .ok v w) (hb : tmps[u]?.getD undef = b) : (results fn tmps).run P w = .ok (.tuple #[a, v, b]) w := by
  unfold results
  rw [hf]
  simp [ht, asAddr, hl, hb, ha]
theorem page_slot {w : World} {B : Nat} {T : TypeId} {q : SlotA} (b : Box w B q.cells T) : w.rangeAt B 0 q.cells := Box.range [] q.cells [] (by simpa using b)
theorem slot_info : (Tryz.prog.info? 27).map (·.size) = some 4 := by kernel_rfl
theorem slot_one (t : SlotA) : t.cells.toArray.all (·.oneCell') = true := all_oneCell_toArray (by intro v hv; simp only [SlotA.cells, List.mem_cons, List.not_mem_nil, or_false] at hv; rcases hv with rfl | rfl | rfl | rfl <;> rfl)
theorem slot_out {w : World} {C : Nat} (q : SlotA) (old : List Value) (ho : old.length = 4) (bC : Box w C old 27) :
    ∃ WF, Hid (w.setCells C 0 q.cells = WF) ∧ Within C (C + 1) w WF ∧ WF.heap.size = w.heap.size ∧ Hid (w.there C 0 q.cells.toArray.size) ∧ Hid ((loadVar 27 ⟨C, 0, none⟩).run Tryz.prog WF = .ok (.agg q.cells.toArray) WF) ∧ Box WF C q.cells 27 := by
  obtain ⟨WF, hWF, bF, hwF, hsF⟩ := range_fill [] old q.cells [] (by simpa using bC) (by rw [ho]; rfl)
  have bF' : Box WF C q.cells 27 := by simpa using bF
  exact ⟨WF, hWF, hwF, hsF, bC.there 0 _ (by rw [ho]; show 0 + 4 ≤ 4; decide), run_loadVar_mid (P := Tryz.prog) WF C 0 27 q.cells _ (Box.range [] q.cells [] (by simpa using bF')) Tryz.underlying27 rfl slot_info, bF'⟩

set_option maxHeartbeats 2000000 in
set_option maxRecDepth 100000 in
theorem changeOf_set (tx prev oid : Int) (b a : SlotA) (w : World) : Calls Tryz.prog 44 #[issetDeed (setD tx prev oid b a)] w fun e w' => e = .returned (.tuple #[.int .i64 oid, .agg a.cells.toArray, .bool true]) ∧ Below w.heap.size w w' := by
  obtain ⟨W, hW, b0, b1, hbW, hsW⟩ := boxes2 w [.bool false, .int .i64 0, .slice none 0 0, .slice none 0 0] [.int .i64 tx, .int .i64 prev, .int .i64 oid, .bool b.v.has, .int .i64 b.v.o.kind, .slice b.aI b.v.o.ints.length b.cI, .slice b.aR b.v.o.refs.length b.cR, .bool a.v.has, .int .i64 a.v.o.kind, .slice a.aI a.v.o.ints.length a.cI, .slice a.aR a.v.o.refs.length a.cR] 27 119
  simp only [issetDeed, setD]
  have a1 := fun W => yes_setDeed W (.agg #[.int .i64 tx, .int .i64 prev, .int .i64 oid, .bool b.v.has, .int .i64 b.v.o.kind, .slice b.aI b.v.o.ints.length b.cI, .slice b.aR b.v.o.refs.length b.cR, .bool a.v.has, .int .i64 a.v.o.kind, .slice a.aI a.v.o.ints.length a.cI, .slice a.aR a.v.o.refs.length a.cR])
  have HS : Hid (∀ w', Box w' (w.heap.size + 1) [.int .i64 tx, .int .i64 prev, .int .i64 oid, .bool b.v.has, .int .i64 b.v.o.kind, .slice b.aI b.v.o.ints.length b.cI, .slice b.aR b.v.o.refs.length b.cR, .bool a.v.has, .int .i64 a.v.o.kind, .slice a.aI a.v.o.ints.length a.cI, .slice a.aR a.v.o.refs.length a.cR] 119 → w'.cell? ⟨w.heap.size + 1, 0, none⟩ = some (.int .i64 tx) ∧ w'.cell? ⟨w.heap.size + 1, 1, none⟩ = some (.int .i64 prev) ∧ w'.cell? ⟨w.heap.size + 1, 2, none⟩ = some (.int .i64 oid) ∧ w'.cell? ⟨w.heap.size + 1, 3, none⟩ = some (.bool b.v.has) ∧ w'.cell? ⟨w.heap.size + 1, 4, none⟩ = some (.int .i64 b.v.o.kind) ∧ w'.cell? ⟨w.heap.size + 1, 5, none⟩ = some (.slice b.aI b.v.o.ints.length b.cI) ∧ w'.cell? ⟨w.heap.size + 1, 6, none⟩ = some (.slice b.aR b.v.o.refs.length b.cR) ∧ w'.cell? ⟨w.heap.size + 1, 7, none⟩ = some (.bool a.v.has) ∧ w'.cell? ⟨w.heap.size + 1, 8, none⟩ = some (.int .i64 a.v.o.kind) ∧ w'.cell? ⟨w.heap.size + 1, 9, none⟩ = some (.slice a.aI a.v.o.ints.length a.cI) ∧ w'.cell? ⟨w.heap.size + 1, 10, none⟩ = some (.slice a.aR a.v.o.refs.length a.cR)) := fun w' b => ⟨b.cell 0 _ rfl, b.cell 1 _ rfl, b.cell 2 _ rfl, b.cell 3 _ rfl, b.cell 4 _ rfl, b.cell 5 _ rfl, b.cell 6 _ rfl, b.cell 7 _ rfl, b.cell 8 _ rfl, b.cell 9 _ rfl, b.cell 10 _ rfl⟩
  have hlt := b1.lt
  have b0d := b0.below (Below.refl _ _).drew b0.lt
  have b1d := b1.below (Below.refl _ _).drew b1.lt
  have hh := HS.out _ b1
  obtain ⟨WF, hWF, hwF, hsF, HTF, HLF, _⟩ := slot_out a _ rfl b0d
  have HB : Hid (Below w.heap.size w WF) := hbW.drew.trans (hwF.below (by omega) (by have := hbW.drew.size; omega))
  have HSF : Hid (_) := HS.out _ (b1d.within hwF (by omega))
  clear hsW b0 b1 b0d hwF
  go_enter Tryz.func44, Tryz.ntmps44
  go_wp2_with fail
  rw [hW.out]
  clear hW
  refine wp_region_held_drew (S := fun w' => w'.cell? ⟨w.heap.size + 1, 0, none⟩ = some (.int .i64 tx) ∧ w'.cell? ⟨w.heap.size + 1, 1, none⟩ = some (.int .i64 prev) ∧ w'.cell? ⟨w.heap.size + 1, 2, none⟩ = some (.int .i64 oid) ∧ w'.cell? ⟨w.heap.size + 1, 3, none⟩ = some (.bool b.v.has) ∧ w'.cell? ⟨w.heap.size + 1, 4, none⟩ = some (.int .i64 b.v.o.kind) ∧ w'.cell? ⟨w.heap.size + 1, 5, none⟩ = some (.slice b.aI b.v.o.ints.length b.cI) ∧ w'.cell? ⟨w.heap.size + 1, 6, none⟩ = some (.slice b.aR b.v.o.refs.length b.cR) ∧ w'.cell? ⟨w.heap.size + 1, 7, none⟩ = some (.bool a.v.has) ∧ w'.cell? ⟨w.heap.size + 1, 8, none⟩ = some (.int .i64 a.v.o.kind) ∧ w'.cell? ⟨w.heap.size + 1, 9, none⟩ = some (.slice a.aI a.v.o.ints.length a.cI) ∧ w'.cell? ⟨w.heap.size + 1, 10, none⟩ = some (.slice a.aR a.v.o.refs.length a.cR)) (by kernel_rfl) (HS.out _ b1d) (fun hHeld => ?_)
  refine wpAnyH_take (i := 0) (v := .pointer (some ⟨w.heap.size + 1, 2, none⟩)) rfl (by kernel_rfl) (by kernel_rfl) (by kernel_rfl) (fun _ _ _ h => h) (Or.inl ⟨by rfl, ?_⟩) hHeld ?_
  · intro w' hSw
    go_simp <;> rfl
  try simp only [Act.put, List.getElem_toArray, List.getElem_cons_zero, List.setIfInBounds_toArray, List.set_cons_zero, List.set_cons_succ]
  refine wpAnyH_take (i := 1) (v := .int .i64 oid) rfl (by kernel_rfl) (by kernel_rfl) (by kernel_rfl) (fun _ _ _ h => h) (Or.inl ⟨by rfl, ?_⟩) hHeld ?_
  · intro w' hSw
    go_simp <;> rfl
  try simp only [Act.put, List.getElem_toArray, List.getElem_cons_zero, List.getElem_cons_succ, List.setIfInBounds_toArray, List.set_cons_zero, List.set_cons_succ]
  refine wpAnyH_take (i := 2) (v := .pointer (some ⟨w.heap.size + 1, 7, none⟩)) rfl (by kernel_rfl) (by kernel_rfl) (by kernel_rfl) (fun _ _ _ h => h) (Or.inl ⟨by rfl, ?_⟩) hHeld ?_
  · intro w' hSw
    go_simp <;> rfl
  try simp only [Act.put, List.getElem_toArray, List.getElem_cons_zero, List.getElem_cons_succ, List.setIfInBounds_toArray, List.set_cons_zero, List.set_cons_succ]
  refine wpAnyH_take (i := 3) (v := .agg #[.bool a.v.has, .int .i64 a.v.o.kind, .slice a.aI a.v.o.ints.length a.cI, .slice a.aR a.v.o.refs.length a.cR]) rfl (by kernel_rfl) (by kernel_rfl) (by kernel_rfl) (fun _ _ _ h => h) (Or.inl ⟨by rfl, ?_⟩) hHeld ?_
  · intro w' hSw
    go_simp <;> rfl
  try simp only [Act.put, List.getElem_toArray, List.getElem_cons_zero, List.getElem_cons_succ, List.setIfInBounds_toArray, List.set_cons_zero, List.set_cons_succ]
  refine wpAnyH_take (i := 4) (v := .int .i64 oid) rfl (by kernel_rfl) (by kernel_rfl) (by kernel_rfl) (fun _ _ _ h => h) (Or.inl ⟨by rfl, ?_⟩) hHeld ?_
  · intro w' hSw
    go_simp <;> rfl
  try simp only [Act.put, List.getElem_toArray, List.getElem_cons_zero, List.getElem_cons_succ, List.setIfInBounds_toArray, List.set_cons_zero, List.set_cons_succ]
  refine wpAnyH_ready (rs := [5]) (by kernel_rfl) (by simp) ?_
  refine AllReadyH.cons rfl (fun K hK => ?_) AllReadyH.nil
  rw [if_pos (by rfl)]
  refine wp_store_mid 27 (.tmp 3) (.tmp 14) rfl w.heap.size 0 a.cells.toArray rfl rfl HTF.out slot_info (slot_one a) ?_
  have HW : Hid (W.drew.setCells w.heap.size 0 a.cells.toArray.toList = WF) := hWF.out
  rw [HW.out]
  refine hK.out _ _ HSF.out (fun hHeld => ?_)
  clear hK K
  simp only [Act.put, List.getElem_toArray, List.getElem_cons_zero, List.getElem_cons_succ]
  refine wpAnyH_take (i := 6) (v := .bool true) rfl (by kernel_rfl) (by kernel_rfl) (by kernel_rfl) (fun _ _ _ h => h) (Or.inl ⟨by rfl, ?_⟩) hHeld ?_
  · intro w' hSw
    go_simp <;> rfl
  try simp only [Act.put, List.getElem_toArray, List.getElem_cons_zero, List.getElem_cons_succ, List.setIfInBounds_toArray, List.set_cons_zero, List.set_cons_succ]
  refine wpAnyH_done (by kernel_rfl) ?_ _
  clear hHeld HSF HW hWF
  go_wp2
  exact bodyPost_ret (v := .tuple #[.int .i64 oid, .agg a.cells.toArray, .bool true]) (results_mid Tryz.results44 rfl rfl HLF.out rfl) rfl ⟨rfl, HB.out⟩

set_option maxHeartbeats 2000000 in
set_option maxRecDepth 100000 in
theorem changeOf_back (tx prev oid : Int) (a : SlotA) (next : Int) (w : World) : Calls Tryz.prog 44 #[isbackDeed (backD tx prev oid a next)] w fun e w' => e = .returned (.tuple #[.int .i64 oid, .agg a.cells.toArray, .bool true]) ∧ Below w.heap.size w w' := by
  obtain ⟨W, hW, b0, b1, hbW, hsW⟩ := boxes2 w [.bool false, .int .i64 0, .slice none 0 0, .slice none 0 0] [.int .i64 tx, .int .i64 prev, .int .i64 oid, .bool a.v.has, .int .i64 a.v.o.kind, .slice a.aI a.v.o.ints.length a.cI, .slice a.aR a.v.o.refs.length a.cR, .int .i64 next] 27 121
  simp only [isbackDeed, backD]
  have a1 := fun W => no_setDeed W 121 (.agg #[.int .i64 tx, .int .i64 prev, .int .i64 oid, .bool a.v.has, .int .i64 a.v.o.kind, .slice a.aI a.v.o.ints.length a.cI, .slice a.aR a.v.o.refs.length a.cR, .int .i64 next]) (by decide)
  have a2 := fun W => yes_backDeed W (.agg #[.int .i64 tx, .int .i64 prev, .int .i64 oid, .bool a.v.has, .int .i64 a.v.o.kind, .slice a.aI a.v.o.ints.length a.cI, .slice a.aR a.v.o.refs.length a.cR, .int .i64 next])
  have HS : Hid (∀ w', Box w' (w.heap.size + 1) [.int .i64 tx, .int .i64 prev, .int .i64 oid, .bool a.v.has, .int .i64 a.v.o.kind, .slice a.aI a.v.o.ints.length a.cI, .slice a.aR a.v.o.refs.length a.cR, .int .i64 next] 121 → w'.cell? ⟨w.heap.size + 1, 0, none⟩ = some (.int .i64 tx) ∧ w'.cell? ⟨w.heap.size + 1, 1, none⟩ = some (.int .i64 prev) ∧ w'.cell? ⟨w.heap.size + 1, 2, none⟩ = some (.int .i64 oid) ∧ w'.cell? ⟨w.heap.size + 1, 3, none⟩ = some (.bool a.v.has) ∧ w'.cell? ⟨w.heap.size + 1, 4, none⟩ = some (.int .i64 a.v.o.kind) ∧ w'.cell? ⟨w.heap.size + 1, 5, none⟩ = some (.slice a.aI a.v.o.ints.length a.cI) ∧ w'.cell? ⟨w.heap.size + 1, 6, none⟩ = some (.slice a.aR a.v.o.refs.length a.cR) ∧ w'.cell? ⟨w.heap.size + 1, 7, none⟩ = some (.int .i64 next)) := fun w' b => ⟨b.cell 0 _ rfl, b.cell 1 _ rfl, b.cell 2 _ rfl, b.cell 3 _ rfl, b.cell 4 _ rfl, b.cell 5 _ rfl, b.cell 6 _ rfl, b.cell 7 _ rfl⟩
  have hlt := b1.lt
  have b0d := b0.below (Below.refl _ _).drew b0.lt
  have b1d := b1.below (Below.refl _ _).drew b1.lt
  have hh := HS.out _ b1
  obtain ⟨WF, hWF, hwF, hsF, HTF, HLF, _⟩ := slot_out a _ rfl b0d
  have HB : Hid (Below w.heap.size w WF) := hbW.drew.trans (hwF.below (by omega) (by have := hbW.drew.size; omega))
  have HSF : Hid (_) := HS.out _ (b1d.within hwF (by omega))
  clear hsW b0 b1 b0d hwF
  go_enter Tryz.func44, Tryz.ntmps44
  go_wp2_with fail
  rw [hW.out]
  clear hW
  refine wp_region_held_drew (S := fun w' => w'.cell? ⟨w.heap.size + 1, 0, none⟩ = some (.int .i64 tx) ∧ w'.cell? ⟨w.heap.size + 1, 1, none⟩ = some (.int .i64 prev) ∧ w'.cell? ⟨w.heap.size + 1, 2, none⟩ = some (.int .i64 oid) ∧ w'.cell? ⟨w.heap.size + 1, 3, none⟩ = some (.bool a.v.has) ∧ w'.cell? ⟨w.heap.size + 1, 4, none⟩ = some (.int .i64 a.v.o.kind) ∧ w'.cell? ⟨w.heap.size + 1, 5, none⟩ = some (.slice a.aI a.v.o.ints.length a.cI) ∧ w'.cell? ⟨w.heap.size + 1, 6, none⟩ = some (.slice a.aR a.v.o.refs.length a.cR) ∧ w'.cell? ⟨w.heap.size + 1, 7, none⟩ = some (.int .i64 next)) (by kernel_rfl) (HS.out _ b1d) (fun hHeld => ?_)
  refine wpAnyH_take (i := 0) (v := .pointer (some ⟨w.heap.size + 1, 2, none⟩)) rfl (by kernel_rfl) (by kernel_rfl) (by kernel_rfl) (fun _ _ _ h => h) (Or.inl ⟨by rfl, ?_⟩) hHeld ?_
  · intro w' hSw
    go_simp <;> rfl
  try simp only [Act.put, List.getElem_toArray, List.getElem_cons_zero, List.setIfInBounds_toArray, List.set_cons_zero, List.set_cons_succ]
  refine wpAnyH_take (i := 1) (v := .int .i64 oid) rfl (by kernel_rfl) (by kernel_rfl) (by kernel_rfl) (fun _ _ _ h => h) (Or.inl ⟨by rfl, ?_⟩) hHeld ?_
  · intro w' hSw
    go_simp <;> rfl
  try simp only [Act.put, List.getElem_toArray, List.getElem_cons_zero, List.getElem_cons_succ, List.setIfInBounds_toArray, List.set_cons_zero, List.set_cons_succ]
  refine wpAnyH_take (i := 2) (v := .pointer (some ⟨w.heap.size + 1, 3, none⟩)) rfl (by kernel_rfl) (by kernel_rfl) (by kernel_rfl) (fun _ _ _ h => h) (Or.inl ⟨by rfl, ?_⟩) hHeld ?_
  · intro w' hSw
    go_simp <;> rfl
  try simp only [Act.put, List.getElem_toArray, List.getElem_cons_zero, List.getElem_cons_succ, List.setIfInBounds_toArray, List.set_cons_zero, List.set_cons_succ]
  refine wpAnyH_take (i := 3) (v := .agg #[.bool a.v.has, .int .i64 a.v.o.kind, .slice a.aI a.v.o.ints.length a.cI, .slice a.aR a.v.o.refs.length a.cR]) rfl (by kernel_rfl) (by kernel_rfl) (by kernel_rfl) (fun _ _ _ h => h) (Or.inl ⟨by rfl, ?_⟩) hHeld ?_
  · intro w' hSw
    go_simp <;> rfl
  try simp only [Act.put, List.getElem_toArray, List.getElem_cons_zero, List.getElem_cons_succ, List.setIfInBounds_toArray, List.set_cons_zero, List.set_cons_succ]
  refine wpAnyH_take (i := 4) (v := .int .i64 oid) rfl (by kernel_rfl) (by kernel_rfl) (by kernel_rfl) (fun _ _ _ h => h) (Or.inl ⟨by rfl, ?_⟩) hHeld ?_
  · intro w' hSw
    go_simp <;> rfl
  try simp only [Act.put, List.getElem_toArray, List.getElem_cons_zero, List.getElem_cons_succ, List.setIfInBounds_toArray, List.set_cons_zero, List.set_cons_succ]
  refine wpAnyH_ready (rs := [5]) (by kernel_rfl) (by simp) ?_
  refine AllReadyH.cons rfl (fun K hK => ?_) AllReadyH.nil
  rw [if_pos (by rfl)]
  refine wp_store_mid 27 (.tmp 3) (.tmp 21) rfl w.heap.size 0 a.cells.toArray rfl rfl HTF.out slot_info (slot_one a) ?_
  have HW : Hid (W.drew.setCells w.heap.size 0 a.cells.toArray.toList = WF) := hWF.out
  rw [HW.out]
  refine hK.out _ _ HSF.out (fun hHeld => ?_)
  clear hK K
  simp only [Act.put, List.getElem_toArray, List.getElem_cons_zero, List.getElem_cons_succ]
  refine wpAnyH_take (i := 6) (v := .bool true) rfl (by kernel_rfl) (by kernel_rfl) (by kernel_rfl) (fun _ _ _ h => h) (Or.inl ⟨by rfl, ?_⟩) hHeld ?_
  · intro w' hSw
    go_simp <;> rfl
  try simp only [Act.put, List.getElem_toArray, List.getElem_cons_zero, List.getElem_cons_succ, List.setIfInBounds_toArray, List.set_cons_zero, List.set_cons_succ]
  refine wpAnyH_done (by kernel_rfl) ?_ _
  clear hHeld HSF HW hWF
  go_wp2
  exact bodyPost_ret (v := .tuple #[.int .i64 oid, .agg a.cells.toArray, .bool true]) (results_mid Tryz.results44 rfl rfl HLF.out rfl) rfl ⟨rfl, HB.out⟩

set_option maxHeartbeats 1000000 in
set_option maxRecDepth 100000 in
theorem changeOf_none (d : Value) (w : World) (h1 : ∀ W, (Instr.typeAssert d 85 119 true).run Tryz.prog W = .ok (.tuple #[.agg #[.int .i64 0, .int .i64 0, .int .i64 0, .bool false, .int .i64 0, .slice none 0 0, .slice none 0 0, .bool false, .int .i64 0, .slice none 0 0, .slice none 0 0], .bool false]) W) (h2 : ∀ W, (Instr.typeAssert d 85 121 true).run Tryz.prog W = .ok (.tuple #[.agg #[.int .i64 0, .int .i64 0, .int .i64 0, .bool false, .int .i64 0, .slice none 0 0, .slice none 0 0, .int .i64 0], .bool false]) W) :
    Calls Tryz.prog 44 #[d] w fun e w' => e = .returned (.tuple #[.int .i64 0, .agg zeroS.cells.toArray, .bool false]) ∧ Below w.heap.size w w' := by
  obtain ⟨W, hW, b0, hbW, hsW⟩ := boxes1 w [.bool false, .int .i64 0, .slice none 0 0, .slice none 0 0] 27
  have HL : Hid ((loadVar 27 ⟨w.heap.size, 0, none⟩).run Tryz.prog W = .ok (.agg zeroS.cells.toArray) W) := run_loadVar_mid (P := Tryz.prog) W w.heap.size 0 27 zeroS.cells _ (page_slot b0) Tryz.underlying27 rfl slot_info
  clear hsW b0
  go_enter Tryz.func44, Tryz.ntmps44
  go_wp2
  refine bodyPost_ret (v := .tuple #[.int .i64 0, .agg zeroS.cells.toArray, .bool false]) (results_mid Tryz.results44 rfl rfl ?_ rfl) rfl ⟨rfl, ?_⟩
  · rw [show _ = W from hW.out]; exact HL.out
  · rw [show _ = W from hW.out]; exact hbW
/-- What the landed code finds of a record: which object it changes to what, if any. -/
def ChangeA (r : RecA) (e : Ending) : Prop := ((r.kind == 1 || r.kind == 4) = true ∧ e = .returned (.tuple #[.int .i64 r.oid, .agg r.af.cells.toArray, .bool true])) ∨ ((r.kind == 1 || r.kind == 4) = false ∧ e = .returned (.tuple #[.int .i64 0, .agg zeroS.cells.toArray, .bool false]))
theorem changeOf_any (r : RecA) (w : World) : Calls Tryz.prog 44 #[deedV r] w fun e w' => ChangeA r e ∧ Below w.heap.size w w' := by
  cases k1 : (r.kind == 1) with
  | true =>
    have e1 : deedV r = issetDeed (setD r.tx r.prev r.oid r.bf r.af) := by simp [deedV, k1]
    rw [e1]
    refine (changeOf_set r.tx r.prev r.oid r.bf r.af w).mono ?_
    rintro e w' ⟨rfl, hb⟩
    exact ⟨.inl ⟨by simp [k1], rfl⟩, hb⟩
  | false =>
    cases k4 : (r.kind == 4) with
    | true =>
      have hk : r.kind = 4 := by simpa using k4
      have e1 : deedV r = isbackDeed (backD r.tx r.prev r.oid r.af r.next) := by simp [deedV, hk]
      rw [e1]
      refine (changeOf_back r.tx r.prev r.oid r.af r.next w).mono ?_
      rintro e w' ⟨rfl, hb⟩
      exact ⟨.inl ⟨by simp [k4], rfl⟩, hb⟩
    | false =>
      refine (changeOf_none (deedV r) w (fun W => ?_) (fun W => ?_)).mono ?_
      · unfold deedV
        rw [if_neg (by rw [k1]; decide), if_neg (c := (r.kind == 4) = true) (by rw [k4]; decide)]
        split
        · exact no_setDeed W _ _ (by decide)
        split
        · exact no_setDeed W _ _ (by decide)
        split
        · exact no_setDeed W _ _ (by decide)
        split
        · exact no_setDeed W _ _ (by decide)
        · exact nil_setDeed W
      · unfold deedV
        rw [if_neg (by rw [k1]; decide), if_neg (c := (r.kind == 4) = true) (by rw [k4]; decide)]
        split
        · exact no_backDeed W _ _ (by decide)
        split
        · exact no_backDeed W _ _ (by decide)
        split
        · exact no_backDeed W _ _ (by decide)
        split
        · exact no_backDeed W _ _ (by decide)
        · exact nil_backDeed W
      · rintro e w' ⟨rfl, hb⟩
        exact ⟨.inr ⟨by simp [k1, k4], rfl⟩, hb⟩

set_option maxHeartbeats 4000000 in
set_option maxRecDepth 100000 in
theorem implRedo_any (p : PageA) (h4 : p.ss.length = 4) (r : RecA) (w : World) (hg : ErrT w) (hr : ReadsS w p.ss) (hl : Fit p.ss) (hrr : r.reads w) (hlr : r.short 1099511627776) :
    Calls Tryz.prog 18 #[.agg p.cells.toArray, .agg r.cells.toArray] w fun e w' => RedoAns w w' p.lsn (p.ss.map (·.v)) r.v e := by
  obtain ⟨W, hW, b0, b1, b2, hbW, hsW⟩ := boxes3 w p.cells r.cells [.int .i64 0, .bool false, .int .i64 0, .slice none 0 0, .slice none 0 0, .bool false, .int .i64 0, .slice none 0 0, .slice none 0 0, .bool false, .int .i64 0, .slice none 0 0, .slice none 0 0, .bool false, .int .i64 0, .slice none 0 0, .slice none 0 0] 52 30 52
  have b2' : Box W (w.heap.size + 1 + 1) zero17 52 := b2
  have HX0 : Hid (∀ u, Below W.heap.size W u → Box u w.heap.size p.cells 52) := fun u hu => b0.below hu b0.lt
  have HX1 : Hid (∀ u, Below W.heap.size W u → Box u (w.heap.size + 1) r.cells 30) := fun u hu => b1.below hu b1.lt
  have HX2 : Hid (∀ u, Below W.heap.size W u → Box u (w.heap.size + 1 + 1) zero17 52) := fun u hu => b2'.below hu b2'.lt
  have HL : Hid (∀ u, Below W.heap.size W u → u.cell? ⟨w.heap.size, 0, none⟩ = some (.int .i64 p.lsn) ∧ u.cell? ⟨w.heap.size + 1, 0, none⟩ = some (.int .i64 r.lsn)) := fun u hu => ⟨(HX0.out u hu).cell 0 _ rfl, (HX1.out u hu).cell 0 _ rfl⟩
  have hlt := b2'.lt
  have HR : Hid (okR r.v = false → redoOk p.lsn (p.ss.map (·.v)) r.v = false) := fun h => redo_r h
  have HK : Hid ((r.kind == 1 || r.kind == 4) = false → redoOk p.lsn (p.ss.map (·.v)) r.v = false) := fun h => redo_k (r := r.v) ((Bool.or_eq_false_iff.1 h).1) ((Bool.or_eq_false_iff.1 h).2)
  have HN : Hid (r.lsn ≤ p.lsn → redoOk p.lsn (p.ss.map (·.v)) r.v = false) := fun h => redo_n (r := r.v) h
  have HY : Hid (okR r.v = true → (r.kind == 1 || r.kind == 4) = true → p.lsn < r.lsn → setOk p.lsn (p.ss.map (·.v)) (r.oid % 4) r.af.v r.lsn = redoOk p.lsn (p.ss.map (·.v)) r.v ∧ setOf p.lsn (p.ss.map (·.v)) (r.oid % 4) r.af.v r.lsn = redoOf p.lsn (p.ss.map (·.v)) r.v) := fun b c d => redo_set (r := r.v) b c d
  clear hsW b2 b2' b1 b0
  go_enter Tryz.func18, Tryz.ntmps18
  go_wp2_with (first | (guard_target = wpList _ _ _ (Oper.mk (some 10) _ _ _ _ _ :: _) _ _; refine wpList_load_mid rfl 30 (.tmp 3) rfl (w.heap.size + 1) 0 rfl r.cells _ (by rw [hW.out]; exact rec_rng' r (HX1.out _ (Below.refl _ _))) Tryz.underlying30 rfl (rec_info _) ?_) | fail)
  rw [hW.out]
  clear hW
  refine (deedOf_any r W).mono ?_
  rintro e w1 ⟨rfl, hb1⟩
  have CC := changeOf_any r w1
  generalize deedV r = D at *
  go_wp2_with fail
  refine CC.mono ?_
  clear CC
  rintro e w2 ⟨hch, hb2'⟩
  have hb2 : Below W.heap.size W w2 := hb1.trans (hb2'.mono hb1.size)
  clear hb2' hb1
  rcases hch with ⟨hk, rfl⟩ | ⟨hk, rfl⟩
  · obtain ⟨W3, hW3, b3, hbW3, _⟩ := boxes1 w2 r.af.cells 27
    have hb3 : Below W.heap.size W W3 := hb2.trans (hbW3.mono hb2.size)
    have HX3 : Hid (∀ u, Below W3.heap.size W3 u → Box u w2.heap.size r.af.cells 27) := fun u hu => b3.below hu b3.lt
    have r3 := rec_rng' r (HX1.out _ hb3)
    simp only [SlotA.cells] at hW3
    simp only [SlotA.cells]
    clear hbW3 b3
    go_wp2_with (first | (guard_target = wpList _ _ _ (Oper.mk (some 19) _ _ _ _ _ :: _) _ _; refine wpList_load_mid_if (by rfl) 30 (.tmp 3) rfl (w.heap.size + 1) 0 rfl r.cells _ (by rw [hW3.out]; exact r3) Tryz.underlying30 rfl (rec_info _) ?_) | fail)
    rw [hW3.out]
    clear hW3 r3
    refine (implRecOk_any r W3 (hg.keep (hbW.trans (hb3.mono hbW.size))) (hrr.below (hbW.trans (hb3.mono hbW.size))) hlr).mono ?_
    rintro e w4 ⟨rfl, hb4'⟩
    have hb4 : Below W.heap.size W w4 := hb3.trans (hb4'.mono hb3.size)
    have bA := HX3.out _ hb4'
    clear hb4' hb3 hb2 HX3
    cases hok : okR r.v with
    | false =>
      have HNO : Hid (redoOk p.lsn (p.ss.map (·.v)) r.v = false) := HR.out hok
      clear HR HK HN HY hok hk
      have rp := page_rng p (HX0.out _ hb4)
      go_wp2_with (first | (guard_target = wpList _ _ _ (Oper.mk (some 30) _ _ _ _ _ :: _) _ _; refine wpList_load_mid rfl 52 (.tmp 2) rfl w.heap.size 0 rfl p.cells _ rp Tryz.underlying52 rfl (page_info p h4) ?_) | fail)
      refine (copyPage_own p h4 w4 (hr.below (hbW.trans (hb4.mono hbW.size))) hl).mono ?_
      rintro e v1 ⟨ts, rfl, hvt, hot, hbt⟩
      have M1 : Below W.heap.size W v1 := hb4.trans (hbt.mono hb4.size)
      have z1 := hb4.size
      have z2 := hbt.size
      have ht4 := map_len4 hvt.out h4
      obtain ⟨WF, hWF, hwF, hsF, HTF, HLF, _⟩ := page_out' ⟨p.lsn, ts⟩ ht4 (HX2.out _ M1)
      have HE : Hid (RedoAns w WF p.lsn (p.ss.map (·.v)) r.v (.returned (.tuple #[.agg (PageA.cells ⟨p.lsn, ts⟩).toArray, .bool false]))) := redoAns_no HNO.out hvt.out ((hot.within hwF (by omega)).widen (by omega) (by omega) (Nat.le_refl _)) ((hbW.trans (M1.mono hbW.size)).trans (hwF.below (by omega) (by omega)))
      clear hwF hsF rp
      go_wp2_with (first | (guard_target = wpList _ _ _ (Oper.mk none (Op.store _ (Operand.tmp 4) _) _ _ _ _ :: _) _ _; refine wpList_store_mid rfl 52 (.tmp 4) (.tmp 31) rfl (w.heap.size + 1 + 1) 0 (PageA.cells ⟨p.lsn, ts⟩).toArray rfl rfl HTF.out (by rw [List.size_toArray]; exact page_info _ ht4) (all_oneCell_toArray (oneP _)) ?_) | fail)
      rw [hWF.out]
      exact bodyPost_ret (v := .tuple #[.agg (PageA.cells ⟨p.lsn, ts⟩).toArray, .bool false]) (results_cell_flag Tryz.results18 rfl HLF.out rfl) rfl HE.out
    | true =>
    obtain ⟨c0, c1⟩ := HL.out _ hb4
    by_cases hn : r.lsn ≤ p.lsn
    case pos =>
      have HNO : Hid (redoOk p.lsn (p.ss.map (·.v)) r.v = false) := HN.out hn
      clear HR HK HN HY hok hk
      have rp := page_rng p (HX0.out _ hb4)
      go_wp2_with (first | (guard_target = wpList _ _ _ (Oper.mk (some 30) _ _ _ _ _ :: _) _ _; refine wpList_load_mid rfl 52 (.tmp 2) rfl w.heap.size 0 rfl p.cells _ rp Tryz.underlying52 rfl (page_info p h4) ?_) | fail)
      refine (copyPage_own p h4 w4 (hr.below (hbW.trans (hb4.mono hbW.size))) hl).mono ?_
      rintro e v1 ⟨ts, rfl, hvt, hot, hbt⟩
      have M1 : Below W.heap.size W v1 := hb4.trans (hbt.mono hb4.size)
      have z1 := hb4.size
      have z2 := hbt.size
      have ht4 := map_len4 hvt.out h4
      obtain ⟨WF, hWF, hwF, hsF, HTF, HLF, _⟩ := page_out' ⟨p.lsn, ts⟩ ht4 (HX2.out _ M1)
      have HE : Hid (RedoAns w WF p.lsn (p.ss.map (·.v)) r.v (.returned (.tuple #[.agg (PageA.cells ⟨p.lsn, ts⟩).toArray, .bool false]))) := redoAns_no HNO.out hvt.out ((hot.within hwF (by omega)).widen (by omega) (by omega) (Nat.le_refl _)) ((hbW.trans (M1.mono hbW.size)).trans (hwF.below (by omega) (by omega)))
      clear hwF hsF rp
      go_wp2_with (first | (guard_target = wpList _ _ _ (Oper.mk none (Op.store _ (Operand.tmp 4) _) _ _ _ _ :: _) _ _; refine wpList_store_mid rfl 52 (.tmp 4) (.tmp 31) rfl (w.heap.size + 1 + 1) 0 (PageA.cells ⟨p.lsn, ts⟩).toArray rfl rfl HTF.out (by rw [List.size_toArray]; exact page_info _ ht4) (all_oneCell_toArray (oneP _)) ?_) | fail)
      rw [hWF.out]
      exact bodyPost_ret (v := .tuple #[.agg (PageA.cells ⟨p.lsn, ts⟩).toArray, .bool false]) (results_cell_flag Tryz.results18 rfl HLF.out rfl) rfl HE.out
    case neg =>
      have HYE : Hid (_ ∧ _) := HY.out hok hk (by omega)
      obtain ⟨k, hk4, hm, hm2, hm3⟩ := okR_oid hok
      simp only [RecA.v] at hm hm2
      obtain ⟨y0, y1, y2, y3, _⟩ := bA.four
      have rp := page_rng p (HX0.out _ hb4)
      have CS := implSetSlot_any p h4 (k : Int) r.af r.lsn w4 (hg.keep (hbW.trans (hb4.mono hbW.size))) (hr.below (hbW.trans (hb4.mono hbW.size))) hl (ReadsO.below hrr.af (hbW.trans (hb4.mono hbW.size))) (one_fit hlr.af)
      rw [← hm, HYE.out.1, HYE.out.2] at CS
      have HA : Hid (∀ v1 e, (∃ ts : List SlotA, e = Ending.returned (.tuple #[.agg (PageA.cells ⟨(redoOf p.lsn (p.ss.map (·.v)) r.v).1, ts⟩).toArray, .bool (redoOk p.lsn (p.ss.map (·.v)) r.v)]) ∧ Hid (ts.map (·.v) = (redoOf p.lsn (p.ss.map (·.v)) r.v).2) ∧ OwnS v1 w.heap.size v1.heap.size ts ∧ Below w.heap.size w v1) → RedoAns w v1 p.lsn (p.ss.map (·.v)) r.v e) := fun _ _ h => h
      have HLEN : Hid ((redoOf p.lsn (p.ss.map (·.v)) r.v).2.length = 4) := by
        rw [Hid]; unfold redoOf; split <;> simp [h4]
      clear HR HK HN HY HYE hok hk hm3
      generalize redoOf p.lsn (p.ss.map (·.v)) r.v = RO at *
      generalize redoOk p.lsn (p.ss.map (·.v)) r.v = RK at *
      simp only [SlotA.cells] at CS
      rw [hm] at CS
      go_wp2_with (first | (guard_target = wpList _ _ _ (Oper.mk (some 32) _ _ _ _ _ :: _) _ _; refine wpList_load_mid rfl 52 (.tmp 2) rfl w.heap.size 0 rfl p.cells _ rp Tryz.underlying52 rfl (page_info p h4) ?_) | fail)
      refine CS.mono ?_
      clear CS rp y0 y1 y2 y3 c0 c1
      rintro e v1 ⟨ts, rfl, hvt, hot, hbt⟩
      have M1 : Below W.heap.size W v1 := hb4.trans (hbt.mono hb4.size)
      have z1 := hb4.size
      have z2 := hbt.size
      have ht4 : ts.length = 4 := by have := congrArg List.length hvt.out; rw [List.length_map, HLEN.out] at this; exact this
      obtain ⟨WF, hWF, hwF, hsF, HTF, HLF, _⟩ := page_out' ⟨RO.1, ts⟩ ht4 (HX2.out _ M1)
      have HE : Hid (_) := HA.out WF _ ⟨ts, rfl, hvt, (hot.within hwF (by omega)).widen (by omega) (by omega) (Nat.le_refl _), (hbW.trans (M1.mono hbW.size)).trans (hwF.below (by omega) (by omega))⟩
      clear hwF hsF HA
      go_wp2_with (first | (guard_target = wpList _ _ _ (Oper.mk none (Op.store _ (Operand.tmp 4) _) _ _ _ _ :: _) _ _; refine wpList_store_mid rfl 52 (.tmp 4) (.tmp 39) rfl (w.heap.size + 1 + 1) 0 (PageA.cells ⟨RO.1, ts⟩).toArray rfl rfl HTF.out (by rw [List.size_toArray]; exact page_info _ ht4) (all_oneCell_toArray (oneP _)) ?_) | fail)
      rw [hWF.out]
      exact bodyPost_ret (v := .tuple #[.agg (PageA.cells ⟨RO.1, ts⟩).toArray, .bool RK]) (results_cell_flag Tryz.results18 rfl HLF.out rfl) rfl HE.out
  · obtain ⟨W3, hW3, b3, hbW3, _⟩ := boxes1 w2 [.bool false, .int .i64 0, .slice none 0 0, .slice none 0 0] 27
    have hb3 : Below W.heap.size W W3 := hb2.trans (hbW3.mono hb2.size)
    clear hbW3 b3 hb2
    simp only [show zeroS.cells = [.bool false, .int .i64 0, .slice none 0 0, .slice none 0 0] from rfl]
    have HNO : Hid (redoOk p.lsn (p.ss.map (·.v)) r.v = false) := HK.out hk
    clear HR HK HN HY hk
    have rp := page_rng p (HX0.out _ hb3)
    go_wp2_with (first | (guard_target = wpList _ _ _ (Oper.mk (some 30) _ _ _ _ _ :: _) _ _; refine wpList_load_mid rfl 52 (.tmp 2) rfl w.heap.size 0 rfl p.cells _ (by rw [hW3.out]; exact rp) Tryz.underlying52 rfl (page_info p h4) ?_) | fail)
    rw [hW3.out]
    clear hW3
    refine (copyPage_own p h4 W3 (hr.below (hbW.trans (hb3.mono hbW.size))) hl).mono ?_
    rintro e v1 ⟨ts, rfl, hvt, hot, hbt⟩
    have M1 : Below W.heap.size W v1 := hb3.trans (hbt.mono hb3.size)
    have z1 := hb3.size
    have z2 := hbt.size
    have ht4 := map_len4 hvt.out h4
    obtain ⟨WF, hWF, hwF, hsF, HTF, HLF, _⟩ := page_out' ⟨p.lsn, ts⟩ ht4 (HX2.out _ M1)
    have HE : Hid (RedoAns w WF p.lsn (p.ss.map (·.v)) r.v (.returned (.tuple #[.agg (PageA.cells ⟨p.lsn, ts⟩).toArray, .bool false]))) := redoAns_no HNO.out hvt.out ((hot.within hwF (by omega)).widen (by omega) (by omega) (Nat.le_refl _)) ((hbW.trans (M1.mono hbW.size)).trans (hwF.below (by omega) (by omega)))
    clear hwF hsF rp
    go_wp2_with (first | (guard_target = wpList _ _ _ (Oper.mk none (Op.store _ (Operand.tmp 4) _) _ _ _ _ :: _) _ _; refine wpList_store_mid rfl 52 (.tmp 4) (.tmp 31) rfl (w.heap.size + 1 + 1) 0 (PageA.cells ⟨p.lsn, ts⟩).toArray rfl rfl HTF.out (by rw [List.size_toArray]; exact page_info _ ht4) (all_oneCell_toArray (oneP _)) ?_) | fail)
    rw [hWF.out]
    exact bodyPost_ret (v := .tuple #[.agg (PageA.cells ⟨p.lsn, ts⟩).toArray, .bool false]) (results_cell_flag Tryz.results18 rfl HLF.out rfl) rfl HE.out
end Go.Proofs.YtjaojcgfgkppgaaGreatDoor
