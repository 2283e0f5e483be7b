/- Several texts in one, in their order. -/
import Derived.Test.YtjaojcgfgkppgaaDoorPiece34
import Derived.Test.YtjaojcgfgkppgaaDoorPiece39
import Derived.Test.YtjaojcgfgkppgaaDoorPiece29
import Derived.Test.YtjaojcgfgkppgaaDoorProg
import Derived.Test.YtjaojcgfgkppgaaDoorPiece1
import Derived.ProofKit
import Derived.OpenShut
import Derived.ChangeOld
/- The walks of impl.backOf and impl.UndoOf. -/
namespace Go.Proofs.YtjaojcgfgkppgaaDoor
open Go.RowKit

set_option maxHeartbeats 4000000 in
set_option maxRecDepth 100000 in
theorem backOf_set (tx prev oid : Int) (b a : SlotA) (p : Int) (w : World) (hb : b.reads w) (hl : b.v.o.ints.length ≤ 1099511627776 ∧ b.v.o.refs.length ≤ 1099511627776) :
    Calls Tryd.prog 49 #[issetDeed (setD tx prev oid b a), .int .i64 p] w fun e w' => ∃ t : SlotA, e = .returned (isbackDeed (backD tx p oid t prev)) ∧ Hid (t.v = b.v) ∧ t.own w' w.heap.size w'.heap.size ∧ Below w.heap.size w w' := by
  obtain ⟨W, hW, b0, hbW, hsW⟩ := boxes1 w [.int .i64 tx, .int .i64 prev, .int .i64 oid, .bool b.v.has, .int .i64 b.v.o.kind, .slice b.aI b.v.o.ints.length b.cI, .slice b.aR b.v.o.refs.length b.cR, .bool a.v.has, .int .i64 a.v.o.kind, .slice a.aI a.v.o.ints.length a.cI, .slice a.aR a.v.o.refs.length a.cR] 103
  simp only [issetDeed, setD]
  have a1 := fun W => yes_setDeed W (.agg #[.int .i64 tx, .int .i64 prev, .int .i64 oid, .bool b.v.has, .int .i64 b.v.o.kind, .slice b.aI b.v.o.ints.length b.cI, .slice b.aR b.v.o.refs.length b.cR, .bool a.v.has, .int .i64 a.v.o.kind, .slice a.aI a.v.o.ints.length a.cI, .slice a.aR a.v.o.refs.length a.cR])
  have HC : Hid (∀ w', Below W.heap.size W w' → w'.cell? ⟨w.heap.size, 0, none⟩ = some (.int .i64 tx) ∧ w'.cell? ⟨w.heap.size, 1, none⟩ = some (.int .i64 prev) ∧ w'.cell? ⟨w.heap.size, 2, none⟩ = some (.int .i64 oid) ∧ w'.cell? ⟨w.heap.size, 3, none⟩ = some (.bool b.v.has) ∧ w'.cell? ⟨w.heap.size, 4, none⟩ = some (.int .i64 b.v.o.kind) ∧ w'.cell? ⟨w.heap.size, 5, none⟩ = some (.slice b.aI b.v.o.ints.length b.cI) ∧ w'.cell? ⟨w.heap.size, 6, none⟩ = some (.slice b.aR b.v.o.refs.length b.cR) ∧ w'.cell? ⟨w.heap.size, 7, none⟩ = some (.bool a.v.has) ∧ w'.cell? ⟨w.heap.size, 8, none⟩ = some (.int .i64 a.v.o.kind) ∧ w'.cell? ⟨w.heap.size, 9, none⟩ = some (.slice a.aI a.v.o.ints.length a.cI) ∧ w'.cell? ⟨w.heap.size, 10, none⟩ = some (.slice a.aR a.v.o.refs.length a.cR)) := fun w' hu => ⟨(b0.below hu b0.lt).cell 0 _ rfl, (b0.below hu b0.lt).cell 1 _ rfl, (b0.below hu b0.lt).cell 2 _ rfl, (b0.below hu b0.lt).cell 3 _ rfl, (b0.below hu b0.lt).cell 4 _ rfl, (b0.below hu b0.lt).cell 5 _ rfl, (b0.below hu b0.lt).cell 6 _ rfl, (b0.below hu b0.lt).cell 7 _ rfl, (b0.below hu b0.lt).cell 8 _ rfl, (b0.below hu b0.lt).cell 9 _ rfl, (b0.below hu b0.lt).cell 10 _ rfl⟩
  have hb' := ReadsO.below hb hbW
  clear hsW b0
  go_enter Tryd.func49, Tryd.ntmps49
  go_wp2_with fail
  rw [hW.out]
  clear hW a1
  refine wp_region_held_drew (S := fun w' => w'.cell? ⟨w.heap.size, 0, none⟩ = some (.int .i64 tx) ∧ w'.cell? ⟨w.heap.size, 1, none⟩ = some (.int .i64 prev) ∧ w'.cell? ⟨w.heap.size, 2, none⟩ = some (.int .i64 oid) ∧ w'.cell? ⟨w.heap.size, 3, none⟩ = some (.bool b.v.has) ∧ w'.cell? ⟨w.heap.size, 4, none⟩ = some (.int .i64 b.v.o.kind) ∧ w'.cell? ⟨w.heap.size, 5, none⟩ = some (.slice b.aI b.v.o.ints.length b.cI) ∧ w'.cell? ⟨w.heap.size, 6, none⟩ = some (.slice b.aR b.v.o.refs.length b.cR) ∧ w'.cell? ⟨w.heap.size, 7, none⟩ = some (.bool a.v.has) ∧ w'.cell? ⟨w.heap.size, 8, none⟩ = some (.int .i64 a.v.o.kind) ∧ w'.cell? ⟨w.heap.size, 9, none⟩ = some (.slice a.aI a.v.o.ints.length a.cI) ∧ w'.cell? ⟨w.heap.size, 10, none⟩ = some (.slice a.aR a.v.o.refs.length a.cR)) (by kernel_rfl) (HC.out _ (Below.refl _ _).drew) (fun hHeld => ?_)
  refine wpAnyH_take (i := 0) (v := .pointer (some ⟨w.heap.size, 0, none⟩)) rfl (by kernel_rfl) (by kernel_rfl) (by kernel_rfl) (fun _ _ _ h => h) (Or.inl ⟨by rfl, ?_⟩) hHeld ?_
  · intro w' hSw
    go_simp <;> rfl
  try simp only [Act.put, List.getElem_toArray, List.getElem_cons_zero, List.setIfInBounds_toArray, List.set_cons_zero, List.set_cons_succ]
  refine wpAnyH_take (i := 1) (v := .pointer (some ⟨w.heap.size, 0, none⟩)) rfl (by kernel_rfl) (by kernel_rfl) (by kernel_rfl) (fun _ _ _ h => h) (Or.inl ⟨by rfl, ?_⟩) hHeld ?_
  · intro w' hSw
    go_simp <;> rfl
  try simp only [Act.put, List.getElem_toArray, List.getElem_cons_zero, List.getElem_cons_succ, List.setIfInBounds_toArray, List.set_cons_zero, List.set_cons_succ]
  refine wpAnyH_take (i := 2) (v := .int .i64 tx) rfl (by kernel_rfl) (by kernel_rfl) (by kernel_rfl) (fun _ _ _ h => h) (Or.inl ⟨by rfl, ?_⟩) hHeld ?_
  · intro w' hSw
    go_simp <;> rfl
  try simp only [Act.put, List.getElem_toArray, List.getElem_cons_zero, List.getElem_cons_succ, List.setIfInBounds_toArray, List.set_cons_zero, List.set_cons_succ]
  refine wpAnyH_take (i := 3) (v := .int .i64 p) rfl (by kernel_rfl) (by kernel_rfl) (by kernel_rfl) (fun _ _ _ h => h) (Or.inl ⟨by rfl, ?_⟩) hHeld ?_
  · intro w' hSw
    go_simp <;> rfl
  try simp only [Act.put, List.getElem_toArray, List.getElem_cons_zero, List.getElem_cons_succ, List.setIfInBounds_toArray, List.set_cons_zero, List.set_cons_succ]
  refine wpAnyH_take (i := 4) (v := .agg #[.int .i64 tx, .int .i64 p]) rfl (by kernel_rfl) (by kernel_rfl) (by kernel_rfl) (fun _ _ _ h => h) (Or.inl ⟨by rfl, ?_⟩) hHeld ?_
  · intro w' hSw
    go_simp <;> rfl
  try simp only [Act.put, List.getElem_toArray, List.getElem_cons_zero, List.getElem_cons_succ, List.setIfInBounds_toArray, List.set_cons_zero, List.set_cons_succ]
  refine wpAnyH_take (i := 5) (v := .pointer (some ⟨w.heap.size, 2, none⟩)) rfl (by kernel_rfl) (by kernel_rfl) (by kernel_rfl) (fun _ _ _ h => h) (Or.inl ⟨by rfl, ?_⟩) hHeld ?_
  · intro w' hSw
    go_simp <;> rfl
  try simp only [Act.put, List.getElem_toArray, List.getElem_cons_zero, List.getElem_cons_succ, List.setIfInBounds_toArray, List.set_cons_zero, List.set_cons_succ]
  refine wpAnyH_take (i := 6) (v := .int .i64 oid) rfl (by kernel_rfl) (by kernel_rfl) (by kernel_rfl) (fun _ _ _ h => h) (Or.inl ⟨by rfl, ?_⟩) hHeld ?_
  · intro w' hSw
    go_simp <;> rfl
  try simp only [Act.put, List.getElem_toArray, List.getElem_cons_zero, List.getElem_cons_succ, List.setIfInBounds_toArray, List.set_cons_zero, List.set_cons_succ]
  refine wpAnyH_take (i := 7) (v := .pointer (some ⟨w.heap.size, 3, none⟩)) rfl (by kernel_rfl) (by kernel_rfl) (by kernel_rfl) (fun _ _ _ h => h) (Or.inl ⟨by rfl, ?_⟩) hHeld ?_
  · intro w' hSw
    go_simp <;> rfl
  try simp only [Act.put, List.getElem_toArray, List.getElem_cons_zero, List.getElem_cons_succ, List.setIfInBounds_toArray, List.set_cons_zero, List.set_cons_succ]
  refine wpAnyH_take (i := 8) (v := .agg #[.bool b.v.has, .int .i64 b.v.o.kind, .slice b.aI b.v.o.ints.length b.cI, .slice b.aR b.v.o.refs.length b.cR]) rfl (by kernel_rfl) (by kernel_rfl) (by kernel_rfl) (fun _ _ _ h => h) (Or.inl ⟨by rfl, ?_⟩) hHeld ?_
  · intro w' hSw
    go_simp <;> rfl
  try simp only [Act.put, List.getElem_toArray, List.getElem_cons_zero, List.getElem_cons_succ, List.setIfInBounds_toArray, List.set_cons_zero, List.set_cons_succ]
  refine wpAnyH_take (i := 10) (v := .pointer (some ⟨w.heap.size, 0, none⟩)) rfl (by kernel_rfl) (by kernel_rfl) (by kernel_rfl) (fun _ _ _ h => h) (Or.inl ⟨by rfl, ?_⟩) hHeld ?_
  · intro w' hSw
    go_simp <;> rfl
  try simp only [Act.put, List.getElem_toArray, List.getElem_cons_zero, List.getElem_cons_succ, List.setIfInBounds_toArray, List.set_cons_zero, List.set_cons_succ]
  refine wpAnyH_take (i := 11) (v := .pointer (some ⟨w.heap.size, 1, none⟩)) rfl (by kernel_rfl) (by kernel_rfl) (by kernel_rfl) (fun _ _ _ h => h) (Or.inl ⟨by rfl, ?_⟩) hHeld ?_
  · intro w' hSw
    go_simp <;> rfl
  try simp only [Act.put, List.getElem_toArray, List.getElem_cons_zero, List.getElem_cons_succ, List.setIfInBounds_toArray, List.set_cons_zero, List.set_cons_succ]
  refine wpAnyH_take (i := 12) (v := .int .i64 prev) rfl (by kernel_rfl) (by kernel_rfl) (by kernel_rfl) (fun _ _ _ h => h) (Or.inl ⟨by rfl, ?_⟩) hHeld ?_
  · intro w' hSw
    go_simp <;> rfl
  try simp only [Act.put, List.getElem_toArray, List.getElem_cons_zero, List.getElem_cons_succ, List.setIfInBounds_toArray, List.set_cons_zero, List.set_cons_succ]
  refine wpAnyH_ready (rs := [9]) (by kernel_rfl) (by simp) ?_
  refine AllReadyH.cons rfl (fun K hK => ?_) AllReadyH.nil
  go_simp
  refine (copySlot_own b _ (ReadsO.below hb' (Below.refl _ _).drew) hl.1 hl.2).mono ?_
  rintro e u1 ⟨t, rfl, hv, ho, hb1⟩
  have hB1 : Below W.heap.size W u1 := (Below.refl _ _).drew.trans hb1
  have ho' : t.own u1 w.heap.size u1.heap.size := OwnO.widen ho hbW.size (Nat.le_refl _) (Nat.le_refl _)
  refine hK.out _ _ (HC.out _ hB1) (fun hHeld => ?_)
  clear hK K
  try simp only [Act.put, List.getElem_toArray, List.getElem_cons_zero, List.getElem_cons_succ, List.setIfInBounds_toArray, List.set_cons_zero, List.set_cons_succ]
  refine wpAnyH_take (i := 13) (v := .agg #[.int .i64 tx, .int .i64 p, .int .i64 oid, .bool t.v.has, .int .i64 t.v.o.kind, .slice t.aI t.v.o.ints.length t.cI, .slice t.aR t.v.o.refs.length t.cR, .int .i64 prev]) rfl (by kernel_rfl) (by kernel_rfl) (by kernel_rfl) (fun _ _ _ h => h) (Or.inl ⟨by rfl, ?_⟩) hHeld ?_
  · intro w' hSw
    go_simp <;> rfl
  try simp only [Act.put, List.getElem_toArray, List.getElem_cons_zero, List.getElem_cons_succ, List.setIfInBounds_toArray, List.set_cons_zero, List.set_cons_succ]
  refine wpAnyH_take (i := 14) (v := isbackDeed (backD tx p oid t prev)) rfl (by kernel_rfl) (by kernel_rfl) (by kernel_rfl) (fun _ _ _ h => h) (Or.inl ⟨by rfl, ?_⟩) hHeld ?_
  · intro w' hSw
    go_simp <;> rfl
  try simp only [Act.put, List.getElem_toArray, List.getElem_cons_zero, List.getElem_cons_succ, List.setIfInBounds_toArray, List.set_cons_zero, List.set_cons_succ]
  refine wpAnyH_take (i := 15) (v := isbackDeed (backD tx p oid t prev)) rfl (by kernel_rfl) (by kernel_rfl) (by kernel_rfl) (fun _ _ _ h => h) (Or.inl ⟨by rfl, ?_⟩) hHeld ?_
  · intro w' hSw
    go_simp <;> rfl
  try simp only [Act.put, List.getElem_toArray, List.getElem_cons_zero, List.getElem_cons_succ, List.setIfInBounds_toArray, List.set_cons_zero, List.set_cons_succ]
  refine wpAnyH_done (by kernel_rfl) ?_ _
  clear hHeld
  go_wp2
  go_ret
  exact ⟨t, rfl, hv, ho', hbW.trans (hB1.mono hbW.size)⟩

set_option maxHeartbeats 400000 in
set_option maxRecDepth 100000 in
theorem backOf_none (d : Value) (p : Int) (w : World) (h : ∀ W, (Instr.typeAssert d 71 103 true).run Tryd.prog W = .ok (.tuple #[.agg #[.int .i64 0, .int .i64 0, .int .i64 0, .bool false, .int .i64 0, .slice none 0 0, .slice none 0 0, .bool false, .int .i64 0, .slice none 0 0, .slice none 0 0], .bool false]) W) :
    Calls Tryd.prog 49 #[d, .int .i64 p] w fun e w' => e = .returned .nilIface ∧ Below w.heap.size w w' := by
  go_enter Tryd.func49, Tryd.ntmps49
  go_wp2
  go_ret
  exact ⟨rfl, (Below.refl _ _).alloc (Nat.le_refl _) _⟩
theorem backOf_other (r : RecA) (hk : (r.kind == 1) = false) (p : Int) (w : World) : Calls Tryd.prog 49 #[deedV r, .int .i64 p] w fun e w' => e = .returned .nilIface ∧ Below w.heap.size w w' := by
  refine backOf_none _ p w fun W => ?_
  unfold deedV
  rw [if_neg (by rw [hk]; decide)]
  split
  · exact no_setDeed W _ _ (by decide)
  split
  · exact no_setDeed W _ _ (by decide)
  split
  · exact no_setDeed W _ _ (by decide)
  split
  · exact no_setDeed W _ _ (by decide)
  split
  · exact no_setDeed W _ _ (by decide)
  · exact nil_setDeed W
/-- What the landed code has made of it ahead of its last test. -/
def MadeR (r : RecA) (n p : Int) (t : RecA) : Prop := (r.kind = 1 ∧ t.v = backV r.v n p) ∨ (¬ r.kind = 1 ∧ t.v = noR)

set_option maxHeartbeats 4000000 in
set_option maxRecDepth 100000 in
theorem implUndoOf_any (r : RecA) (n p : Int) (w : World) (hg : ErrT w) (hr : r.reads w) (hl : r.short 1099511627776) :
    Calls Tryd.prog 18 #[.agg r.cells.toArray, .int .i64 n, .int .i64 p] w fun e w' => ∃ t : RecA, e = .returned (.agg t.cells.toArray) ∧ Hid (t.v = undoV r.v n p) ∧ t.own w' w.heap.size w'.heap.size ∧ Below w.heap.size w w' := by
  obtain ⟨W, hW, b0, b1, hbW, hsW⟩ := boxes2 w r.cells zeroR.cells 31 31
  have HX : Hid (∀ u, Below W.heap.size W u → u.rangeAt w.heap.size 0 r.cells ∧ Box u (w.heap.size + 1) zeroR.cells 31) := fun u hu => ⟨Box.range [] r.cells [] (by simpa using b0.below hu b0.lt), b1.below hu b1.lt⟩
  have HU1 : Hid (okR r.v = false → undoV r.v n p = noR) := fun h => undoV_bad h
  have HU2 : Hid (∀ t, MadeR r n p t → okR t.v = false → undoV r.v n p = noR) := fun t h h1 => by
    rcases h with ⟨_, e⟩ | ⟨hk, _⟩
    · rw [e] at h1; exact undoV_no h1
    · exact undoV_kind hk
  have HU3 : Hid (okR r.v = true → ∀ t, MadeR r n p t → okR t.v = true → undoV r.v n p = t.v) := fun h0 t h h1 => by
    rcases h with ⟨hk, e⟩ | ⟨_, e⟩
    · rw [e] at h1 ⊢; exact undoV_yes h0 hk h1
    · rw [e, noR_bad] at h1; cases h1
  generalize undoV r.v n p = R at *
  have C1 := implRecOk_any r W (hg.keep hbW) (hr.below hbW) hl
  have hlt := b1.lt
  clear b0 b1 hsW
  simp only [show zeroR.cells = [.int .i64 0, .int .i64 0, .int .i64 0, .int .i64 0, .int .i64 0, .bool false, .int .i64 0, .slice none 0 0, .slice none 0 0, .bool false, .int .i64 0, .slice none 0 0, .slice none 0 0, .int .i64 0, .slice none 0 0] from rfl] at hW
  go_enter Tryd.func18, Tryd.ntmps18
  go_wp2_with (first | (guard_target = wpList _ _ _ (Oper.mk (some 8) _ _ _ _ _ :: _) _ _; refine wpList_load_mid rfl 31 (.tmp 3) rfl w.heap.size 0 rfl r.cells _ (by rw [hW.out]; exact (HX.out _ (Below.refl _ _)).1) Tryd.underlying31 rfl (rec_info _) ?_) | fail)
  rw [hW.out]
  clear hW
  refine C1.mono ?_
  clear C1
  rintro e w1 ⟨rfl, hb1⟩
  have B1 : Below w.heap.size w w1 := hbW.trans (hb1.mono hbW.size)
  have hs1 := hb1.size
  cases hok : okR r.v with
  | false =>
    have HR : Hid (zeroR.v = R) := (HU1.out hok).symm
    obtain ⟨WF, hWF, hwF, hsF, HTF, HLF, _⟩ := rec_out zeroR _ rfl (HX.out _ hb1).2
    have HE : Hid (zeroR.own WF w.heap.size WF.heap.size ∧ Below w.heap.size w WF) := ⟨own_zeroR _ _ _ (Nat.le_refl _), B1.trans (hwF.below (by omega) (by omega))⟩
    clear hwF hsF HU1 HU2 HU3 hok
    go_wp2_with (first | (guard_target = wpList _ _ _ (Oper.mk none (Op.store _ (Operand.tmp 6) _) _ _ _ _ :: _) _ _; refine wpList_store_mid rfl 31 (.tmp 6) (.tmp 11) rfl (w.heap.size + 1) 0 zeroR.cells.toArray rfl rfl HTF.out (by rw [List.size_toArray]; exact rec_info _) (rec_one _) ?_) | fail)
    rw [hWF.out]
    exact bodyPost_ret (v := .agg zeroR.cells.toArray) (results_one Tryd.results18 rfl HLF.out) rfl ⟨zeroR, rfl, HR, HE.out.1, HE.out.2⟩
  | true =>
    have r1 := (HX.out _ hb1).1
    go_wp2_with (first | (guard_target = wpList _ _ _ (Oper.mk (some 13) _ _ _ _ _ :: _) _ _; refine wpList_load_mid rfl 31 (.tmp 3) rfl w.heap.size 0 rfl r.cells _ r1 Tryd.underlying31 rfl (rec_info _) ?_) | fail)
    clear r1
    refine (deedOf_any r w1).mono ?_
    rintro e w2 ⟨rfl, hb2⟩
    have B2 : Below w.heap.size w w2 := B1.trans (hb2.mono B1.size)
    have M2 : Below W.heap.size W w2 := hb1.trans (hb2.mono hb1.size)
    have HBK : Calls Tryd.prog 49 #[deedV r, .int .i64 p] w2 fun e w3 => Below w2.heap.size w2 w3 ∧ ∃ d, e = .returned d ∧ Hid (Calls Tryd.prog 39 #[.int .i64 n, d] w3 fun e w4 => ∃ t : RecA, e = .returned (.agg t.cells.toArray) ∧ Hid (MadeR r n p t ∧ t.short 1099511627776) ∧ t.own w4 w2.heap.size w4.heap.size ∧ Below w3.heap.size w3 w4) := by
      cases hk : (r.kind == 1) with
      | true =>
        have e1 : deedV r = issetDeed (setD r.tx r.prev r.oid r.bf r.af) := by simp [deedV, hk]
        rw [e1]
        refine (backOf_set r.tx r.prev r.oid r.bf r.af p w2 (ReadsO.below hr.bf B2) hl.bf).mono ?_
        rintro e w3 ⟨t, rfl, hv, ho, hb3⟩
        refine ⟨hb3, _, rfl, ?_⟩
        refine (recOf_back n r.tx p r.oid t r.prev w3).mono ?_
        rintro e w4 ⟨rfl, hb4⟩
        have ho4 : t.own w4 w2.heap.size w4.heap.size := OwnO.widen (OwnO.below ho hb4) (Nat.le_refl _) hb4.size (Nat.le_refl _)
        refine ⟨backA n r.tx p r.oid t r.prev, rfl, ⟨.inl ⟨by simpa using hk, ?_⟩, ?_⟩, own_backA _ _ _ _ _ ho4 (Nat.le_refl _), hb4⟩
        · simp only [RecA.v, backA, backV, hv.out]; rfl
        · exact ⟨⟨Nat.zero_le _, Nat.zero_le _⟩, by rw [show (backA n r.tx p r.oid t r.prev).af = t from rfl, hv.out]; exact hl.bf, Nat.zero_le _⟩
      | false =>
        refine (backOf_other r hk p w2).mono ?_
        rintro e w3 ⟨rfl, hb3⟩
        refine ⟨hb3, _, rfl, ?_⟩
        refine (recOf_nil n w3).mono ?_
        rintro e w4 ⟨rfl, hb4⟩
        exact ⟨zeroR, rfl, ⟨.inr ⟨by simpa using hk, rfl⟩, ⟨⟨Nat.zero_le _, Nat.zero_le _⟩, ⟨Nat.zero_le _, Nat.zero_le _⟩, Nat.zero_le _⟩⟩, own_zeroR _ _ _ (Nat.le_refl _), hb4⟩
    generalize deedV r = D at *
    go_wp2_with fail
    refine HBK.mono ?_
    clear HBK
    rintro e w3 ⟨hb3, d, rfl, HRC⟩
    go_wp2_with fail
    refine HRC.out.mono ?_
    clear HRC
    rintro e w4 ⟨t, rfl, HM, ho, hb4⟩
    have N4 : Below w2.heap.size w2 w4 := hb3.trans (hb4.mono hb3.size)
    have M4 : Below W.heap.size W w4 := M2.trans (N4.mono M2.size)
    have B4 : Below w.heap.size w w4 := B2.trans (N4.mono B2.size)
    obtain ⟨W5, hW5, b5, hb5, hs5⟩ := boxes1 w4 t.cells 31
    have hz4 := hb5.size
    have ho5 := ho.below hb5
    have B5 : Below w.heap.size w W5 := B4.trans (hb5.mono B4.size)
    have M5 : Below W.heap.size W W5 := M4.trans (hb5.mono M4.size)
    have C6 := implRecOk_any t W5 (hg.keep B5) ho5.reads HM.out.2
    have HR5 : Hid (∀ u, Below W5.heap.size W5 u → u.rangeAt w4.heap.size 0 t.cells) := fun u hu => Box.range [] t.cells [] (by simpa using b5.below hu b5.lt)
    have r5 := HR5.out _ (Below.refl _ _)
    have hlt5 := b5.lt
    have hB2s := B2.size
    have hM2s := M2.size
    have hN4s := N4.size
    clear b5 hs5 hb3 hb4 hb2 N4 M4 B4 M2
    have HTC : Hid (t.cells = _) := rfl
    simp only [RecA.cells] at hW5
    simp only [RecA.cells]
    go_wp2_with (first | (guard_target = wpList _ _ _ (Oper.mk (some 18) _ _ _ _ _ :: _) _ _; refine wpList_load_mid rfl 31 (.tmp 7) rfl w4.heap.size 0 rfl t.cells _ (by rw [hW5.out]; exact r5) Tryd.underlying31 rfl (rec_info _) ?_) | fail)
    rw [hW5.out]
    clear hW5 r5
    refine C6.mono ?_
    clear C6
    rintro e w6 ⟨rfl, hb6⟩
    have M6 : Below W.heap.size W w6 := M5.trans (hb6.mono M5.size)
    have B6 : Below w.heap.size w w6 := B5.trans (hb6.mono B5.size)
    have hs6 := hb6.size
    cases hok6 : okR t.v with
    | false =>
      have HR : Hid (zeroR.v = R) := (HU2.out t HM.out.1 hok6).symm
      obtain ⟨WF, hWF, hwF, hsF, HTF, HLF, _⟩ := rec_out zeroR _ rfl (HX.out _ M6).2
      have HE : Hid (zeroR.own WF w.heap.size WF.heap.size ∧ Below w.heap.size w WF) := ⟨own_zeroR _ _ _ (Nat.le_refl _), B6.trans (hwF.below (by omega) (by omega))⟩
      clear hwF hsF HU1 HU2 HU3 hok hok6
      go_wp2_with (first | (guard_target = wpList _ _ _ (Oper.mk none (Op.store _ (Operand.tmp 6) _) _ _ _ _ :: _) _ _; refine wpList_store_mid rfl 31 (.tmp 6) (.tmp 21) rfl (w.heap.size + 1) 0 zeroR.cells.toArray rfl rfl HTF.out (by rw [List.size_toArray]; exact rec_info _) (rec_one _) ?_) | fail)
      rw [hWF.out]
      exact bodyPost_ret (v := .agg zeroR.cells.toArray) (results_one Tryd.results18 rfl HLF.out) rfl ⟨zeroR, rfl, HR, HE.out.1, HE.out.2⟩
    | true =>
      have HR : Hid (t.v = R) := (HU3.out hok t HM.out.1 hok6).symm
      obtain ⟨WF, hWF, hwF, hsF, HTF, HLF, _⟩ := rec_out t _ rfl (HX.out _ M6).2
      have oF : t.own WF w.heap.size WF.heap.size := ((ho5.below hb6).within hwF (.inr (by omega))).widen (by omega) (by omega) (Nat.le_refl _)
      have HE : Hid (t.own WF w.heap.size WF.heap.size ∧ Below w.heap.size w WF) := ⟨oF, B6.trans (hwF.below (by omega) (by omega))⟩
      have r6 := HR5.out _ hb6
      clear hwF hsF HU1 HU2 HU3 hok hok6 oF
      go_wp2_with (first | (guard_target = wpList _ _ _ (Oper.mk (some 22) _ _ _ _ _ :: _) _ _; refine wpList_load_mid rfl 31 (.tmp 7) rfl w4.heap.size 0 rfl t.cells _ r6 Tryd.underlying31 rfl (rec_info _) ?_) | (guard_target = wpList _ _ _ (Oper.mk none (Op.store _ (Operand.tmp 6) _) _ _ _ _ :: _) _ _; refine wpList_store_mid rfl 31 (.tmp 6) (.tmp 22) rfl (w.heap.size + 1) 0 t.cells.toArray rfl rfl HTF.out (by rw [List.size_toArray]; exact rec_info _) (rec_one _) ?_) | fail)
      rw [hWF.out]
      exact bodyPost_ret (v := .agg t.cells.toArray) (results_one Tryd.results18 rfl HLF.out) rfl ⟨t, rfl, HR, HE.out.1, HE.out.2⟩
end Go.Proofs.YtjaojcgfgkppgaaDoor

/- What came in, read: a slice of bytes. -/
namespace Go.Proofs.YtjaojcgfgkppgaaDoor
open Go.ChangeShapes Go.WideShapes Go.ChangeAt Go.RowKit

section
variable {H : Type} {enc : TypeId × Value → H} {w : World} {base : Nat} {spare : Nat → Bool} {held : Bool}

theorem trod_bytes {fuel : Nat} {cs : List Value} {x : DataW H × List MemPlace} (h : DataW.trod enc Tryd.prog w base spare held fuel 22 cs = some x) :
    ∃ (a : Option Addr) (c : Nat) (ns : List Int), cs = [.slice a ns.length c] ∧ Reads w a ns ∧ (a = none → c = 0) ∧ ns.length ≤ maxLen := by
  rcases open_ints Tryd.underlying22 Tryd.underlying5 (by kernel_rfl) h with ⟨rfl, _⟩ | ⟨a, len, cap, zs, rfl, _, hl, hm, hz, _, hcell, hwf⟩
  · exact ⟨none, 0, [], rfl, ⟨by simp, by simp⟩, fun _ => rfl, by simp⟩
  · have hlz : len ≤ zs.length := by rw [hz]; split <;> omega
    refine ⟨some a, cap, zs.take len, by simp; omega, ⟨fun z hzz => ?_, ?_⟩, (fun h => by cases h), by simp; omega⟩
    · have := hwf z (List.mem_of_mem_take hzz)
      simp [Lit.wf, IntKind.min, IntKind.max, IntKind.signed, IntKind.bits] at this
      omega
    · intro hne
      have hpos := List.length_pos_iff.2 hne
      simp at hpos
      obtain ⟨b, off, spot⟩ := a
      have hc0 := hcell 0 (by omega)
      have hspot : spot = none := by simpa [Addr.add] using World.cell?_spot hc0
      subst hspot
      refine ⟨b, off, rfl, fun i hi => ?_⟩
      have hi' : i < len := by simp at hi; omega
      have := hcell i (by omega)
      have e : (List.take len zs).getD i 0 = zs.getD i 0 := by simp [List.getD, hi']
      rw [e, ← Addr_add]
      exact this

set_option maxRecDepth 100000 in
/-- A slice of bytes that came in as an argument. -/
theorem open_bytes {b0 : Nat} {v : Value} {d : DataW H} {ps : List MemPlace} (hval : Value.okWide Tryd.prog w .any b0 22 v) (h : DataW.Trod enc Tryd.prog w base spare held 22 v d ps) :
    ∃ (a : Option Addr) (c : Nat) (ns : List Int), v = .slice a ns.length c ∧ Reads w a ns ∧ (a = none → c = 0) ∧ ns.length ≤ maxLen := by
  obtain ⟨a, len, cap, hv⟩ := okWide_slice (e := 5) Tryd.underlying22 hval
  subst hv
  obtain ⟨fuel, hf⟩ := h
  have e : (Value.slice a len cap).cells.toList = [Value.slice a len cap] := rfl
  rw [e] at hf
  obtain ⟨a', c', ns, hc, rest⟩ := trod_bytes hf
  simp only [List.cons.injEq, and_true] at hc
  exact ⟨a', c', ns, hc, rest⟩
end
end Go.Proofs.YtjaojcgfgkppgaaDoor
