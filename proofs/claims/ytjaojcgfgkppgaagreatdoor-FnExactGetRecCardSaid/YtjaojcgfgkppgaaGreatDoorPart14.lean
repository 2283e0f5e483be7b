/- Several texts in one, in their order. -/
import Derived.Test.YtjaojcgfgkppgaaGreatDoorPart13
import Derived.Test.YtjaojcgfgkppgaaGreatDoorPart7
import Derived.Test.YtjaojcgfgkppgaaGreatDoorPart11
import Derived.Test.YtjaojcgfgkppgaaGreatDoorPart8
import Derived.Test.YtjaojcgfgkppgaaGreatDoorPart12
import Derived.Test.YtjaojcgfgkppgaaGreatDoorPart9
import Derived.Test.YtjaojcgfgkppgaaGreatDoorProg
import Derived.Test.YtjaojcgfgkppgaaGreatDoorPart1
import Derived.ProofKit
import Derived.OpenShut
import Derived.ChangeOld
import Derived.Test.YtjaojcgfgkppgaaGreatDoorPart2
/- Undone: what the model and the landed code make of a record, in common. -/
namespace Go.Proofs.YtjaojcgfgkppgaaGreatDoor
open Go.RowKit

/-- The record that undoes r, if all is right. -/
def backV (r : RecV) (n p : Int) : RecV := ⟨n, r.tx, p, 4, r.oid, noS, r.bf, r.prev, []⟩
def undoV (r : RecV) (n p : Int) : RecV := if okR r = true ∧ r.kind = 1 ∧ okR (backV r n p) = true then backV r n p else noR
theorem undoV_bad {r : RecV} {n p : Int} (h : okR r = false) : undoV r n p = noR := by unfold undoV; rw [if_neg]; rintro ⟨h1, _⟩; rw [h] at h1; cases h1
theorem undoV_kind {r : RecV} {n p : Int} (h : ¬ r.kind = 1) : undoV r n p = noR := by unfold undoV; rw [if_neg]; rintro ⟨_, h1, _⟩; exact h h1
theorem undoV_no {r : RecV} {n p : Int} (h : okR (backV r n p) = false) : undoV r n p = noR := by unfold undoV; rw [if_neg]; rintro ⟨_, _, h1⟩; rw [h] at h1; cases h1
theorem undoV_yes {r : RecV} {n p : Int} (h1 : okR r = true) (h2 : r.kind = 1) (h3 : okR (backV r n p) = true) : undoV r n p = backV r n p := by unfold undoV; rw [if_pos ⟨h1, h2, h3⟩]
theorem noR_bad : okR noR = false := rfl
theorem zero_own (w : World) (lo hi : Nat) (h : hi ≤ w.heap.size) : zeroS.own w lo hi := ⟨ownI_nil _ _ _ h, ownI_nil _ _ _ h, fun k hk => by cases hk⟩
theorem own_zeroR (w : World) (lo hi : Nat) (h : hi ≤ w.heap.size) : zeroR.own w lo hi := ⟨zero_own w lo hi h, zero_own w lo hi h, ownL_nil w lo hi h, by decide⟩
/-- The record that undoes: only its slot has lists. -/
def backA (n tx p oid : Int) (t : SlotA) (x : Int) : RecA := ⟨n, tx, p, 4, oid, zeroS, t, x, [], none, 0⟩
theorem own_backA {w : World} {lo hi : Nat} {t : SlotA} (n tx p oid x : Int) (h : t.own w lo hi) (hh : hi ≤ w.heap.size) : (backA n tx p oid t x).own w lo hi :=
  ⟨zero_own w lo hi hh, h, ownL_nil w lo hi hh, by
    show ([] ++ (t.blocks ++ [])).Nodup
    rw [List.nil_append, List.append_nil]
    exact SlotA.blocks_nodup h⟩
theorem rec_out {w : World} {C : Nat} (q : RecA) (old : List Value) (ho : old.length = 15) (bC : Box w C old 30) :
    ∃ WF, Hid (w.setCells C 0 q.cells = WF) ∧ Within C (C + 1) w WF ∧ WF.heap.size = w.heap.size ∧ Hid (w.there C 0 q.cells.toArray.size) ∧ Hid ((loadVar 30 ⟨C, 0, none⟩).run Tryz.prog WF = .ok (.agg q.cells.toArray) WF) ∧ Box WF C q.cells 30 := by
  obtain ⟨WF, hWF, bF, hwF, hsF⟩ := range_fill [] old q.cells [] (by simpa using bC) (by rw [ho]; rfl)
  have bF' : Box WF C q.cells 30 := by simpa using bF
  exact ⟨WF, hWF, hwF, hsF, bC.there 0 _ (by rw [ho]; show 0 + 15 ≤ 15; decide), rec_load q bF', bF'⟩
theorem rec_info (q : RecA) : (Tryz.prog.info? 30).map (·.size) = some q.cells.length := by show _ = some 15; kernel_rfl
theorem rec_one (q : RecA) : q.cells.toArray.all (·.oneCell') = true := all_oneCell_toArray (oneR q)
end Go.Proofs.YtjaojcgfgkppgaaGreatDoor

/- The walks of impl.readRec and impl.GetRec. -/
namespace Go.Proofs.YtjaojcgfgkppgaaGreatDoor
open Go.RowKit

theorem readR_n0 {zs : List Int} (h : numsAt zs 6 0 = none) : readR zs = none := by unfold readR; rw [h]
theorem readR_n1 {zs : List Int} {n t v k o x : Int} {p : Nat} (h : numsAt zs 6 0 = some ([n, t, v, k, o, x], p)) (h1 : slotAt zs p = none) : readR zs = none := by unfold readR; rw [h]; simp only; rw [h1]
theorem readR_n2 {zs : List Int} {n t v k o x : Int} {p q : Nat} {b : SlotV} (h : numsAt zs 6 0 = some ([n, t, v, k, o, x], p)) (h1 : slotAt zs p = some (b, q)) (h2 : slotAt zs q = none) : readR zs = none := by unfold readR; rw [h]; simp only; rw [h1]; simp only; rw [h2]
theorem readR_n3 {zs : List Int} {n t v k o x : Int} {p q s : Nat} {b a : SlotV} (h : numsAt zs 6 0 = some ([n, t, v, k, o, x], p)) (h1 : slotAt zs p = some (b, q)) (h2 : slotAt zs q = some (a, s)) (h3 : countAt zs s = none) : readR zs = none := by unfold readR; rw [h]; simp only; rw [h1]; simp only; rw [h2]; simp only; rw [h3]
theorem readR_n4 {zs : List Int} {n t v k o x : Int} {p q s z : Nat} {b a : SlotV} {l : List LiveV} (h : numsAt zs 6 0 = some ([n, t, v, k, o, x], p)) (h1 : slotAt zs p = some (b, q)) (h2 : slotAt zs q = some (a, s)) (h3 : countAt zs s = some (l, z)) (h4 : ¬ z = zs.length) : readR zs = none := by unfold readR; rw [h]; simp only; rw [h1]; simp only; rw [h2]; simp only; rw [h3]; simp only; rw [if_neg h4]
theorem six_set {w : World} {C : Nat} {T : TypeId} (b : Box w C [.int .i64 0, .int .i64 0, .int .i64 0, .int .i64 0, .int .i64 0, .bool false, .int .i64 0, .slice none 0 0, .slice none 0 0, .bool false, .int .i64 0, .slice none 0 0, .slice none 0 0, .int .i64 0, .slice none 0 0] T) (n t v k o x : Int) : Box (setAll w [(C, 0), (C, 1), (C, 2), (C, 3), (C, 4), (C, 13)] [n, t, v, k, o, x]) C [.int .i64 n, .int .i64 t, .int .i64 v, .int .i64 k, .int .i64 o, .bool false, .int .i64 0, .slice none 0 0, .slice none 0 0, .bool false, .int .i64 0, .slice none 0 0, .slice none 0 0, .int .i64 x, .slice none 0 0] T :=
  (((((b.set 0 (.int .i64 n)).set 1 (.int .i64 t)).set 2 (.int .i64 v)).set 3 (.int .i64 k)).set 4 (.int .i64 o)).set 13 (.int .i64 x)
def RecAns (w' : World) (lo : Nat) (x : Option RecV) (e : Ending) : Prop := match x with
  | some r => ∃ t : RecA, e = .returned (.tuple #[.agg t.cells.toArray, .bool true]) ∧ t.v = r ∧ t.own w' lo w'.heap.size
  | none => ∃ t : RecA, e = .returned (.tuple #[.agg t.cells.toArray, .bool false])
theorem recAns_none {w' : World} {lo : Nat} {x : Option RecV} (h : x = none) (t : RecA) : RecAns w' lo x (.returned (.tuple #[.agg t.cells.toArray, .bool false])) := by subst h; exact ⟨t, rfl⟩
theorem recAns_some {w' : World} {lo : Nat} {x : Option RecV} {r : RecV} (h : x = some r) (t : RecA) (hv : t.v = r) (ho : t.own w' lo w'.heap.size) : RecAns w' lo x (.returned (.tuple #[.agg t.cells.toArray, .bool true])) := by subst h; exact ⟨t, rfl, hv, ho⟩

set_option maxHeartbeats 8000000 in
set_option maxRecDepth 100000 in
theorem readRec_any (a : Option Addr) (c : Nat) (zs : List Int) (w : World) (hg : ErrT w) (hr : Reads w a zs) (hl : zs.length ≤ 1099511627776) (hcap : zs.length ≤ c) :
    Calls Tryz.prog 27 #[.slice a zs.length c] w fun e w' => RecAns w' w.heap.size (readR zs) e ∧ Below w.heap.size w w' := by
  obtain ⟨W, hW, bR, bC, hbW, hsW⟩ := boxes2 w [.int .i64 0, .int .i64 0, .int .i64 0, .int .i64 0, .int .i64 0, .bool false, .int .i64 0, .slice none 0 0, .slice none 0 0, .bool false, .int .i64 0, .slice none 0 0, .slice none 0 0, .int .i64 0, .slice none 0 0] [.int .i64 0, .int .i64 0, .int .i64 0, .int .i64 0, .int .i64 0, .bool false, .int .i64 0, .slice none 0 0, .slice none 0 0, .bool false, .int .i64 0, .slice none 0 0, .slice none 0 0, .int .i64 0, .slice none 0 0] 30 30
  obtain ⟨W2, hW2, bP, hbW2, hsW2⟩ := boxes1 W [.pointer (some ⟨w.heap.size + 1, 0, none⟩), .pointer (some ⟨w.heap.size + 1, 1, none⟩), .pointer (some ⟨w.heap.size + 1, 2, none⟩), .pointer (some ⟨w.heap.size + 1, 3, none⟩), .pointer (some ⟨w.heap.size + 1, 4, none⟩), .pointer (some ⟨w.heap.size + 1, 13, none⟩)] 101
  have bR2 := bR.below hbW2 bR.lt
  have bC2 := bC.below hbW2 bC.lt
  have hltC := bC.lt
  have sW2 := hbW2.size
  have B2 : Below w.heap.size w W2 := hbW.trans (hbW2.mono hbW.size)
  have hP3 : W.heap.size = w.heap.size + 1 + 1 := by omega
  rw [hP3] at bP
  have hltP := bP.lt
  have hrl : ∀ u, Within (w.heap.size + 1) (w.heap.size + 2) W2 u → Reads u a zs := fun u hu => hr.below (B2.trans (hu.below (by omega) B2.size))
  have CI := readInts_any a c zs 0 (w.heap.size + 1 + 1) 6 (w.heap.size + 1) (w.heap.size + 2) [(w.heap.size + 1, 0), (w.heap.size + 1, 1), (w.heap.size + 1, 2), (w.heap.size + 1, 3), (w.heap.size + 1, 4), (w.heap.size + 1, 13)] W2 hrl (by omega) hcap (by simp) 101 bP (by omega) (by
    intro x hx
    simp only [List.mem_cons, List.not_mem_nil, or_false] at hx
    rcases hx with rfl | rfl | rfl | rfl | rfl | rfl
    · exact ⟨⟨by omega, by omega⟩, by rw [bC2.cell 0 _ rfl]; rfl, bC2.frozen 0⟩
    · exact ⟨⟨by omega, by omega⟩, by rw [bC2.cell 1 _ rfl]; rfl, bC2.frozen 1⟩
    · exact ⟨⟨by omega, by omega⟩, by rw [bC2.cell 2 _ rfl]; rfl, bC2.frozen 2⟩
    · exact ⟨⟨by omega, by omega⟩, by rw [bC2.cell 3 _ rfl]; rfl, bC2.frozen 3⟩
    · exact ⟨⟨by omega, by omega⟩, by rw [bC2.cell 4 _ rfl]; rfl, bC2.frozen 4⟩
    · exact ⟨⟨by omega, by omega⟩, by rw [bC2.cell 13 _ rfl]; rfl, bC2.frozen 13⟩)
  simp only [List.length_cons, List.length_nil, Nat.zero_add, Nat.reduceAdd, Int.natCast_zero] at CI
  have H0 : Hid (numsAt zs 6 0 = none → readR zs = none) := fun h => readR_n0 h
  have H1 : Hid (∀ n t v k o x p, numsAt zs 6 0 = some ([n, t, v, k, o, x], p) → slotAt zs p = none → readR zs = none) := fun _ _ _ _ _ _ _ h h1 => readR_n1 h h1
  have H2 : Hid (∀ n t v k o x p b q, numsAt zs 6 0 = some ([n, t, v, k, o, x], p) → slotAt zs p = some (b, q) → slotAt zs q = none → readR zs = none) := fun _ _ _ _ _ _ _ _ _ h h1 h2 => readR_n2 h h1 h2
  have H3 : Hid (∀ n t v k o x p b q b' s, numsAt zs 6 0 = some ([n, t, v, k, o, x], p) → slotAt zs p = some (b, q) → slotAt zs q = some (b', s) → countAt zs s = none → readR zs = none) := fun _ _ _ _ _ _ _ _ _ _ _ h h1 h2 h3 => readR_n3 h h1 h2 h3
  have H4 : Hid (∀ n t v k o x p b q b' s l z, numsAt zs 6 0 = some ([n, t, v, k, o, x], p) → slotAt zs p = some (b, q) → slotAt zs q = some (b', s) → countAt zs s = some (l, z) → ¬ z = zs.length → readR zs = none) := fun _ _ _ _ _ _ _ _ _ _ _ _ _ h h1 h2 h3 h4 => readR_n4 h h1 h2 h3 h4
  have H5 : Hid (∀ n t v k o x p b q b' s l, numsAt zs 6 0 = some ([n, t, v, k, o, x], p) → slotAt zs p = some (b, q) → slotAt zs q = some (b', s) → countAt zs s = some (l, zs.length) → readR zs = some ⟨n, t, v, k, o, b, b', x, l⟩) := fun _ _ _ _ _ _ _ _ _ _ _ _ h h1 h2 h3 => readR_eq h h1 h2 h3
  have HS6 : Hid (∀ n t v k o x, _) := fun n t v k o x => six_set bC2 n t v k o x
  generalize readR zs = XX at *
  clear hP3 hsW hsW2 bC bR bC2 bP
  go_enter Tryz.func27, Tryz.ntmps27
  go_wp2_with fail
  rw [hW.out, hW2.out]
  clear hW hW2
  refine CI.mono ?_
  clear CI
  rintro e w3 ⟨hans, hw3⟩
  have bR3 := bR2.within hw3 (by omega)
  have B3 : Below w.heap.size w w3 := B2.trans (hw3.below (by omega) (by omega))
  have s3 := hw3.size
  cases hn : numsAt zs 6 0 with
  | none =>
    have HX : Hid (XX = none) := H0.out hn
    rw [hn] at hans
    obtain ⟨rfl, _⟩ := hans
    clear H0 H1 H2 H3 H4 H5 HS6 hn
    obtain ⟨WF, hWF, hwF, hsF, HTF, HLF, _⟩ := rec_out zeroR _ rfl bR3
    have HB : Hid (Below w.heap.size w WF) := (B3).trans (hwF.below (Nat.le_refl _) (B3).size)
    clear hwF hsF
    go_wp2_with (first | (guard_target = wpList _ _ _ (Oper.mk none (Op.store _ (Operand.tmp 2) _) _ _ _ _ :: _) _ _; refine wpList_store_mid rfl 30 (.tmp 2) (.tmp 21) rfl w.heap.size 0 zeroR.cells.toArray rfl rfl HTF.out (by rw [List.size_toArray]; exact rec_info _) (rec_one _) ?_) | fail)
    rw [hWF.out]
    exact bodyPost_ret (v := .tuple #[.agg zeroR.cells.toArray, .bool false]) (results_cell_flag Tryz.results27 rfl HLF.out rfl) rfl ⟨recAns_none HX.out zeroR, HB.out⟩
  | some g =>
  obtain ⟨l, p⟩ := g
  rw [hn] at hans
  obtain ⟨rfl, hwe, hll⟩ := hans
  have hll' : l.length = 6 := hll
  match l, hll' with
  | [n, t, v, k, o, x], _ =>
  have bC3 := HS6.out n t v k o x
  have hwe' : w3 = setAll W2 [(w.heap.size + 1, 0), (w.heap.size + 1, 1), (w.heap.size + 1, 2), (w.heap.size + 1, 3), (w.heap.size + 1, 4), (w.heap.size + 1, 13)] [n, t, v, k, o, x] := hwe
  rw [← hwe'] at bC3
  clear hwe hwe' HS6 H0 hll bR2 hw3
  go_wp2_with fail
  refine (readSlot_any a c zs p w3 (hg.keep B3) (hr.below B3) hl hcap).mono ?_
  rintro e w4 ⟨hans, hb4⟩
  have B4 : Below w.heap.size w w4 := B3.trans (hb4.mono B3.size)
  have bR4 := bR3.below hb4 bR3.lt
  have bC4 := bC3.below hb4 bC3.lt
  have s4 := hb4.size
  clear bC3 bR3
  cases h1 : slotAt zs p with
  | none =>
    have HX : Hid (XX = none) := H1.out _ _ _ _ _ _ _ hn h1
    rw [h1] at hans
    simp only [SlotAns, SlotA.cells, zeroS] at hans
    obtain rfl := hans
    clear H1 H2 H3 H4 H5 hn h1
    have x5 := bC4.cell 5 _ rfl
    have xf5 := bC4.frozen 5
    have x6 := bC4.cell 6 _ rfl
    have xf6 := bC4.frozen 6
    have x7 := bC4.cell 7 _ rfl
    have xf7 := bC4.frozen 7
    have x8 := bC4.cell 8 _ rfl
    have xf8 := bC4.frozen 8
    obtain ⟨W5, hW5, b5, hw5, hs5⟩ := box_quad bC4 5 6 7 8 (.bool false) (.int .i64 0) (.slice none 0 0) (.slice none 0 0)
    have B5 : Below w.heap.size w W5 := B4.trans (hw5.below (by omega) (by omega))
    have bR5 := bR4.within hw5 (by omega)
    obtain ⟨WF, hWF, hwF, hsF, HTF, HLF, _⟩ := rec_out zeroR _ rfl bR5
    have HB : Hid (Below w.heap.size w WF) := (B5).trans (hwF.below (Nat.le_refl _) (B5).size)
    clear hwF hsF
    clear hw5 b5 bC4 bR4
    simp only [List.length_nil]
    go_wp2_with (first | (guard_target = wpList _ _ _ (Oper.mk none (Op.store _ (Operand.tmp 2) _) _ _ _ _ :: _) _ _; refine wpList_store_mid rfl 30 (.tmp 2) (.tmp 32) rfl w.heap.size 0 zeroR.cells.toArray rfl rfl (by rw [hW5.out]; exact HTF.out) (by rw [List.size_toArray]; exact rec_info _) (rec_one _) ?_) | fail)
    rw [hW5.out, hWF.out]
    exact bodyPost_ret (v := .tuple #[.agg zeroR.cells.toArray, .bool false]) (results_cell_flag Tryz.results27 rfl HLF.out rfl) rfl ⟨recAns_none HX.out zeroR, HB.out⟩
  | some g =>
  obtain ⟨sv1, q1⟩ := g
  rw [h1] at hans
  obtain ⟨t1, rfl, hv1, ho1⟩ := hans
  have HV1 : Hid (t1.v = sv1) := hv1
  clear hv1
  simp only [SlotA.cells]
  have x5 := bC4.cell 5 _ rfl
  have xf5 := bC4.frozen 5
  have x6 := bC4.cell 6 _ rfl
  have xf6 := bC4.frozen 6
  have x7 := bC4.cell 7 _ rfl
  have xf7 := bC4.frozen 7
  have x8 := bC4.cell 8 _ rfl
  have xf8 := bC4.frozen 8
  obtain ⟨W5, hW5, b5, hw5, hs5⟩ := box_quad bC4 5 6 7 8 (.bool t1.v.has) (.int .i64 t1.v.o.kind) (.slice t1.aI t1.v.o.ints.length t1.cI) (.slice t1.aR t1.v.o.refs.length t1.cR)
  simp only [List.set] at b5
  have B5 : Below w.heap.size w W5 := B4.trans (hw5.below (by omega) (by omega))
  have bR5 := bR4.within hw5 (by omega)
  have o15 : t1.own W5 w3.heap.size w4.heap.size := OwnO.within ho1 hw5 (by omega)
  clear hw5 bC4 bR4 H1 ho1
  go_wp2_with fail
  rw [hW5.out]
  clear hW5 x5 xf5 x6 xf6 x7 xf7 x8 xf8
  refine (readSlot_any a c zs q1 W5 (hg.keep B5) (hr.below B5) hl hcap).mono ?_
  rintro e w6 ⟨hans, hb6⟩
  have B6 : Below w.heap.size w w6 := B5.trans (hb6.mono B5.size)
  have bR6 := bR5.below hb6 bR5.lt
  have bC6 := b5.below hb6 b5.lt
  have o16 := OwnO.below o15 hb6
  have s6 := hb6.size
  clear b5 bR5 o15
  cases h2 : slotAt zs q1 with
  | none =>
    have HX : Hid (XX = none) := H2.out _ _ _ _ _ _ _ _ _ hn h1 h2
    rw [h2] at hans
    simp only [SlotAns, SlotA.cells, zeroS] at hans
    obtain rfl := hans
    clear H2 H3 H4 H5 hn h1 h2
    have x9 := bC6.cell 9 _ rfl
    have xf9 := bC6.frozen 9
    have x10 := bC6.cell 10 _ rfl
    have xf10 := bC6.frozen 10
    have x11 := bC6.cell 11 _ rfl
    have xf11 := bC6.frozen 11
    have x12 := bC6.cell 12 _ rfl
    have xf12 := bC6.frozen 12
    obtain ⟨W7, hW7, b7, hw7, hs7⟩ := box_quad bC6 9 10 11 12 (.bool false) (.int .i64 0) (.slice none 0 0) (.slice none 0 0)
    have B7 : Below w.heap.size w W7 := B6.trans (hw7.below (by omega) (by omega))
    have bR7 := bR6.within hw7 (by omega)
    obtain ⟨WF, hWF, hwF, hsF, HTF, HLF, _⟩ := rec_out zeroR _ rfl bR7
    have HB : Hid (Below w.heap.size w WF) := (B7).trans (hwF.below (Nat.le_refl _) (B7).size)
    clear hwF hsF
    clear hw7 b7 bC6 bR6
    simp only [List.length_nil]
    go_wp2_with (first | (guard_target = wpList _ _ _ (Oper.mk none (Op.store _ (Operand.tmp 2) _) _ _ _ _ :: _) _ _; refine wpList_store_mid rfl 30 (.tmp 2) (.tmp 43) rfl w.heap.size 0 zeroR.cells.toArray rfl rfl (by rw [hW7.out]; exact HTF.out) (by rw [List.size_toArray]; exact rec_info _) (rec_one _) ?_) | fail)
    rw [hW7.out, hWF.out]
    exact bodyPost_ret (v := .tuple #[.agg zeroR.cells.toArray, .bool false]) (results_cell_flag Tryz.results27 rfl HLF.out rfl) rfl ⟨recAns_none HX.out zeroR, HB.out⟩
  | some g =>
  obtain ⟨sv2, q2⟩ := g
  rw [h2] at hans
  obtain ⟨t2, rfl, hv2, ho2⟩ := hans
  have HV2 : Hid (t2.v = sv2) := hv2
  clear hv2
  simp only [SlotA.cells]
  have x9 := bC6.cell 9 _ rfl
  have xf9 := bC6.frozen 9
  have x10 := bC6.cell 10 _ rfl
  have xf10 := bC6.frozen 10
  have x11 := bC6.cell 11 _ rfl
  have xf11 := bC6.frozen 11
  have x12 := bC6.cell 12 _ rfl
  have xf12 := bC6.frozen 12
  obtain ⟨W7, hW7, b7, hw7, hs7⟩ := box_quad bC6 9 10 11 12 (.bool t2.v.has) (.int .i64 t2.v.o.kind) (.slice t2.aI t2.v.o.ints.length t2.cI) (.slice t2.aR t2.v.o.refs.length t2.cR)
  simp only [List.set] at b7
  have B7 : Below w.heap.size w W7 := B6.trans (hw7.below (by omega) (by omega))
  have bR7 := bR6.within hw7 (by omega)
  have o17 := OwnO.within o16 hw7 (by omega)
  have o27 : t2.own W7 W5.heap.size w6.heap.size := OwnO.within ho2 hw7 (by omega)
  clear hw7 bC6 bR6 H2 ho2 o16
  go_wp2_with fail
  rw [hW7.out]
  clear hW7 x9 xf9 x10 xf10 x11 xf11 x12 xf12
  refine (readLives_any a c zs q2 W7 (hr.below B7) (by omega) hcap).mono ?_
  rintro e w8 ⟨hans, hb8⟩
  have B8 : Below w.heap.size w w8 := B7.trans (hb8.mono B7.size)
  have bR8 := bR7.below hb8 bR7.lt
  have bC8 := b7.below hb8 b7.lt
  have o18 := OwnO.below o17 hb8
  have o28 := OwnO.below o27 hb8
  have s8 := hb8.size
  clear b7 bR7 o17 o27
  have x14 := bC8.cell 14 _ rfl
  have xf14 := bC8.frozen 14
  cases h3 : countAt zs q2 with
  | none =>
    have HX : Hid (XX = none) := H3.out _ _ _ _ _ _ _ _ _ _ _ hn h1 h2 h3
    rw [h3] at hans
    simp only [LivesAns] at hans
    obtain rfl := hans
    clear H3 H4 H5 hn h1 h2 h3
    obtain ⟨W9, hW9, b9, hw9, hs9⟩ := box_set bC8 14 (.slice none 0 0)
    have B9 : Below w.heap.size w W9 := B8.trans (hw9.below (by omega) (by omega))
    have bR9 := bR8.within hw9 (by omega)
    obtain ⟨WF, hWF, hwF, hsF, HTF, HLF, _⟩ := rec_out zeroR _ rfl bR9
    have HB : Hid (Below w.heap.size w WF) := (B9).trans (hwF.below (Nat.le_refl _) (B9).size)
    clear hwF hsF
    clear hw9 b9 bC8 bR8
    go_wp2_with (first | (guard_target = wpList _ _ _ (Oper.mk none (Op.store _ (Operand.tmp 2) _) _ _ _ _ :: _) _ _; refine wpList_store_mid rfl 30 (.tmp 2) (.tmp 54) rfl w.heap.size 0 zeroR.cells.toArray rfl rfl (by rw [hW9.out]; exact HTF.out) (by rw [List.size_toArray]; exact rec_info _) (rec_one _) ?_) | fail)
    rw [hW9.out, hWF.out]
    exact bodyPost_ret (v := .tuple #[.agg zeroR.cells.toArray, .bool false]) (results_cell_flag Tryz.results27 rfl HLF.out rfl) rfl ⟨recAns_none HX.out zeroR, HB.out⟩
  | some g =>
  obtain ⟨ls, z⟩ := g
  rw [h3] at hans
  obtain ⟨aL, cL, rfl, oL⟩ := hans
  obtain ⟨W9, hW9, b9, hw9, hs9⟩ := box_set bC8 14 (.slice aL ls.length cL)
  simp only [List.set] at b9
  have B9 : Below w.heap.size w W9 := B8.trans (hw9.below (by omega) (by omega))
  have bR9 := bR8.within hw9 (by omega)
  have b9' : Box W9 (w.heap.size + 1) (RecA.cells ⟨n, t, v, k, o, t1, t2, x, ls, aL, cL⟩) 30 := b9
  have o19 : t1.own W9 w3.heap.size w4.heap.size := OwnO.within o18 hw9 (by omega)
  have o29 : t2.own W9 W5.heap.size w6.heap.size := OwnO.within o28 hw9 (by omega)
  have oL9 : OwnL W9 W7.heap.size w8.heap.size aL cL ls := oL.within hw9 (by omega)
  have hap : Hid ((t1.blocks ++ (t2.blocks ++ (Value.slice aL ls.length cL).ownBlock.toList)).Nodup) := rec_apart (b := W5.heap.size) (c := W7.heap.size) (OwnO.widen o19 (Nat.le_refl _) (by omega) (by omega)) (OwnO.widen o29 (Nat.le_refl _) (by omega) (by omega)) oL9 (by omega)
  have hown : RecA.own W9 w3.heap.size W9.heap.size ⟨n, t, v, k, o, t1, t2, x, ls, aL, cL⟩ := ⟨OwnO.widen o19 (by omega) (by omega) (Nat.le_refl _), OwnO.widen o29 (by omega) (by omega) (Nat.le_refl _), oL9.widen (by omega) (by omega) (Nat.le_refl _), hap.out⟩
  have hvv : Hid (RecA.v ⟨n, t, v, k, o, t1, t2, x, ls, aL, cL⟩ = ⟨n, t, v, k, o, sv1, sv2, x, ls⟩) := by simp only [Hid, RecA.v, HV1.out, HV2.out]
  have HQ : Hid (z = zs.length → XX = some ⟨n, t, v, k, o, sv1, sv2, x, ls⟩) := fun hz => H5.out _ _ _ _ _ _ _ _ _ _ _ _ hn h1 h2 (by rw [← hz]; exact h3)
  have HQ2 : Hid (¬ z = zs.length → XX = none) := fun hz => H4.out _ _ _ _ _ _ _ _ _ _ _ _ _ hn h1 h2 h3 hz
  clear hn h1 h2 h3 H3 H4 H5 o18 o28 oL bC8 bR8 hap o19 o29 oL9 HV1 HV2
  obtain ⟨WF, hWF, hwF, hsF, HTF, HLF, _⟩ := rec_out ⟨n, t, v, k, o, t1, t2, x, ls, aL, cL⟩ _ rfl bR9
  have oF : RecA.own WF w.heap.size WF.heap.size ⟨n, t, v, k, o, t1, t2, x, ls, aL, cL⟩ := (hown.within hwF (.inr (by omega))).widen (by omega) (by omega) (Nat.le_refl _)
  have HB : Hid (Below w.heap.size w WF) := B9.trans (hwF.below (Nat.le_refl _) B9.size)
  have r9 : W9.rangeAt (w.heap.size + 1) 0 (RecA.cells ⟨n, t, v, k, o, t1, t2, x, ls, aL, cL⟩) := Box.range [] _ [] (by simpa using b9')
  clear hwF hsF b9 b9' hw9 hown
  generalize hTT : ((⟨n, t, v, k, o, t1, t2, x, ls, aL, cL⟩) : RecA) = TT at *
  clear hTT
  by_cases hz : z = zs.length
  · have hzb : ((z : Int) == (zs.length : Int)) = true := by simp; omega
    have HX : Hid (XX = some _) := HQ.out hz
    clear HQ HQ2 hz
    go_wp2_with (first | (guard_target = wpList _ _ _ (Oper.mk (some 55) _ _ _ _ _ :: _) _ _; refine wpList_load_mid rfl 30 (.tmp 4) rfl (w.heap.size + 1) 0 rfl TT.cells _ (by rw [hW9.out]; exact r9) Tryz.underlying30 rfl (rec_info _) ?_) | (guard_target = wpList _ _ _ (Oper.mk none (Op.store _ (Operand.tmp 2) _) _ _ _ _ :: _) _ _; refine wpList_store_mid rfl 30 (.tmp 2) (.tmp 55) rfl w.heap.size 0 TT.cells.toArray rfl rfl (by rw [hW9.out]; exact HTF.out) (by rw [List.size_toArray]; exact rec_info _) (rec_one _) ?_) | fail)
    rw [hW9.out, hWF.out]
    exact bodyPost_ret (v := .tuple #[.agg TT.cells.toArray, .bool true]) (results_cell_flag Tryz.results27 rfl HLF.out rfl) rfl ⟨recAns_some HX.out TT hvv.out oF, HB.out⟩
  · have hzb : ((z : Int) == (zs.length : Int)) = false := by simp; omega
    have HX : Hid (XX = none) := HQ2.out hz
    clear HQ HQ2 hz
    go_wp2_with (first | (guard_target = wpList _ _ _ (Oper.mk (some 55) _ _ _ _ _ :: _) _ _; refine wpList_load_mid rfl 30 (.tmp 4) rfl (w.heap.size + 1) 0 rfl TT.cells _ (by rw [hW9.out]; exact r9) Tryz.underlying30 rfl (rec_info _) ?_) | (guard_target = wpList _ _ _ (Oper.mk none (Op.store _ (Operand.tmp 2) _) _ _ _ _ :: _) _ _; refine wpList_store_mid rfl 30 (.tmp 2) (.tmp 55) rfl w.heap.size 0 TT.cells.toArray rfl rfl (by rw [hW9.out]; exact HTF.out) (by rw [List.size_toArray]; exact rec_info _) (rec_one _) ?_) | fail)
    rw [hW9.out, hWF.out]
    exact bodyPost_ret (v := .tuple #[.agg TT.cells.toArray, .bool false]) (results_cell_flag Tryz.results27 rfl HLF.out rfl) rfl ⟨recAns_none HX.out TT, HB.out⟩

/-- What GetRec answers, by the model and by the landed code. -/
def GotR (w w' : World) (zs : List Int) (e : Ending) : Prop := ∃ t : RecA, e = .returned (.tuple #[.agg t.cells.toArray, .bool (pairR zs).2]) ∧ Hid (t.v = (pairR zs).1) ∧ t.own w' w.heap.size w'.heap.size ∧ Below w.heap.size w w'
theorem gotR_no {w w' : World} {zs : List Int} (h : pairR zs = (noR, false)) (hb : Below w.heap.size w w') : GotR w w' zs (.returned (.tuple #[.agg zeroR.cells.toArray, .bool false])) :=
  ⟨zeroR, by rw [h], by rw [h]; rfl, own_zeroR _ _ _ (Nat.le_refl _), hb⟩
theorem gotR_yes {w w' : World} {zs : List Int} {t : RecA} {r : RecV} (h : pairR zs = (r, true)) (hv : t.v = r) (ho : t.own w' w.heap.size w'.heap.size) (hb : Below w.heap.size w w') : GotR w w' zs (.returned (.tuple #[.agg t.cells.toArray, .bool true])) :=
  ⟨t, by rw [h], by rw [Hid, h]; exact hv, ho, hb⟩
theorem readR_short {zs : List Int} (hb : Bytes zs) {r : RecV} (h : readR zs = some r) {t : RecA} (hv : t.v = r) : t.short 1099511627776 := by
  obtain ⟨h1, h2, h3⟩ := readR_slots zs hb r h
  have small : ∀ s : SlotV, slotB s = true → s.o.ints.length ≤ 5 ∧ s.o.refs.length ≤ 5 := fun s hs => by
    cases hh : s.has with
    | true => rw [slotB_has hh] at hs; have := okB_bd hs; exact ⟨this.2.1, this.2.2.1⟩
    | false => rw [slotB_not hh hs]; exact ⟨Nat.zero_le _, Nat.zero_le _⟩
  subst hv
  have a1 := small _ h1
  have a2 := small _ h2
  simp only [RecA.v] at a1 a2 h3
  exact ⟨by omega, by omega, by omega⟩

set_option maxHeartbeats 4000000 in
set_option maxRecDepth 100000 in
theorem implGetRec_any (a : Option Addr) (c : Nat) (zs : List Int) (w : World) (hg : ErrT w) (hr : Reads w a zs) (hl : zs.length ≤ 1099511627776) (hcap : zs.length ≤ c) :
    Calls Tryz.prog 7 #[.slice a zs.length c] w fun e w' => GotR w w' zs e := by
  obtain ⟨W, hW, bR, hbW, hsW⟩ := boxes1 w [.int .i64 0, .int .i64 0, .int .i64 0, .int .i64 0, .int .i64 0, .bool false, .int .i64 0, .slice none 0 0, .slice none 0 0, .bool false, .int .i64 0, .slice none 0 0, .slice none 0 0, .int .i64 0, .slice none 0 0] 30
  have H0 : Hid (readR zs = none → pairR zs = (noR, false)) := fun h => pairR_none h
  have H1 : Hid (∀ r, readR zs = some r → okR r = false → pairR zs = (noR, false)) := fun r h h1 => pairR_wrong h h1
  have H2 : Hid (∀ r, readR zs = some r → okR r = true → pairR zs = (r, true)) := fun r h h1 => pairR_some hr.1 h h1
  have HSH : Hid (∀ (t : RecA) r, readR zs = some r → t.v = r → t.short 1099511627776) := fun t r h hv => readR_short hr.1 h hv
  have C := readRec_any a c zs W (hg.keep hbW) (hr.below hbW) hl hcap
  have hltR := bR.lt
  clear hsW
  go_enter Tryz.func7, Tryz.ntmps7
  go_wp2_with fail
  rw [hW.out]
  clear hW
  refine C.mono ?_
  clear C
  rintro e w1 ⟨hans, hb1⟩
  have B1 : Below w.heap.size w w1 := hbW.trans (hb1.mono hbW.size)
  have bR1 := bR.below hb1 bR.lt
  have s1 := hb1.size
  clear bR
  cases hrd : readR zs with
  | none =>
    have HP : Hid (pairR zs = (noR, false)) := H0.out hrd
    rw [hrd] at hans
    obtain ⟨t, rfl⟩ := hans
    clear H0 H1 H2 HSH hrd
    obtain ⟨Z, hZ, bZ, hbZ, _⟩ := boxes1 w1 [.int .i64 0, .int .i64 0, .int .i64 0, .int .i64 0, .int .i64 0, .bool false, .int .i64 0, .slice none 0 0, .slice none 0 0, .bool false, .int .i64 0, .slice none 0 0, .slice none 0 0, .int .i64 0, .slice none 0 0] 30
    obtain ⟨w2, hS2, hw2, hz2, HT2, _, bt⟩ := rec_out t [.int .i64 0, .int .i64 0, .int .i64 0, .int .i64 0, .int .i64 0, .bool false, .int .i64 0, .slice none 0 0, .slice none 0 0, .bool false, .int .i64 0, .slice none 0 0, .slice none 0 0, .int .i64 0, .slice none 0 0] rfl bZ
    have hb2 : Below w1.heap.size w1 w2 := hbZ.trans (hw2.below (Nat.le_refl _) (by have := hbZ.size; omega))
    have B2 : Below w.heap.size w w2 := B1.trans (hb2.mono B1.size)
    obtain ⟨WF, hWF, hwF, hsF, HTF, HLF, _⟩ := rec_out zeroR _ rfl (bR1.below hb2 bR1.lt)
    have HE : Hid (GotR w WF zs _) := gotR_no HP.out (B2.trans (hwF.below (Nat.le_refl _) B2.size))
    clear bZ hbZ hw2 hz2 hwF hsF bt bR1
    go_wp2_with (first | (guard_target = wpList _ _ _ (Oper.mk none (Op.store _ (Operand.tmp 4) _) _ _ _ _ :: _) _ _; refine wpList_store_mid rfl 30 (.tmp 4) (.tmp 9) rfl w1.heap.size 0 t.cells.toArray rfl rfl (by rw [hZ.out]; exact HT2.out) (by rw [List.size_toArray]; exact rec_info _) (rec_one _) ?_) | (guard_target = wpList _ _ _ (Oper.mk none (Op.store _ (Operand.tmp 2) _) _ _ _ _ :: _) _ _; refine wpList_store_mid rfl 30 (.tmp 2) (.tmp 18) rfl w.heap.size 0 zeroR.cells.toArray rfl rfl (by rw [hZ.out, hS2.out]; exact HTF.out) (by rw [List.size_toArray]; exact rec_info _) (rec_one _) ?_) | fail)
    rw [hZ.out, hS2.out, hWF.out]
    exact bodyPost_ret (v := .tuple #[.agg zeroR.cells.toArray, .bool false]) (results_cell_flag Tryz.results7 rfl HLF.out rfl) rfl HE.out
  | some r =>
    rw [hrd] at hans
    obtain ⟨t, rfl, hv, ho⟩ := hans
    have HV : Hid (t.v = r) := hv
    have hts := HSH.out t r hrd hv
    clear hv H0 HSH
    obtain ⟨Z, hZ, bZ, hbZ, _⟩ := boxes1 w1 [.int .i64 0, .int .i64 0, .int .i64 0, .int .i64 0, .int .i64 0, .bool false, .int .i64 0, .slice none 0 0, .slice none 0 0, .bool false, .int .i64 0, .slice none 0 0, .slice none 0 0, .int .i64 0, .slice none 0 0] 30
    obtain ⟨w2, hS2, hw2, hz2, HT2, _, bt⟩ := rec_out t [.int .i64 0, .int .i64 0, .int .i64 0, .int .i64 0, .int .i64 0, .bool false, .int .i64 0, .slice none 0 0, .slice none 0 0, .bool false, .int .i64 0, .slice none 0 0, .slice none 0 0, .int .i64 0, .slice none 0 0] rfl bZ
    have hb2 : Below w1.heap.size w1 w2 := hbZ.trans (hw2.below (Nat.le_refl _) (by have := hbZ.size; omega))
    have B2 : Below w.heap.size w w2 := B1.trans (hb2.mono B1.size)
    have ot2 := ho.below hb2
    have bR2 := bR1.below hb2 bR1.lt
    have s2 := hb2.size
    have C2 := implRecOk_any t w2 (hg.keep B2) ot2.reads hts
    rw [HV.out] at C2
    have rt : w2.rangeAt w1.heap.size 0 t.cells := Box.range [] _ [] (by simpa using bt)
    clear bZ hbZ hw2 hz2 bR1 ho
    go_wp2_with (first | (guard_target = wpList _ _ _ (Oper.mk none (Op.store _ (Operand.tmp 4) _) _ _ _ _ :: _) _ _; refine wpList_store_mid rfl 30 (.tmp 4) (.tmp 9) rfl w1.heap.size 0 t.cells.toArray rfl rfl (by rw [hZ.out]; exact HT2.out) (by rw [List.size_toArray]; exact rec_info _) (rec_one _) ?_) | (guard_target = wpList _ _ _ (Oper.mk (some 14) _ _ _ _ _ :: _) _ _; refine wpList_load_mid_if (by rfl) 30 (.tmp 4) rfl w1.heap.size 0 rfl t.cells _ (by rw [hZ.out, hS2.out]; exact rt) Tryz.underlying30 rfl (rec_info _) ?_) | fail)
    rw [hZ.out, hS2.out]
    clear hZ hS2 HT2 rt
    refine C2.mono ?_
    clear C2
    rintro e w3 ⟨rfl, hb3⟩
    have B3 : Below w.heap.size w w3 := B2.trans (hb3.mono B2.size)
    have bR3 := bR2.below hb3 bR2.lt
    have bt3 := bt.below hb3 bt.lt
    have ot3 := ot2.below hb3
    have s3 := hb3.size
    clear bR2 bt ot2
    cases hok : okR r with
    | false =>
      have HP : Hid (pairR zs = (noR, false)) := H1.out r hrd hok
      clear H1 H2 hrd hok
      obtain ⟨WF, hWF, hwF, hsF, HTF, HLF, _⟩ := rec_out zeroR _ rfl bR3
      have HE : Hid (GotR w WF zs _) := gotR_no HP.out (B3.trans (hwF.below (Nat.le_refl _) B3.size))
      clear hwF hsF
      go_wp2_with (first | (guard_target = wpList _ _ _ (Oper.mk none (Op.store _ (Operand.tmp 2) _) _ _ _ _ :: _) _ _; refine wpList_store_mid rfl 30 (.tmp 2) (.tmp 18) rfl w.heap.size 0 zeroR.cells.toArray rfl rfl HTF.out (by rw [List.size_toArray]; exact rec_info _) (rec_one _) ?_) | fail)
      rw [hWF.out]
      exact bodyPost_ret (v := .tuple #[.agg zeroR.cells.toArray, .bool false]) (results_cell_flag Tryz.results7 rfl HLF.out rfl) rfl HE.out
    | true =>
      have HP : Hid (pairR zs = (r, true)) := H2.out r hrd hok
      clear H1 H2 hrd hok
      obtain ⟨WF, hWF, hwF, hsF, HTF, HLF, _⟩ := rec_out t _ rfl bR3
      have HE : Hid (GotR w WF zs _) := gotR_yes HP.out HV.out ((ot3.within hwF (.inr (by omega))).widen (by omega) (by omega) (Nat.le_refl _)) (B3.trans (hwF.below (Nat.le_refl _) B3.size))
      have rt : w3.rangeAt w1.heap.size 0 t.cells := Box.range [] _ [] (by simpa using bt3)
      clear hwF hsF
      go_wp2_with (first | (guard_target = wpList _ _ _ (Oper.mk (some 19) _ _ _ _ _ :: _) _ _; refine wpList_load_mid rfl 30 (.tmp 4) rfl w1.heap.size 0 rfl t.cells _ rt Tryz.underlying30 rfl (rec_info _) ?_) | (guard_target = wpList _ _ _ (Oper.mk none (Op.store _ (Operand.tmp 2) _) _ _ _ _ :: _) _ _; refine wpList_store_mid rfl 30 (.tmp 2) (.tmp 19) rfl w.heap.size 0 t.cells.toArray rfl rfl HTF.out (by rw [List.size_toArray]; exact rec_info _) (rec_one _) ?_) | fail)
      rw [hWF.out]
      exact bodyPost_ret (v := .tuple #[.agg t.cells.toArray, .bool true]) (results_cell_flag Tryz.results7 rfl HLF.out rfl) rfl HE.out
end Go.Proofs.YtjaojcgfgkppgaaGreatDoor

/- The walk of spec.GetRec. -/
namespace Go.Proofs.YtjaojcgfgkppgaaGreatDoor
open Go.RowKit

theorem livesOf_stop (zs : List Int) (m : Nat) (l : List LiveV) (s : Int × Bool) (h : s.2 = true) : livesOf zs m l s = (l, s) := by
  cases m with
  | zero => rfl
  | succ m => rw [livesOf, if_pos h]
theorem livesOf_step (zs : List Int) (m : Nat) (l : List LiveV) (s : Int × Bool) (h : s.2 = false) : livesOf zs (m + 1) l s = livesOf zs m (l ++ [(liveNext zs s).1]) (liveNext zs s).2 := by rw [livesOf, if_neg (by rw [h]; decide)]
set_option maxHeartbeats 8000000 in
set_option maxRecDepth 100000 in
theorem specGetRec_any (a : Option Addr) (c : Nat) (zs : List Int) (w : World) (hr : Reads w a zs) (hl : zs.length ≤ 1099511627776) (hcap : zs.length ≤ c) :
    Calls Tryz.prog 5 #[.slice a zs.length c] w fun e w' => GotR w w' zs e := by
  have HBR : Hid (zs ≠ [] → ∀ b off, a = some ⟨b, off, none⟩ → b ≠ (w.heap.size + 1)) := by
    intro hne b off ha
    obtain ⟨b', off', ha', hc⟩ := hr.2 hne
    rw [ha] at ha'
    cases ha'
    have := block_lt (hc 0 (List.length_pos_iff.2 hne))
    omega
  have HE1 : Hid ((sL zs).2.2 = true → pairR zs = (noR, false)) := fun h => pairR_bad h
  have HE2 : Hid (okR (recR zs) = false → pairR zs = (noR, false)) := fun h => pairR_no h
  have HE3 : Hid (putRecOf (recR zs) ≠ zs → pairR zs = (noR, false)) := fun h => pairR_ne h
  have HE4 : Hid ((sL zs).2.2 = false → okR (recR zs) = true → putRecOf (recR zs) = zs → pairR zs = (recR zs, true)) := fun h h1 h2 => pairR_yes h h1 h2
  have HPL : Hid ((putRecOf (recR zs)).length ≤ 100000) := putRec_len _
  obtain ⟨W, hW, bR, rd, bX, hbW, hsW⟩ := boxes3 w [.int .i64 0, .int .i64 0, .int .i64 0, .int .i64 0, .int .i64 0, .bool false, .int .i64 0, .slice none 0 0, .slice none 0 0, .bool false, .int .i64 0, .slice none 0 0, .slice none 0 0, .int .i64 0, .slice none 0 0] [.slice a zs.length c, .int .i64 0, .bool false] [.int .i64 0, .int .i64 0, .int .i64 0, .int .i64 0, .int .i64 0, .bool false, .int .i64 0, .slice none 0 0, .slice none 0 0, .bool false, .int .i64 0, .slice none 0 0, .slice none 0 0, .int .i64 0, .slice none 0 0] 30 62 30
  replace rd : RdAt W (w.heap.size + 1) a c zs (stR zs 0) := rd
  have BW : Below w.heap.size w W := hbW
  have hW3 : w.heap.size + 1 + 1 < W.heap.size := by omega
  clear hsW hbW
  go_enter Tryz.func5, Tryz.ntmps5
  go_wp2_with fail
  rw [hW.out]
  clear hW
  refine (show Calls Tryz.prog 22 #[.pointer (some ⟨(w.heap.size + 1), 0, none⟩)] W (fun e w' => (e = .returned (.int .i64 (valR zs 0)) ∧ RdAt w' (w.heap.size + 1) a c zs (stR zs 1)) ∧ Within (w.heap.size + 1) ((w.heap.size + 1) + 1) W w') from l2Next_any (w.heap.size + 1) a c zs (stR zs 0) W rd (hr.below BW) (by omega)).mono ?_
  clear rd
  rintro e p0 ⟨⟨rfl, rd⟩, hwp0⟩
  have sp0 := hwp0.size
  replace bR := bR.within hwp0 (by omega)
  replace bX := bX.within hwp0 (by omega)
  replace BW := BW.trans (hwp0.below (by omega) BW.size)
  have x0 := bX.cell 0 _ rfl
  have f0 := bX.frozen 0
  obtain ⟨q0, hq0, bX', hwq0, hsq0⟩ := box_set bX 0 (.int .i64 (valR zs 0))
  have e1q0 := Nat.le_of_eq hsq0
  have e2q0 := Nat.le_of_eq hsq0.symm
  clear hsq0
  simp only [List.set] at bX'
  replace rd := Box.within rd hwq0 (by omega)
  replace rd : RdAt q0 (w.heap.size + 1) a c zs (stR zs 1) := rd
  replace bR := bR.within hwq0 (by omega)
  replace BW := BW.trans (hwq0.below (by omega) BW.size)
  clear bX hwp0 hwq0
  have bX := bX'
  clear bX'
  go_wp2_with fail
  rw [hq0.out]
  clear hq0 x0 f0
  refine (show Calls Tryz.prog 22 #[.pointer (some ⟨(w.heap.size + 1), 0, none⟩)] q0 (fun e w' => (e = .returned (.int .i64 (valR zs 1)) ∧ RdAt w' (w.heap.size + 1) a c zs (stR zs 2)) ∧ Within (w.heap.size + 1) ((w.heap.size + 1) + 1) q0 w') from l2Next_any (w.heap.size + 1) a c zs (stR zs 1) q0 rd (hr.below BW) (by omega)).mono ?_
  clear rd
  rintro e p1 ⟨⟨rfl, rd⟩, hwp1⟩
  have sp1 := hwp1.size
  replace bR := bR.within hwp1 (by omega)
  replace bX := bX.within hwp1 (by omega)
  replace BW := BW.trans (hwp1.below (by omega) BW.size)
  have x1 := bX.cell 1 _ rfl
  have f1 := bX.frozen 1
  obtain ⟨q1, hq1, bX', hwq1, hsq1⟩ := box_set bX 1 (.int .i64 (valR zs 1))
  have e1q1 := Nat.le_of_eq hsq1
  have e2q1 := Nat.le_of_eq hsq1.symm
  clear hsq1
  simp only [List.set] at bX'
  replace rd := Box.within rd hwq1 (by omega)
  replace rd : RdAt q1 (w.heap.size + 1) a c zs (stR zs 2) := rd
  replace bR := bR.within hwq1 (by omega)
  replace BW := BW.trans (hwq1.below (by omega) BW.size)
  clear bX hwp1 hwq1
  have bX := bX'
  clear bX'
  go_wp2_with fail
  rw [hq1.out]
  clear hq1 x1 f1
  refine (show Calls Tryz.prog 22 #[.pointer (some ⟨(w.heap.size + 1), 0, none⟩)] q1 (fun e w' => (e = .returned (.int .i64 (valR zs 2)) ∧ RdAt w' (w.heap.size + 1) a c zs (stR zs 3)) ∧ Within (w.heap.size + 1) ((w.heap.size + 1) + 1) q1 w') from l2Next_any (w.heap.size + 1) a c zs (stR zs 2) q1 rd (hr.below BW) (by omega)).mono ?_
  clear rd
  rintro e p2 ⟨⟨rfl, rd⟩, hwp2⟩
  have sp2 := hwp2.size
  replace bR := bR.within hwp2 (by omega)
  replace bX := bX.within hwp2 (by omega)
  replace BW := BW.trans (hwp2.below (by omega) BW.size)
  have x2 := bX.cell 2 _ rfl
  have f2 := bX.frozen 2
  obtain ⟨q2, hq2, bX', hwq2, hsq2⟩ := box_set bX 2 (.int .i64 (valR zs 2))
  have e1q2 := Nat.le_of_eq hsq2
  have e2q2 := Nat.le_of_eq hsq2.symm
  clear hsq2
  simp only [List.set] at bX'
  replace rd := Box.within rd hwq2 (by omega)
  replace rd : RdAt q2 (w.heap.size + 1) a c zs (stR zs 3) := rd
  replace bR := bR.within hwq2 (by omega)
  replace BW := BW.trans (hwq2.below (by omega) BW.size)
  clear bX hwp2 hwq2
  have bX := bX'
  clear bX'
  go_wp2_with fail
  rw [hq2.out]
  clear hq2 x2 f2
  refine (show Calls Tryz.prog 22 #[.pointer (some ⟨(w.heap.size + 1), 0, none⟩)] q2 (fun e w' => (e = .returned (.int .i64 (valR zs 3)) ∧ RdAt w' (w.heap.size + 1) a c zs (stR zs 4)) ∧ Within (w.heap.size + 1) ((w.heap.size + 1) + 1) q2 w') from l2Next_any (w.heap.size + 1) a c zs (stR zs 3) q2 rd (hr.below BW) (by omega)).mono ?_
  clear rd
  rintro e p3 ⟨⟨rfl, rd⟩, hwp3⟩
  have sp3 := hwp3.size
  replace bR := bR.within hwp3 (by omega)
  replace bX := bX.within hwp3 (by omega)
  replace BW := BW.trans (hwp3.below (by omega) BW.size)
  have x3 := bX.cell 3 _ rfl
  have f3 := bX.frozen 3
  obtain ⟨q3, hq3, bX', hwq3, hsq3⟩ := box_set bX 3 (.int .i64 (valR zs 3))
  have e1q3 := Nat.le_of_eq hsq3
  have e2q3 := Nat.le_of_eq hsq3.symm
  clear hsq3
  simp only [List.set] at bX'
  replace rd := Box.within rd hwq3 (by omega)
  replace rd : RdAt q3 (w.heap.size + 1) a c zs (stR zs 4) := rd
  replace bR := bR.within hwq3 (by omega)
  replace BW := BW.trans (hwq3.below (by omega) BW.size)
  clear bX hwp3 hwq3
  have bX := bX'
  clear bX'
  go_wp2_with fail
  rw [hq3.out]
  clear hq3 x3 f3
  refine (show Calls Tryz.prog 22 #[.pointer (some ⟨(w.heap.size + 1), 0, none⟩)] q3 (fun e w' => (e = .returned (.int .i64 (valR zs 4)) ∧ RdAt w' (w.heap.size + 1) a c zs (stR zs 5)) ∧ Within (w.heap.size + 1) ((w.heap.size + 1) + 1) q3 w') from l2Next_any (w.heap.size + 1) a c zs (stR zs 4) q3 rd (hr.below BW) (by omega)).mono ?_
  clear rd
  rintro e p4 ⟨⟨rfl, rd⟩, hwp4⟩
  have sp4 := hwp4.size
  replace bR := bR.within hwp4 (by omega)
  replace bX := bX.within hwp4 (by omega)
  replace BW := BW.trans (hwp4.below (by omega) BW.size)
  have x4 := bX.cell 4 _ rfl
  have f4 := bX.frozen 4
  obtain ⟨q4, hq4, bX', hwq4, hsq4⟩ := box_set bX 4 (.int .i64 (valR zs 4))
  have e1q4 := Nat.le_of_eq hsq4
  have e2q4 := Nat.le_of_eq hsq4.symm
  clear hsq4
  simp only [List.set] at bX'
  replace rd := Box.within rd hwq4 (by omega)
  replace rd : RdAt q4 (w.heap.size + 1) a c zs (stR zs 5) := rd
  replace bR := bR.within hwq4 (by omega)
  replace BW := BW.trans (hwq4.below (by omega) BW.size)
  clear bX hwp4 hwq4
  have bX := bX'
  clear bX'
  go_wp2_with fail
  rw [hq4.out]
  clear hq4 x4 f4
  refine (show Calls Tryz.prog 22 #[.pointer (some ⟨(w.heap.size + 1), 0, none⟩)] q4 (fun e w' => (e = .returned (.int .i64 (valR zs 5)) ∧ RdAt w' (w.heap.size + 1) a c zs (stR zs 6)) ∧ Within (w.heap.size + 1) ((w.heap.size + 1) + 1) q4 w') from l2Next_any (w.heap.size + 1) a c zs (stR zs 5) q4 rd (hr.below BW) (by omega)).mono ?_
  clear rd
  rintro e p5 ⟨⟨rfl, rd⟩, hwp5⟩
  have sp5 := hwp5.size
  replace bR := bR.within hwp5 (by omega)
  replace bX := bX.within hwp5 (by omega)
  replace BW := BW.trans (hwp5.below (by omega) BW.size)
  have x13 := bX.cell 13 _ rfl
  have f13 := bX.frozen 13
  obtain ⟨q5, hq5, bX', hwq5, hsq5⟩ := box_set bX 13 (.int .i64 (valR zs 5))
  have e1q5 := Nat.le_of_eq hsq5
  have e2q5 := Nat.le_of_eq hsq5.symm
  clear hsq5
  simp only [List.set] at bX'
  replace rd := Box.within rd hwq5 (by omega)
  replace rd : RdAt q5 (w.heap.size + 1) a c zs (stR zs 6) := rd
  replace bR := bR.within hwq5 (by omega)
  replace BW := BW.trans (hwq5.below (by omega) BW.size)
  clear bX hwp5 hwq5
  have bX := bX'
  clear bX'
  go_wp2_with fail
  rw [hq5.out]
  clear hq5 x13 f13
  refine (show Calls Tryz.prog 23 #[.pointer (some ⟨(w.heap.size + 1), 0, none⟩)] q5 (fun e w' => ∃ t : SlotA, e = .returned (.agg t.cells.toArray) ∧ Hid (t.v = (sB zs).1) ∧ t.own w' q5.heap.size w'.heap.size ∧ RdAt w' (w.heap.size + 1) a c zs (sB zs).2 ∧ Within (w.heap.size + 1) ((w.heap.size + 1) + 1) q5 w') from l3NextSlot_any (w.heap.size + 1) a c zs (stR zs 6) q5 rd (hr.below BW) hl hcap HBR.out).mono ?_
  clear rd
  rintro e sp1 ⟨t1, rfl, hvt1, ot1, rd, hwsp1⟩
  have ssp1 := hwsp1.size
  replace bR := bR.within hwsp1 (by omega)
  replace bX := bX.within hwsp1 (by omega)
  replace BW := BW.trans (hwsp1.below (by omega) BW.size)
  have x5 := bX.cell 5 _ rfl
  have f5 := bX.frozen 5
  have x6 := bX.cell 6 _ rfl
  have f6 := bX.frozen 6
  have x7 := bX.cell 7 _ rfl
  have f7 := bX.frozen 7
  have x8 := bX.cell 8 _ rfl
  have f8 := bX.frozen 8
  obtain ⟨sq1, hsq1, bX', hwsq1, hssq1⟩ := box_quad bX 5 6 7 8 (.bool t1.v.has) (.int .i64 t1.v.o.kind) (.slice t1.aI t1.v.o.ints.length t1.cI) (.slice t1.aR t1.v.o.refs.length t1.cR)
  have e1sq1 := Nat.le_of_eq hssq1
  have e2sq1 := Nat.le_of_eq hssq1.symm
  clear hssq1
  simp only [List.set] at bX'
  replace rd := Box.within rd hwsq1 (by omega)
  replace rd : RdAt sq1 (w.heap.size + 1) a c zs (sB zs).2 := rd
  replace bR := bR.within hwsq1 (by omega)
  replace ot1 : t1.own sq1 q5.heap.size sp1.heap.size := OwnO.within ot1 hwsq1 (by omega)
  have h_dummy := True.intro
  replace BW := BW.trans (hwsq1.below (by omega) BW.size)
  clear bX hwsp1 hwsq1
  have bX := bX'
  clear bX'
  simp only [SlotA.cells]
  go_wp2_with fail
  rw [hsq1.out]
  clear hsq1 x5 f5 x6 f6 x7 f7 x8 f8
  refine (show Calls Tryz.prog 23 #[.pointer (some ⟨(w.heap.size + 1), 0, none⟩)] sq1 (fun e w' => ∃ t : SlotA, e = .returned (.agg t.cells.toArray) ∧ Hid (t.v = (sA zs).1) ∧ t.own w' sq1.heap.size w'.heap.size ∧ RdAt w' (w.heap.size + 1) a c zs (sA zs).2 ∧ Within (w.heap.size + 1) ((w.heap.size + 1) + 1) sq1 w') from l3NextSlot_any (w.heap.size + 1) a c zs (sB zs).2 sq1 rd (hr.below BW) hl hcap HBR.out).mono ?_
  clear rd
  rintro e sp2 ⟨t2, rfl, hvt2, ot2, rd, hwsp2⟩
  have ssp2 := hwsp2.size
  replace bR := bR.within hwsp2 (by omega)
  replace bX := bX.within hwsp2 (by omega)
  replace BW := BW.trans (hwsp2.below (by omega) BW.size)
  replace ot1 := OwnO.within ot1 hwsp2 (by omega)
  have x9 := bX.cell 9 _ rfl
  have f9 := bX.frozen 9
  have x10 := bX.cell 10 _ rfl
  have f10 := bX.frozen 10
  have x11 := bX.cell 11 _ rfl
  have f11 := bX.frozen 11
  have x12 := bX.cell 12 _ rfl
  have f12 := bX.frozen 12
  obtain ⟨sq2, hsq2, bX', hwsq2, hssq2⟩ := box_quad bX 9 10 11 12 (.bool t2.v.has) (.int .i64 t2.v.o.kind) (.slice t2.aI t2.v.o.ints.length t2.cI) (.slice t2.aR t2.v.o.refs.length t2.cR)
  have e1sq2 := Nat.le_of_eq hssq2
  have e2sq2 := Nat.le_of_eq hssq2.symm
  clear hssq2
  simp only [List.set] at bX'
  replace rd := Box.within rd hwsq2 (by omega)
  replace rd : RdAt sq2 (w.heap.size + 1) a c zs (sA zs).2 := rd
  replace bR := bR.within hwsq2 (by omega)
  replace ot2 : t2.own sq2 sq1.heap.size sp2.heap.size := OwnO.within ot2 hwsq2 (by omega)
  replace ot1 := OwnO.within ot1 hwsq2 (by omega)
  replace BW := BW.trans (hwsq2.below (by omega) BW.size)
  clear bX hwsp2 hwsq2
  have bX := bX'
  clear bX'
  simp only [SlotA.cells]
  go_wp2_with fail
  rw [hsq2.out]
  clear hsq2 x9 f9 x10 f10 x11 f11 x12 f12
  refine (show Calls Tryz.prog 22 #[.pointer (some ⟨(w.heap.size + 1), 0, none⟩)] sq2 (fun e w' => (e = .returned (.int .i64 (sN zs).1) ∧ RdAt w' (w.heap.size + 1) a c zs (sN zs).2) ∧ Within (w.heap.size + 1) ((w.heap.size + 1) + 1) sq2 w') from l2Next_any (w.heap.size + 1) a c zs (sA zs).2 sq2 rd (hr.below BW) (by omega)).mono ?_
  clear rd
  rintro e W0 ⟨⟨rfl, rd⟩, hw0⟩
  have s0 := hw0.size
  replace bR := bR.within hw0 (by omega)
  replace bX := bX.within hw0 (by omega)
  replace BW := BW.trans (hw0.below (by omega) BW.size)
  replace ot1 := OwnO.within ot1 hw0 (by omega)
  replace ot2 := OwnO.within ot2 hw0 (by omega)
  have HSL : Hid (sL zs = livesOf zs (min (sN zs).1.toNat 30) [] (sN zs).2) := rfl
  clear hw0
  generalize hn : (sN zs).1 = n at *
  generalize (sN zs).2 = st0 at *
  clear hn
  go_wp2_with fail
  go_loopw [7] (fun i wr => ∃ (k : Nat) (ls : List LiveV) (aL : Option Addr) (cL : Nat) (st : Int × Bool), i = .int .i64 k ∧ k ≤ min n.toNat 30 ∧ Hid (ls.length = k ∧ sL zs = livesOf zs (min n.toNat 30 - k) ls st) ∧ OwnL wr W0.heap.size wr.heap.size aL cL ls ∧ t1.own wr q5.heap.size sp1.heap.size ∧ t2.own wr sq1.heap.size sp2.heap.size ∧ Box wr (w.heap.size + 1 + 1) [.int .i64 (valR zs 0), .int .i64 (valR zs 1), .int .i64 (valR zs 2), .int .i64 (valR zs 3), .int .i64 (valR zs 4), .bool t1.v.has, .int .i64 t1.v.o.kind, .slice t1.aI t1.v.o.ints.length t1.cI, .slice t1.aR t1.v.o.refs.length t1.cR, .bool t2.v.has, .int .i64 t2.v.o.kind, .slice t2.aI t2.v.o.ints.length t2.cI, .slice t2.aR t2.v.o.refs.length t2.cR, .int .i64 (valR zs 5), .slice aL ls.length cL] 30 ∧ Box wr w.heap.size [.int .i64 0, .int .i64 0, .int .i64 0, .int .i64 0, .int .i64 0, .bool false, .int .i64 0, .slice none 0 0, .slice none 0 0, .bool false, .int .i64 0, .slice none 0 0, .slice none 0 0, .int .i64 0, .slice none 0 0] 30 ∧ RdAt wr (w.heap.size + 1) a c zs st ∧ W0.heap.size ≤ wr.heap.size ∧ Below w.heap.size w wr)
    (fun i _ => min n.toNat 30 - (intOf i).toNat)
  case atStart => exact ⟨0, [], none, 0, st0, rfl, Nat.zero_le _, ⟨rfl, HSL.out⟩, ownL_nil _ _ _ (Nat.le_refl _), ot1, ot2, bX, bR, rd, Nat.le_refl _, BW⟩
  case round =>
    obtain ⟨k, ls, aL, cL, st, rfl, hk, hls, oL, q1, q2, bXr, bRr, rdr, hsr, Br⟩ := hrel
    clear bX bR rd ot1 ot2 BW
    obtain ⟨pos, bad⟩ := st
    unfold RdAt at rdr
    simp only at rdr
    have y2 := rdr.cell 2 _ rfl
    have hknn : (0 : Int) ≤ (k : Int) := by omega
    by_cases hgo : k < min n.toNat 30 ∧ bad = false
    case pos =>
      obtain ⟨hlt, rfl⟩ := hgo
      have c1 : (k : Int) < n := by omega
      have c2 : (k : Int) < 30 := by omega
      have HK1 : Hid (min n.toNat 30 - k = (min n.toNat 30 - (k + 1)) + 1) := by rw [Hid]; omega
      have HST : Hid (sL zs = livesOf zs (min n.toNat 30 - (k + 1)) (ls ++ [(liveNext zs (pos, false)).1]) (liveNext zs (pos, false)).2) := by rw [Hid, hls.out.2, HK1.out]; exact livesOf_step zs _ ls (pos, false) rfl
      have HLN : Hid (liveNext zs (pos, false) = (⟨(nextOf zs (pos, false)).1, (nextOf zs (nextOf zs (pos, false)).2).1, (nextOf zs (nextOf zs (nextOf zs (pos, false)).2).2).1 == 1⟩, (nextOf zs (nextOf zs (nextOf zs (pos, false)).2).2).2)) := rfl
      obtain ⟨V, hV, bLv, hbV, _⟩ := boxes1 wr [.int .i64 0, .int .i64 0, .bool false] 66
      have hzV := hbV.size
      have hlV := bLv.lt
      replace rdr : RdAt V (w.heap.size + 1) a c zs (pos, false) := Box.below rdr hbV (Box.lt rdr)
      replace oL := oL.below hbV
      replace q1 := OwnO.below q1 hbV
      replace q2 := OwnO.below q2 hbV
      replace bXr := bXr.below hbV bXr.lt
      replace bRr := bRr.below hbV bRr.lt
      replace Br := Br.trans (hbV.mono Br.size)
      clear hbV
      go_wp2_with fail
      rw [hV.out]
      clear hV y2
      refine (l2Next_any (w.heap.size + 1) a c zs (pos, false) V rdr (hr.below Br) (by omega)).mono ?_
      clear rdr
      generalize hY0 : nextOf zs (pos, false) = Y0 at *
      rintro e r0 ⟨⟨rfl, rdr⟩, hwr0⟩
      obtain ⟨vv0, ss0⟩ := Y0
      simp only at rdr ⊢
      have sr0 := hwr0.size
      replace bLv := bLv.within hwr0 (by omega)
      replace oL := oL.within hwr0 (by omega)
      replace q1 := OwnO.within q1 hwr0 (by omega)
      replace q2 := OwnO.within q2 hwr0 (by omega)
      replace bXr := bXr.within hwr0 (by omega)
      replace bRr := bRr.within hwr0 (by omega)
      replace Br := Br.trans (hwr0.below (by omega) Br.size)
      have x := bLv.cell 0 _ rfl
      have f := bLv.frozen 0
      obtain ⟨u0, hu0, bLv', hwu0, hsu0⟩ := box_set bLv 0 (.int .i64 vv0)
      have e1u0 := Nat.le_of_eq hsu0
      have e2u0 := Nat.le_of_eq hsu0.symm
      clear hsu0
      simp only [List.set] at bLv'
      replace rdr : RdAt u0 (w.heap.size + 1) a c zs ss0 := Box.within rdr hwu0 (by have := Box.lt rdr; omega)
      replace oL := oL.within hwu0 (by omega)
      replace q1 := OwnO.within q1 hwu0 (by omega)
      replace q2 := OwnO.within q2 hwu0 (by omega)
      replace bXr := bXr.within hwu0 (by have := bXr.lt; omega)
      replace bRr := bRr.within hwu0 (by have := bRr.lt; omega)
      replace Br := Br.trans (hwu0.below (by omega) Br.size)
      clear bLv hwr0 hwu0
      have bLv := bLv'
      clear bLv'
      go_wp2_with fail
      rw [hu0.out]
      clear hu0 x f
      refine (l2Next_any (w.heap.size + 1) a c zs ss0 u0 rdr (hr.below Br) (by omega)).mono ?_
      clear rdr
      generalize hY1 : nextOf zs ss0 = Y1 at *
      rintro e r1 ⟨⟨rfl, rdr⟩, hwr1⟩
      obtain ⟨vv1, ss1⟩ := Y1
      simp only at rdr ⊢
      have sr1 := hwr1.size
      replace bLv := bLv.within hwr1 (by omega)
      replace oL := oL.within hwr1 (by omega)
      replace q1 := OwnO.within q1 hwr1 (by omega)
      replace q2 := OwnO.within q2 hwr1 (by omega)
      replace bXr := bXr.within hwr1 (by omega)
      replace bRr := bRr.within hwr1 (by omega)
      replace Br := Br.trans (hwr1.below (by omega) Br.size)
      have x := bLv.cell 1 _ rfl
      have f := bLv.frozen 1
      obtain ⟨u1, hu1, bLv', hwu1, hsu1⟩ := box_set bLv 1 (.int .i64 vv1)
      have e1u1 := Nat.le_of_eq hsu1
      have e2u1 := Nat.le_of_eq hsu1.symm
      clear hsu1
      simp only [List.set] at bLv'
      replace rdr : RdAt u1 (w.heap.size + 1) a c zs ss1 := Box.within rdr hwu1 (by have := Box.lt rdr; omega)
      replace oL := oL.within hwu1 (by omega)
      replace q1 := OwnO.within q1 hwu1 (by omega)
      replace q2 := OwnO.within q2 hwu1 (by omega)
      replace bXr := bXr.within hwu1 (by have := bXr.lt; omega)
      replace bRr := bRr.within hwu1 (by have := bRr.lt; omega)
      replace Br := Br.trans (hwu1.below (by omega) Br.size)
      clear bLv hwr1 hwu1
      have bLv := bLv'
      clear bLv'
      go_wp2_with fail
      rw [hu1.out]
      clear hu1 x f
      refine (l2Next_any (w.heap.size + 1) a c zs ss1 u1 rdr (hr.below Br) (by omega)).mono ?_
      clear rdr
      generalize hY2 : nextOf zs ss1 = Y2 at *
      rintro e r2 ⟨⟨rfl, rdr⟩, hwr2⟩
      obtain ⟨vv2, ss2⟩ := Y2
      simp only at rdr ⊢
      have sr2 := hwr2.size
      replace bLv := bLv.within hwr2 (by omega)
      replace oL := oL.within hwr2 (by omega)
      replace q1 := OwnO.within q1 hwr2 (by omega)
      replace q2 := OwnO.within q2 hwr2 (by omega)
      replace bXr := bXr.within hwr2 (by omega)
      replace bRr := bRr.within hwr2 (by omega)
      replace Br := Br.trans (hwr2.below (by omega) Br.size)
      have x := bLv.cell 2 _ rfl
      have f := bLv.frozen 2
      obtain ⟨u2, hu2, bLv', hwu2, hsu2⟩ := box_set bLv 2 (.bool (vv2 == 1))
      have e1u2 := Nat.le_of_eq hsu2
      have e2u2 := Nat.le_of_eq hsu2.symm
      clear hsu2
      simp only [List.set] at bLv'
      replace rdr : RdAt u2 (w.heap.size + 1) a c zs ss2 := Box.within rdr hwu2 (by have := Box.lt rdr; omega)
      replace oL := oL.within hwu2 (by omega)
      replace q1 := OwnO.within q1 hwu2 (by omega)
      replace q2 := OwnO.within q2 hwu2 (by omega)
      replace bXr := bXr.within hwu2 (by have := bXr.lt; omega)
      replace bRr := bRr.within hwu2 (by have := bRr.lt; omega)
      replace Br := Br.trans (hwu2.below (by omega) Br.size)
      clear bLv hwr2 hwu2
      have bLv := bLv'
      clear bLv'
      generalize hzz : (⟨vv0, vv1, vv2 == 1⟩ : LiveV) = z at *
      have HZ : Hid (z = ⟨vv0, vv1, vv2 == 1⟩) := hzz.symm
      have HNX : Hid (liveNext zs (pos, false) = (z, ss2)) := HLN.out.trans rfl
      rw [HNX.out] at HST
      simp only at HST
      clear hzz HLN HNX hY0 hY1 hY2
      go_upto_region 19 with fail
      rw [hu2.out]
      clear hu2 x f
      have y14 := bXr.cell 14 _ rfl
      obtain ⟨l0, l1, l2, _⟩ := bLv.three
      have hrz := readsL_one u2 z 66
      rw [HZ.out] at hrz
      simp only at hrz
      have oLA := oL.below ((Below.refl _ _).alloc (Nat.le_refl u2.heap.size) (.cells #[.int .i64 vv0, .int .i64 vv1, .bool (vv2 == 1)] 66))
      have hA1 : ls.length + ([⟨vv0, vv1, vv2 == 1⟩] : List LiveV).length ≤ 1099511627776 := by simp only [List.length_cons, List.length_nil]; have := hls.out.1; omega
      have hA2 : W0.heap.size ≤ (u2.alloc (.cells #[.int .i64 vv0, .int .i64 vv1, .bool (vv2 == 1)] 66)).heap.size := by rw [World.size_alloc]; omega
      go_wp2_with (at_builtin; refine append_lives rfl _ _ rfl W0.heap.size _ aL cL ls rfl oLA (some ⟨u2.heap.size, 0, none⟩) 1 [⟨vv0, vv1, vv2 == 1⟩] rfl hrz (fun h => by cases h) hA1 hA2 ?_)
      intro a9 c9 ys w9 hys o9 g9

      have hw9 : Within W0.heap.size wr.heap.size (u2.alloc (.cells #[.int .i64 vv0, .int .i64 vv1, .bool (vv2 == 1)] 66)) w9 := Within.of_grown g9 (fun j hj => oLA.lt j hj)
      have hbA : Below u2.heap.size u2 (u2.alloc (.cells #[.int .i64 vv0, .int .i64 vv1, .bool (vv2 == 1)] 66)) := (Below.refl _ _).alloc (Nat.le_refl _) _
      have sA : u2.heap.size ≤ (u2.alloc (.cells #[.int .i64 vv0, .int .i64 vv1, .bool (vv2 == 1)] 66)).heap.size := hbA.size
      have s9 := hw9.size
      replace rdr : RdAt w9 (w.heap.size + 1) a c zs ss2 := Box.within (Box.below rdr hbA (Box.lt rdr)) hw9 (by have := Box.lt rdr; omega)
      replace q1 := OwnO.within (OwnO.below q1 hbA) hw9 (by omega)
      replace q2 := OwnO.within (OwnO.below q2 hbA) hw9 (by omega)
      replace bXr := (bXr.below hbA bXr.lt).within hw9 (by omega)
      replace bRr := (bRr.below hbA bRr.lt).within hw9 (by omega)
      replace Br := (Br.trans (hbA.mono Br.size)).trans (hw9.below (by have := Br.size; omega) (by have := Br.size; omega))
      clear oLA hw9 hbA g9 hrz bLv l0 l1 l2 y14 oL hA1 hA2
      have y14 := bXr.cell 14 _ rfl
      have f14 := bXr.frozen 14
      obtain ⟨V2, hV2, bX2, hw2, hs2⟩ := box_set bXr 14 (.slice a9 ys.length c9)
      simp only [List.set] at bX2
      replace rdr : RdAt V2 (w.heap.size + 1) a c zs ss2 := Box.within rdr hw2 (by omega)
      replace o9 : OwnL V2 W0.heap.size V2.heap.size a9 c9 ys := (o9.within hw2 (by omega)).widen (Nat.le_refl _) (by omega) (Nat.le_refl _)
      replace q1 := OwnO.within q1 hw2 (by omega)
      replace q2 := OwnO.within q2 hw2 (by omega)
      replace bRr := bRr.within hw2 (by omega)
      replace Br := Br.trans (hw2.below (by omega) Br.size)
      have HFIN : Hid (ys.length = k + 1 ∧ sL zs = livesOf zs (min n.toNat 30 - (k + 1)) ys ss2) := by
        have hyz : ys = ls ++ [z] := by rw [hys.out, HZ.out]
        exact ⟨by rw [hyz]; simp [hls.out.1], by rw [HST.out, hyz]⟩
      have hsz : W0.heap.size ≤ V2.heap.size := by omega
      clear hw2 bXr hs2
      go_wp2_with fail
      rw [hV2.out]
      go_roundw
      case rel => exact ⟨k + 1, ys, a9, c9, ss2, by go_num, by omega, HFIN, o9, q1, q2, bX2, bRr, rdr, hsz, Br⟩
      case measure => simp [intOf]; omega
    case neg =>
      have HSLE : Hid (sL zs = (ls, (pos, bad))) := by
        rw [Hid, hls.out.2]
        by_cases hb : bad = true
        · exact livesOf_stop zs _ ls _ hb
        · have hbf : bad = false := by simpa using hb
          have hk' : min n.toNat 30 - k = 0 := by
            have : ¬ k < min n.toNat 30 := fun h => hgo ⟨h, hbf⟩
            omega
          rw [hk']; rfl
      have h30 : ls.length ≤ 30 := by have := hls.out.1; omega
      let TT : RecA := ⟨valR zs 0, valR zs 1, valR zs 2, valR zs 3, valR zs 4, t1, t2, valR zs 5, ls, aL, cL⟩
      have bT : Box wr (w.heap.size + 1 + 1) TT.cells 30 := bXr
      have HTV : Hid (TT.v = recR zs) := by
        have h1 := hvt1.out
        have h2 := hvt2.out
        simp only [Hid, TT, RecA.v, recR, HSLE.out, h1, h2]
      have HTS : Hid (TT.short 1099511627776) := by
        have h1 := nextSlot_small zs (stR zs 6)
        have h2 := nextSlot_small zs (sB zs).2
        have e1 : t1.v = (nextSlotOf zs (stR zs 6)).1 := hvt1.out
        have e2 : t2.v = (nextSlotOf zs (sB zs).2).1 := hvt2.out
        rw [← e1] at h1
        rw [← e2] at h2
        exact ⟨by show t1.v.o.ints.length ≤ _ ∧ t1.v.o.refs.length ≤ _; omega, by show t2.v.o.ints.length ≤ _ ∧ t2.v.o.refs.length ≤ _; omega, by show ls.length ≤ _; omega⟩
      have HTO : Hid (TT.own wr q5.heap.size wr.heap.size) := ⟨OwnO.widen q1 (by omega) (by omega) (Nat.le_refl _), OwnO.widen q2 (by omega) (by omega) (Nat.le_refl _), oL.widen (by omega) (Nat.le_refl _) (Nat.le_refl _), rec_apart (b := sq1.heap.size) (c := W0.heap.size) (OwnO.widen q1 (Nat.le_refl _) (by omega) (by omega)) (OwnO.widen q2 (Nat.le_refl _) (by omega) (by omega)) oL (by omega)⟩
      have HBAD : Hid ((sL zs).2.2 = bad) := by rw [Hid, HSLE.out]
      have hWp : W.heap.size ≤ q5.heap.size := by omega
      clear bXr q1 q2 oL hls h30
      clear_value TT
      have hck : Hid (¬ (k < min n.toNat 30 ∧ bad = false)) := hgo
      clear hgo
      have hWr := Br.size
      have HCK : Hid (_) := hck.out
      clear hck
      by_cases hc1 : (k : Int) < n
      case neg =>
        cases bad with
        | true =>
          have HP : Hid (pairR zs = (noR, false)) := HE1.out HBAD.out
          obtain ⟨WF, hWF, hwF, hsF, HTF, HLF, _⟩ := rec_out zeroR _ rfl bRr
          have HEN : Hid (GotR w WF zs _) := gotR_no HP.out ((Br).trans (hwF.below (Nat.le_refl _) (Br).size))
          clear hwF hsF
          go_wp2_with (first | (guard_target = wpList _ _ _ (Oper.mk none (Op.store _ (Operand.tmp 2) _) _ _ _ _ :: _) _ _; refine wpList_store_mid rfl 30 (.tmp 2) (.tmp 88) rfl w.heap.size 0 zeroR.cells.toArray rfl rfl HTF.out (by rw [List.size_toArray]; exact rec_info _) (rec_one _) ?_) | fail)
          rw [hWF.out]
          exact bodyPost_ret (v := .tuple #[.agg zeroR.cells.toArray, .bool false]) (results_cell_flag Tryz.results5 rfl HLF.out rfl) rfl HEN.out
        | false =>
          have rT := Box.range [] TT.cells [] (by simpa using bT : Box wr (w.heap.size + 1 + 1) ([] ++ (TT.cells ++ [])) 30)
          have C1 := specRecOk_any TT wr HTO.out.reads HTS.out
          rw [HTV.out] at C1
          go_wp2_with (first | (guard_target = wpList _ _ _ (Oper.mk (some 77) _ _ _ _ _ :: _) _ _; refine wpList_load_mid_if (by rfl) 30 (.tmp 5) rfl (w.heap.size + 1 + 1) 0 rfl TT.cells _ rT Tryz.underlying30 rfl (rec_info _) ?_) | fail)
          clear rT y2
          refine C1.mono ?_
          clear C1
          rintro e m1 ⟨rfl, hm1⟩
          have bT1 := bT.below hm1 bT.lt
          have bR1 := bRr.below hm1 bRr.lt
          have HTO1 : Hid (TT.own m1 q5.heap.size wr.heap.size) := HTO.out.below hm1
          have Bm1 := Br.trans (hm1.mono Br.size)
          have sm1 := hm1.size
          cases hok : okR (recR zs) with
          | false =>
            have HP : Hid (pairR zs = (noR, false)) := HE2.out hok
            obtain ⟨WF, hWF, hwF, hsF, HTF, HLF, _⟩ := rec_out zeroR _ rfl bR1
            have HEN : Hid (GotR w WF zs _) := gotR_no HP.out ((Bm1).trans (hwF.below (Nat.le_refl _) (Bm1).size))
            clear hwF hsF
            go_wp2_with (first | (guard_target = wpList _ _ _ (Oper.mk none (Op.store _ (Operand.tmp 2) _) _ _ _ _ :: _) _ _; refine wpList_store_mid rfl 30 (.tmp 2) (.tmp 88) rfl w.heap.size 0 zeroR.cells.toArray rfl rfl HTF.out (by rw [List.size_toArray]; exact rec_info _) (rec_one _) ?_) | fail)
            rw [hWF.out]
            exact bodyPost_ret (v := .tuple #[.agg zeroR.cells.toArray, .bool false]) (results_cell_flag Tryz.results5 rfl HLF.out rfl) rfl HEN.out
          | true =>
          have rT := Box.range [] TT.cells [] (by simpa using bT1 : Box m1 (w.heap.size + 1 + 1) ([] ++ (TT.cells ++ [])) 30)
          have C2 := specPutRec_any TT m1 HTO1.out.reads HTS.out
          rw [HTV.out] at C2
          go_wp2_with (first | (guard_target = wpList _ _ _ (Oper.mk (some 82) _ _ _ _ _ :: _) _ _; refine wpList_load_mid_if (by rfl) 30 (.tmp 5) rfl (w.heap.size + 1 + 1) 0 rfl TT.cells _ rT Tryz.underlying30 rfl (rec_info _) ?_) | fail)
          clear rT
          refine C2.mono ?_
          clear C2
          rintro e m2 ⟨a2, c2', y2', rfl, HY2, oy, hm2⟩
          have Bm2 := Bm1.trans (hm2.mono Bm1.size)
          have sm2 := hm2.size
          have bT2 := bT1.below hm2 bT1.lt
          have bR2 := bR1.below hm2 bR1.lt
          have HTO2 : Hid (TT.own m2 q5.heap.size wr.heap.size) := HTO1.out.below hm2
          have hyl : y2'.length ≤ 100000 := by rw [HY2.out]; exact HPL.out
          go_wp2_with fail
          refine (l2Same_any a2 a c2' c y2' zs m2 oy.reads (hr.below Bm2) (by omega) hl).mono ?_
          rintro e m3 ⟨rfl, nn, hm3⟩
          have N3 : Below m2.heap.size m2 m3 := by rw [hm3]; exact below_drewN (Below.refl _ _) nn
          clear hm3
          have Bm3 := Bm2.trans (N3.mono Bm2.size)
          have sm3 := N3.size
          have bT3 := bT2.below N3 bT2.lt
          have bR3 := bR2.below N3 bR2.lt
          have HTO3 : Hid (TT.own m3 q5.heap.size wr.heap.size) := HTO2.out.below N3
          by_cases hyz : y2' = zs
          case neg =>
            have hd : decide (y2' = zs) = false := decide_eq_false hyz
            rw [hd]
            have HP : Hid (pairR zs = (noR, false)) := HE3.out (by rw [← HY2.out]; exact hyz)
            obtain ⟨WF, hWF, hwF, hsF, HTF, HLF, _⟩ := rec_out zeroR _ rfl bR3
            have HEN : Hid (GotR w WF zs _) := gotR_no HP.out ((Bm3).trans (hwF.below (Nat.le_refl _) (Bm3).size))
            clear hwF hsF
            go_wp2_with (first | (guard_target = wpList _ _ _ (Oper.mk none (Op.store _ (Operand.tmp 2) _) _ _ _ _ :: _) _ _; refine wpList_store_mid rfl 30 (.tmp 2) (.tmp 88) rfl w.heap.size 0 zeroR.cells.toArray rfl rfl HTF.out (by rw [List.size_toArray]; exact rec_info _) (rec_one _) ?_) | fail)
            rw [hWF.out]
            exact bodyPost_ret (v := .tuple #[.agg zeroR.cells.toArray, .bool false]) (results_cell_flag Tryz.results5 rfl HLF.out rfl) rfl HEN.out
          case pos =>
            have hd : decide (y2' = zs) = true := decide_eq_true hyz
            rw [hd]
            have HP : Hid (pairR zs = (recR zs, true)) := HE4.out HBAD.out hok (by rw [← HY2.out]; exact hyz)
            obtain ⟨WF, hWF, hwF, hsF, HTF, HLF, _⟩ := rec_out TT _ rfl bR3
            have HEN : Hid (GotR w WF zs _) := gotR_yes HP.out HTV.out ((HTO3.out.within hwF (.inr (by omega))).widen (by omega) (by omega) (Nat.le_refl _)) (Bm3.trans (hwF.below (Nat.le_refl _) Bm3.size))
            have rT := Box.range [] TT.cells [] (by simpa using bT3 : Box m3 (w.heap.size + 1 + 1) ([] ++ (TT.cells ++ [])) 30)
            clear hwF hsF hyz hd
            go_wp2_with (first | (guard_target = wpList _ _ _ (Oper.mk (some 89) _ _ _ _ _ :: _) _ _; refine wpList_load_mid rfl 30 (.tmp 5) rfl (w.heap.size + 1 + 1) 0 rfl TT.cells _ rT Tryz.underlying30 rfl (rec_info _) ?_) | (guard_target = wpList _ _ _ (Oper.mk none (Op.store _ (Operand.tmp 2) _) _ _ _ _ :: _) _ _; refine wpList_store_mid rfl 30 (.tmp 2) (.tmp 89) rfl w.heap.size 0 TT.cells.toArray rfl rfl HTF.out (by rw [List.size_toArray]; exact rec_info _) (rec_one _) ?_) | fail)
            rw [hWF.out]
            exact bodyPost_ret (v := .tuple #[.agg TT.cells.toArray, .bool true]) (results_cell_flag Tryz.results5 rfl HLF.out rfl) rfl HEN.out
      case pos =>
      by_cases hc2 : (k : Int) < 30
      case neg =>
        cases bad with
        | true =>
          have HP : Hid (pairR zs = (noR, false)) := HE1.out HBAD.out
          obtain ⟨WF, hWF, hwF, hsF, HTF, HLF, _⟩ := rec_out zeroR _ rfl bRr
          have HEN : Hid (GotR w WF zs _) := gotR_no HP.out ((Br).trans (hwF.below (Nat.le_refl _) (Br).size))
          clear hwF hsF
          go_wp2_with (first | (guard_target = wpList _ _ _ (Oper.mk none (Op.store _ (Operand.tmp 2) _) _ _ _ _ :: _) _ _; refine wpList_store_mid rfl 30 (.tmp 2) (.tmp 88) rfl w.heap.size 0 zeroR.cells.toArray rfl rfl HTF.out (by rw [List.size_toArray]; exact rec_info _) (rec_one _) ?_) | fail)
          rw [hWF.out]
          exact bodyPost_ret (v := .tuple #[.agg zeroR.cells.toArray, .bool false]) (results_cell_flag Tryz.results5 rfl HLF.out rfl) rfl HEN.out
        | false =>
          have rT := Box.range [] TT.cells [] (by simpa using bT : Box wr (w.heap.size + 1 + 1) ([] ++ (TT.cells ++ [])) 30)
          have C1 := specRecOk_any TT wr HTO.out.reads HTS.out
          rw [HTV.out] at C1
          go_wp2_with (first | (guard_target = wpList _ _ _ (Oper.mk (some 77) _ _ _ _ _ :: _) _ _; refine wpList_load_mid_if (by rfl) 30 (.tmp 5) rfl (w.heap.size + 1 + 1) 0 rfl TT.cells _ rT Tryz.underlying30 rfl (rec_info _) ?_) | fail)
          clear rT y2
          refine C1.mono ?_
          clear C1
          rintro e m1 ⟨rfl, hm1⟩
          have bT1 := bT.below hm1 bT.lt
          have bR1 := bRr.below hm1 bRr.lt
          have HTO1 : Hid (TT.own m1 q5.heap.size wr.heap.size) := HTO.out.below hm1
          have Bm1 := Br.trans (hm1.mono Br.size)
          have sm1 := hm1.size
          cases hok : okR (recR zs) with
          | false =>
            have HP : Hid (pairR zs = (noR, false)) := HE2.out hok
            obtain ⟨WF, hWF, hwF, hsF, HTF, HLF, _⟩ := rec_out zeroR _ rfl bR1
            have HEN : Hid (GotR w WF zs _) := gotR_no HP.out ((Bm1).trans (hwF.below (Nat.le_refl _) (Bm1).size))
            clear hwF hsF
            go_wp2_with (first | (guard_target = wpList _ _ _ (Oper.mk none (Op.store _ (Operand.tmp 2) _) _ _ _ _ :: _) _ _; refine wpList_store_mid rfl 30 (.tmp 2) (.tmp 88) rfl w.heap.size 0 zeroR.cells.toArray rfl rfl HTF.out (by rw [List.size_toArray]; exact rec_info _) (rec_one _) ?_) | fail)
            rw [hWF.out]
            exact bodyPost_ret (v := .tuple #[.agg zeroR.cells.toArray, .bool false]) (results_cell_flag Tryz.results5 rfl HLF.out rfl) rfl HEN.out
          | true =>
          have rT := Box.range [] TT.cells [] (by simpa using bT1 : Box m1 (w.heap.size + 1 + 1) ([] ++ (TT.cells ++ [])) 30)
          have C2 := specPutRec_any TT m1 HTO1.out.reads HTS.out
          rw [HTV.out] at C2
          go_wp2_with (first | (guard_target = wpList _ _ _ (Oper.mk (some 82) _ _ _ _ _ :: _) _ _; refine wpList_load_mid_if (by rfl) 30 (.tmp 5) rfl (w.heap.size + 1 + 1) 0 rfl TT.cells _ rT Tryz.underlying30 rfl (rec_info _) ?_) | fail)
          clear rT
          refine C2.mono ?_
          clear C2
          rintro e m2 ⟨a2, c2', y2', rfl, HY2, oy, hm2⟩
          have Bm2 := Bm1.trans (hm2.mono Bm1.size)
          have sm2 := hm2.size
          have bT2 := bT1.below hm2 bT1.lt
          have bR2 := bR1.below hm2 bR1.lt
          have HTO2 : Hid (TT.own m2 q5.heap.size wr.heap.size) := HTO1.out.below hm2
          have hyl : y2'.length ≤ 100000 := by rw [HY2.out]; exact HPL.out
          go_wp2_with fail
          refine (l2Same_any a2 a c2' c y2' zs m2 oy.reads (hr.below Bm2) (by omega) hl).mono ?_
          rintro e m3 ⟨rfl, nn, hm3⟩
          have N3 : Below m2.heap.size m2 m3 := by rw [hm3]; exact below_drewN (Below.refl _ _) nn
          clear hm3
          have Bm3 := Bm2.trans (N3.mono Bm2.size)
          have sm3 := N3.size
          have bT3 := bT2.below N3 bT2.lt
          have bR3 := bR2.below N3 bR2.lt
          have HTO3 : Hid (TT.own m3 q5.heap.size wr.heap.size) := HTO2.out.below N3
          by_cases hyz : y2' = zs
          case neg =>
            have hd : decide (y2' = zs) = false := decide_eq_false hyz
            rw [hd]
            have HP : Hid (pairR zs = (noR, false)) := HE3.out (by rw [← HY2.out]; exact hyz)
            obtain ⟨WF, hWF, hwF, hsF, HTF, HLF, _⟩ := rec_out zeroR _ rfl bR3
            have HEN : Hid (GotR w WF zs _) := gotR_no HP.out ((Bm3).trans (hwF.below (Nat.le_refl _) (Bm3).size))
            clear hwF hsF
            go_wp2_with (first | (guard_target = wpList _ _ _ (Oper.mk none (Op.store _ (Operand.tmp 2) _) _ _ _ _ :: _) _ _; refine wpList_store_mid rfl 30 (.tmp 2) (.tmp 88) rfl w.heap.size 0 zeroR.cells.toArray rfl rfl HTF.out (by rw [List.size_toArray]; exact rec_info _) (rec_one _) ?_) | fail)
            rw [hWF.out]
            exact bodyPost_ret (v := .tuple #[.agg zeroR.cells.toArray, .bool false]) (results_cell_flag Tryz.results5 rfl HLF.out rfl) rfl HEN.out
          case pos =>
            have hd : decide (y2' = zs) = true := decide_eq_true hyz
            rw [hd]
            have HP : Hid (pairR zs = (recR zs, true)) := HE4.out HBAD.out hok (by rw [← HY2.out]; exact hyz)
            obtain ⟨WF, hWF, hwF, hsF, HTF, HLF, _⟩ := rec_out TT _ rfl bR3
            have HEN : Hid (GotR w WF zs _) := gotR_yes HP.out HTV.out ((HTO3.out.within hwF (.inr (by omega))).widen (by omega) (by omega) (Nat.le_refl _)) (Bm3.trans (hwF.below (Nat.le_refl _) Bm3.size))
            have rT := Box.range [] TT.cells [] (by simpa using bT3 : Box m3 (w.heap.size + 1 + 1) ([] ++ (TT.cells ++ [])) 30)
            clear hwF hsF hyz hd
            go_wp2_with (first | (guard_target = wpList _ _ _ (Oper.mk (some 89) _ _ _ _ _ :: _) _ _; refine wpList_load_mid rfl 30 (.tmp 5) rfl (w.heap.size + 1 + 1) 0 rfl TT.cells _ rT Tryz.underlying30 rfl (rec_info _) ?_) | (guard_target = wpList _ _ _ (Oper.mk none (Op.store _ (Operand.tmp 2) _) _ _ _ _ :: _) _ _; refine wpList_store_mid rfl 30 (.tmp 2) (.tmp 89) rfl w.heap.size 0 TT.cells.toArray rfl rfl HTF.out (by rw [List.size_toArray]; exact rec_info _) (rec_one _) ?_) | fail)
            rw [hWF.out]
            exact bodyPost_ret (v := .tuple #[.agg TT.cells.toArray, .bool true]) (results_cell_flag Tryz.results5 rfl HLF.out rfl) rfl HEN.out
      case pos =>
        obtain rfl : bad = true := by
          cases bad with
          | true => rfl
          | false => exact absurd ⟨by omega, rfl⟩ HCK.out
        have HP : Hid (pairR zs = (noR, false)) := HE1.out HBAD.out
        obtain ⟨WF, hWF, hwF, hsF, HTF, HLF, _⟩ := rec_out zeroR _ rfl bRr
        have HEN : Hid (GotR w WF zs _) := gotR_no HP.out ((Br).trans (hwF.below (Nat.le_refl _) (Br).size))
        clear hwF hsF
        go_wp2_with (first | (guard_target = wpList _ _ _ (Oper.mk none (Op.store _ (Operand.tmp 2) _) _ _ _ _ :: _) _ _; refine wpList_store_mid rfl 30 (.tmp 2) (.tmp 88) rfl w.heap.size 0 zeroR.cells.toArray rfl rfl HTF.out (by rw [List.size_toArray]; exact rec_info _) (rec_one _) ?_) | fail)
        rw [hWF.out]
        exact bodyPost_ret (v := .tuple #[.agg zeroR.cells.toArray, .bool false]) (results_cell_flag Tryz.results5 rfl HLF.out rfl) rfl HEN.out

end Go.Proofs.YtjaojcgfgkppgaaGreatDoor

/- What came in, read: a slice of bytes. -/
namespace Go.Proofs.YtjaojcgfgkppgaaGreatDoor
open Go.ChangeShapes Go.WideShapes Go.ChangeAt Go.RowKit

section
variable {H : Type} {enc : TypeId × Value → H} {w : World} {base : Nat} {spare : Nat → Bool} {held : Bool}

theorem trod_bytes {fuel : Nat} {cs : List Value} {x : DataW H × List MemPlace} (h : DataW.trod enc Tryz.prog w base spare held fuel 22 cs = some x) :
    ∃ (a : Option Addr) (c : Nat) (ns : List Int), cs = [.slice a ns.length c] ∧ Reads w a ns ∧ (a = none → c = 0) ∧ ns.length ≤ maxLen := by
  rcases open_ints Tryz.underlying22 Tryz.underlying5 (by kernel_rfl) h with ⟨rfl, _⟩ | ⟨a, len, cap, zs, rfl, _, hl, hm, hz, _, hcell, hwf⟩
  · exact ⟨none, 0, [], rfl, ⟨by simp, by simp⟩, fun _ => rfl, by simp⟩
  · have hlz : len ≤ zs.length := by rw [hz]; split <;> omega
    refine ⟨some a, cap, zs.take len, by simp; omega, ⟨fun z hzz => ?_, ?_⟩, (fun h => by cases h), by simp; omega⟩
    · have := hwf z (List.mem_of_mem_take hzz)
      simp [Lit.wf, IntKind.min, IntKind.max, IntKind.signed, IntKind.bits] at this
      omega
    · intro hne
      have hpos := List.length_pos_iff.2 hne
      simp at hpos
      obtain ⟨b, off, spot⟩ := a
      have hc0 := hcell 0 (by omega)
      have hspot : spot = none := by simpa [Addr.add] using World.cell?_spot hc0
      subst hspot
      refine ⟨b, off, rfl, fun i hi => ?_⟩
      have hi' : i < len := by simp at hi; omega
      have := hcell i (by omega)
      have e : (List.take len zs).getD i 0 = zs.getD i 0 := by simp [List.getD, hi']
      rw [e, ← Addr_add]
      exact this

set_option maxRecDepth 100000 in
/-- A slice of bytes that came in as an argument. -/
theorem open_bytes {b0 : Nat} {v : Value} {d : DataW H} {ps : List MemPlace} (hval : Value.okWide Tryz.prog w .any b0 22 v) (h : DataW.Trod enc Tryz.prog w base spare held 22 v d ps) :
    ∃ (a : Option Addr) (c : Nat) (ns : List Int), v = .slice a ns.length c ∧ Reads w a ns ∧ (a = none → c = 0) ∧ ns.length ≤ maxLen := by
  obtain ⟨a, len, cap, hv⟩ := okWide_slice (e := 5) Tryz.underlying22 hval
  subst hv
  obtain ⟨fuel, hf⟩ := h
  have e : (Value.slice a len cap).cells.toList = [Value.slice a len cap] := rfl
  rw [e] at hf
  obtain ⟨a', c', ns, hc, rest⟩ := trod_bytes hf
  simp only [List.cons.injEq, and_true] at hc
  exact ⟨a', c', ns, hc, rest⟩
end
end Go.Proofs.YtjaojcgfgkppgaaGreatDoor

/- The walk of laws.FnExactGetRec. -/
namespace Go.Proofs.YtjaojcgfgkppgaaGreatDoor
open Go.RowKit

theorem rec_rng2 {w : World} {B : Nat} {T : TypeId} (r : RecA) (b : Box w B r.cells T) : w.rangeAt B 0 r.cells := Box.range [] r.cells [] (by simpa using b)
theorem pairR_short {zs : List Int} {t : RecA} (h : t.v = (pairR zs).1) : t.short 1048576 := by
  have small : ∀ s : SlotV, slotB s = true → s.o.ints.length ≤ 5 ∧ s.o.refs.length ≤ 5 := fun s hs => by
    cases hh : s.has with
    | true => rw [slotB_has hh] at hs; have := okB_bd hs; exact ⟨this.2.1, this.2.2.1⟩
    | false => rw [slotB_not hh hs]; exact ⟨Nat.zero_le _, Nat.zero_le _⟩
  cases hp : (pairR zs).2 with
  | true =>
    have d := okR_bd (pairR_ok hp).1
    rw [← h] at d
    have a1 := small _ d.bf
    have a2 := small _ d.af
    have a3 := d.txs
    simp only [RecA.v] at a1 a2 a3
    exact ⟨by omega, by omega, by omega⟩
  | false =>
    have e : (pairR zs).1 = noR := by
      unfold pairR at hp ⊢
      cases hg : getR zs with
      | none => rfl
      | some r => rw [hg] at hp; cases hp
    rw [e] at h
    simp only [RecA.v, noR, RecV.mk.injEq] at h
    obtain ⟨_, _, _, _, _, h1, h2, _, h3⟩ := h
    exact ⟨by rw [h1]; exact ⟨Nat.zero_le _, Nat.zero_le _⟩, by rw [h2]; exact ⟨Nat.zero_le _, Nat.zero_le _⟩, by rw [h3]; exact Nat.zero_le _⟩

set_option maxHeartbeats 8000000 in
set_option maxRecDepth 100000 in
theorem lawGetRec_walk (a : Option Addr) (cap : Nat) (zs : List Int) (w : World) (hg : ErrT w) (hr : Reads w a zs) :
    Calls Tryz.prog 3 #[.slice a zs.length cap] w fun e w' => e = .returned (.bool true) ∧ Below w.heap.size w w' := by
  by_cases hbig : (1048576 : Int) < (zs.length : Int)
  · go_enter Tryz.func3, Tryz.ntmps3
    go_wp2
    go_ret
    exact ⟨rfl, Below.refl _ _⟩
  have hlz : zs.length ≤ 1048576 := by omega
  have HSP : Hid (∀ (t : Option Addr) (c : Nat) (u : World), Reads u t zs → zs.length ≤ c → Calls Tryz.prog 5 #[.slice t zs.length c] u fun e u' => ∃ x : RecA, e = .returned (.tuple #[.agg x.cells.toArray, .bool (pairR zs).2]) ∧ Hid (x.v = (pairR zs).1) ∧ x.own u' u.heap.size u'.heap.size ∧ Below u.heap.size u u') := fun t c u h1 h2 => specGetRec_any t c zs u h1 (by omega) h2
  have HIM : Hid (∀ (t : Option Addr) (c : Nat) (u : World), ErrT u → Reads u t zs → zs.length ≤ c → Calls Tryz.prog 7 #[.slice t zs.length c] u fun e u' => ∃ x : RecA, e = .returned (.tuple #[.agg x.cells.toArray, .bool (pairR zs).2]) ∧ Hid (x.v = (pairR zs).1) ∧ x.own u' u.heap.size u'.heap.size ∧ Below u.heap.size u u') := fun t c u g h1 h2 => implGetRec_any t c zs u g h1 (by omega) h2
  have HSH : Hid (∀ t : RecA, t.v = (pairR zs).1 → t.short 1048576) := fun t h => pairR_short h
  generalize (pairR zs).2 = PK at *
  generalize (pairR zs).1 = PV at *
  have BW : Below w.heap.size w w := Below.refl _ _
  go_enter Tryz.func3, Tryz.ntmps3
  go_wp2_with fail
  refine (toByteS_own a cap zs w hr (by omega)).mono ?_
  rintro e w1 ⟨b1, c1, rfl, ho1, hb1⟩
  replace BW := BW.trans (hb1.mono BW.size)
  have s1 := hb1.size
  go_wp2_with fail
  refine (HSP.out b1 c1 w1 ho1.reads ho1.len_cap).mono ?_
  rintro e w2 ⟨tw, rfl, HVW, ow, hb2⟩
  clear ho1
  replace BW := BW.trans (hb2.mono BW.size)
  have s2 := hb2.size
  obtain ⟨Zw3, hZw3, bZw3, hbZw3, _⟩ := boxes1 w2 [.int .i64 0, .int .i64 0, .int .i64 0, .int .i64 0, .int .i64 0, .bool false, .int .i64 0, .slice none 0 0, .slice none 0 0, .bool false, .int .i64 0, .slice none 0 0, .slice none 0 0, .int .i64 0, .slice none 0 0] 30
  obtain ⟨w3, hSw3, hww3, hzw3, HTw3, _, bx3⟩ := rec_out tw [.int .i64 0, .int .i64 0, .int .i64 0, .int .i64 0, .int .i64 0, .bool false, .int .i64 0, .slice none 0 0, .slice none 0 0, .bool false, .int .i64 0, .slice none 0 0, .slice none 0 0, .int .i64 0, .slice none 0 0] rfl bZw3
  have hbw3 : Below w2.heap.size w2 w3 := hbZw3.trans (hww3.below (Nat.le_refl _) (by have := hbZw3.size; omega))
  clear bZw3 hbZw3 hww3 hzw3
  replace ow := ow.below hbw3
  replace BW := BW.trans (hbw3.mono BW.size)
  have sw3 := hbw3.size
  have lw3 := bx3.lt
  go_wp2_with (first | (guard_target = wpList _ _ _ (Oper.mk none (Op.store _ (Operand.tmp 3) _) _ _ _ _ :: _) _ _; refine wpList_store_mid rfl 30 (.tmp 3) (.tmp 20) rfl w2.heap.size 0 tw.cells.toArray rfl rfl (by rw [hZw3.out]; exact HTw3.out) (by rw [List.size_toArray]; exact rec_info _) (rec_one _) ?_) | fail)
  rw [hZw3.out, hSw3.out]
  clear hZw3 hSw3 HTw3
  refine (toByteS_own a cap zs w3 (hr.below BW) (by omega)).mono ?_
  rintro e w4 ⟨b4, c4, rfl, ho4, hb4⟩
  have ox := ho4.spanned
  have hc4 := ho4.len_cap
  clear ho4
  replace bx3 := bx3.below hb4 bx3.lt
  replace ow := ow.below hb4
  replace BW := BW.trans (hb4.mono BW.size)
  have s4 := hb4.size
  go_wp2_with fail
  refine (HIM.out b4 c4 w4 (hg.keep BW) ox.reads hc4).mono ?_
  rintro e w5 ⟨tg, rfl, HVG, og, hb5⟩
  replace bx3 := bx3.below hb5 bx3.lt
  replace ow := ow.below hb5
  replace ox := ox.below hb5
  replace BW := BW.trans (hb5.mono BW.size)
  have s5 := hb5.size
  obtain ⟨Zw6, hZw6, bZw6, hbZw6, _⟩ := boxes1 w5 [.int .i64 0, .int .i64 0, .int .i64 0, .int .i64 0, .int .i64 0, .bool false, .int .i64 0, .slice none 0 0, .slice none 0 0, .bool false, .int .i64 0, .slice none 0 0, .slice none 0 0, .int .i64 0, .slice none 0 0] 30
  obtain ⟨w6, hSw6, hww6, hzw6, HTw6, _, bx6⟩ := rec_out tg [.int .i64 0, .int .i64 0, .int .i64 0, .int .i64 0, .int .i64 0, .bool false, .int .i64 0, .slice none 0 0, .slice none 0 0, .bool false, .int .i64 0, .slice none 0 0, .slice none 0 0, .int .i64 0, .slice none 0 0] rfl bZw6
  have hbw6 : Below w5.heap.size w5 w6 := hbZw6.trans (hww6.below (Nat.le_refl _) (by have := hbZw6.size; omega))
  clear bZw6 hbZw6 hww6 hzw6
  replace bx3 := bx3.below hbw6 bx3.lt
  replace ow := ow.below hbw6
  replace ox := ox.below hbw6
  replace og := og.below hbw6
  replace BW := BW.trans (hbw6.mono BW.size)
  have sw6 := hbw6.size
  have lw6 := bx6.lt
  have HGW : Hid (tw.v = tg.v) := HVW.out.trans HVG.out.symm
  have hgS : tg.short 1048576 := HSH.out tg HVG.out
  have hkk : (PK != PK) = false := by simp
  go_wp2_with (first | (guard_target = wpList _ _ _ (Oper.mk none (Op.store _ (Operand.tmp 6) _) _ _ _ _ :: _) _ _; refine wpList_store_mid rfl 30 (.tmp 6) (.tmp 27) rfl w5.heap.size 0 tg.cells.toArray rfl rfl (by rw [hZw6.out]; exact HTw6.out) (by rw [List.size_toArray]; exact rec_info _) (rec_one _) ?_) | (guard_target = wpList _ _ _ (Oper.mk (some 29) _ _ _ _ _ :: _) _ _; refine wpList_load_mid rfl 30 (.tmp 6) rfl w5.heap.size 0 rfl tg.cells _ (by rw [hZw6.out, hSw6.out]; exact rec_rng2 tg bx6) Tryz.underlying30 rfl (rec_info _) ?_) | (guard_target = wpList _ _ _ (Oper.mk (some 30) _ _ _ _ _ :: _) _ _; refine wpList_load_mid rfl 30 (.tmp 3) rfl w2.heap.size 0 rfl tw.cells _ (by rw [hZw6.out, hSw6.out]; exact rec_rng2 tw bx3) Tryz.underlying30 rfl (rec_info _) ?_) | fail)
  rw [hZw6.out, hSw6.out]
  clear hZw6 hSw6 HTw6
  refine (eqRec_same tg tw HGW.out w6 og.reads ow.reads (short_wide hgS)).mono ?_
  rintro e w7 ⟨rfl, hb7⟩
  replace bx3 := bx3.below hb7 bx3.lt
  replace bx6 := bx6.below hb7 bx6.lt
  replace ow := ow.below hb7
  replace ox := ox.below hb7
  replace og := og.below hb7
  replace BW := BW.trans (hb7.mono BW.size)
  have s7 := hb7.size
  go_wp2_with fail
  refine (toByteS_own a cap zs w7 (hr.below BW) (by omega)).mono ?_
  rintro e w8 ⟨b8, c8, rfl, ho8, hb8⟩
  replace bx3 := bx3.below hb8 bx3.lt
  replace bx6 := bx6.below hb8 bx6.lt
  replace ow := ow.below hb8
  replace ox := ox.below hb8
  replace og := og.below hb8
  replace BW := BW.trans (hb8.mono BW.size)
  have s8 := hb8.size
  go_wp2_with fail
  refine (eqByteS_same b4 b8 c4 c8 zs w8 ox.reads ho8.reads (by omega)).mono ?_
  rintro e w9 ⟨rfl, n9, hn9⟩
  have hb9 : Below w8.heap.size w8 w9 := by rw [hn9]; exact below_drewN (Below.refl _ _) n9
  clear hn9 ho8
  replace bx3 := bx3.below hb9 bx3.lt
  replace bx6 := bx6.below hb9 bx6.lt
  replace ow := ow.below hb9
  replace ox := ox.below hb9
  replace og := og.below hb9
  replace BW := BW.trans (hb9.mono BW.size)
  have s9 := hb9.size
  go_wp2_with fail
  refine (markByteS_r w3.heap.size w4.heap.size b4 c4 1 zs w9 ox (by omega) (by omega)).mono ?_
  rintro e w10 ⟨mg, rfl, hmg, omg, hw10⟩
  have s10 := hw10.size
  replace bx3 := bx3.within hw10 (by omega)
  replace bx6 := bx6.within hw10 (by omega)
  replace ow := ow.within hw10 (by omega)
  replace og := og.within hw10 (by omega)
  replace BW := BW.trans (hw10.below (by have := BW.size; omega) (by have := BW.size; omega))
  clear hw10 ox hmg omg
  have hcn : ¬ ((1 : Int) + (zs.length : Int)) < 0 := by omega
  go_wp2_with (first | (guard_target = wpList _ _ _ (Oper.mk (some 49) _ _ _ _ _ :: _) _ _; refine wpList_load_mid_if (by rfl) 30 (.tmp 6) rfl w5.heap.size 0 rfl tg.cells _ (rec_rng2 tg bx6) Tryz.underlying30 rfl (rec_info _) ?_) | (guard_target = wpList _ _ _ (Oper.mk (some 50) _ _ _ _ _ :: _) _ _; refine wpList_load_mid_if (by rfl) 30 (.tmp 3) rfl w2.heap.size 0 rfl tw.cells _ (rec_rng2 tw bx3) Tryz.underlying30 rfl (rec_info _) ?_) | fail)
  refine (eqRec_same tg tw HGW.out w10 og.reads ow.reads (short_wide hgS)).mono ?_
  rintro e w11 ⟨rfl, hb11⟩
  replace bx3 := bx3.below hb11 bx3.lt
  replace bx6 := bx6.below hb11 bx6.lt
  replace ow := ow.below hb11
  replace og := og.below hb11
  replace BW := BW.trans (hb11.mono BW.size)
  have s11 := hb11.size
  go_wp2_with (first | (guard_target = wpList _ _ _ (Oper.mk (some 59) _ _ _ _ _ :: _) _ _; refine wpList_load_mid rfl 30 (.tmp 6) rfl w5.heap.size 0 rfl tg.cells _ (rec_rng2 tg bx6) Tryz.underlying30 rfl (rec_info _) ?_) | fail)
  refine (markRec_touch tg w4.heap.size w5.heap.size 1 w11 og (short_wide hgS) (by omega) (by omega)).mono ?_
  rintro e w12 ⟨rfl, og12, ht12⟩
  have hw12 : Within w4.heap.size w5.heap.size w11 w12 := ht12.within og.blocks_lt
  have s12 := hw12.size
  replace bx3 := bx3.within hw12 (by omega)
  replace bx6 := bx6.within hw12 (by omega)
  replace ow := ow.within hw12 (by omega)
  replace BW := BW.trans (hw12.below (by have := BW.size; omega) (by have := BW.size; omega))
  clear ht12 hw12 og
  go_wp2_with (first | (guard_target = wpList _ _ _ (Oper.mk (some 62) _ _ _ _ _ :: _) _ _; refine wpList_load_mid rfl 30 (.tmp 6) rfl w5.heap.size 0 rfl tg.cells _ (rec_rng2 tg bx6) Tryz.underlying30 rfl (rec_info _) ?_) | fail)
  refine (heldRec_any tg w4.heap.size w5.heap.size 1 w12 og12 (short_wide hgS) (by omega) (by omega)).mono ?_
  rintro e w13 ⟨rfl, hb13⟩
  replace bx3 := bx3.below hb13 bx3.lt
  replace bx6 := bx6.below hb13 bx6.lt
  replace ow := ow.below hb13
  replace og12 := og12.below hb13
  replace BW := BW.trans (hb13.mono BW.size)
  have s13 := hb13.size
  have hcn2 : ¬ ((1 : Int) + (tg.count : Int)) < 0 := by omega
  go_wp2_with fail
  refine (toByteS_own a cap zs w13 (hr.below BW) (by omega)).mono ?_
  rintro e w14 ⟨b14, c14, rfl, ho14, hb14⟩
  replace bx3 := bx3.below hb14 bx3.lt
  replace bx6 := bx6.below hb14 bx6.lt
  replace ow := ow.below hb14
  replace og12 := og12.below hb14
  replace BW := BW.trans (hb14.mono BW.size)
  have s14 := hb14.size
  go_wp2_with fail
  refine (HIM.out b14 c14 w14 (hg.keep BW) ho14.reads ho14.len_cap).mono ?_
  rintro e w15 ⟨th, rfl, HVH, oh, hb15⟩
  clear ho14
  replace bx3 := bx3.below hb15 bx3.lt
  replace bx6 := bx6.below hb15 bx6.lt
  replace ow := ow.below hb15
  replace og12 := og12.below hb15
  replace BW := BW.trans (hb15.mono BW.size)
  have s15 := hb15.size
  obtain ⟨Zw16, hZw16, bZw16, hbZw16, _⟩ := boxes1 w15 [.int .i64 0, .int .i64 0, .int .i64 0, .int .i64 0, .int .i64 0, .bool false, .int .i64 0, .slice none 0 0, .slice none 0 0, .bool false, .int .i64 0, .slice none 0 0, .slice none 0 0, .int .i64 0, .slice none 0 0] 30
  obtain ⟨w16, hSw16, hww16, hzw16, HTw16, _, bx11⟩ := rec_out th [.int .i64 0, .int .i64 0, .int .i64 0, .int .i64 0, .int .i64 0, .bool false, .int .i64 0, .slice none 0 0, .slice none 0 0, .bool false, .int .i64 0, .slice none 0 0, .slice none 0 0, .int .i64 0, .slice none 0 0] rfl bZw16
  have hbw16 : Below w15.heap.size w15 w16 := hbZw16.trans (hww16.below (Nat.le_refl _) (by have := hbZw16.size; omega))
  clear bZw16 hbZw16 hww16 hzw16
  replace bx3 := bx3.below hbw16 bx3.lt
  replace bx6 := bx6.below hbw16 bx6.lt
  replace ow := ow.below hbw16
  replace og12 := og12.below hbw16
  replace oh := oh.below hbw16
  replace BW := BW.trans (hbw16.mono BW.size)
  have sw16 := hbw16.size
  have lw16 := bx11.lt
  have HHW : Hid (tw.v = th.v) := HVW.out.trans HVH.out.symm
  have hhS : th.short 1048576 := HSH.out th HVH.out
  go_wp2_with (first | (guard_target = wpList _ _ _ (Oper.mk none (Op.store _ (Operand.tmp 11) _) _ _ _ _ :: _) _ _; refine wpList_store_mid rfl 30 (.tmp 11) (.tmp 74) rfl w15.heap.size 0 th.cells.toArray rfl rfl (by rw [hZw16.out]; exact HTw16.out) (by rw [List.size_toArray]; exact rec_info _) (rec_one _) ?_) | (guard_target = wpList _ _ _ (Oper.mk (some 76) _ _ _ _ _ :: _) _ _; refine wpList_load_mid rfl 30 (.tmp 11) rfl w15.heap.size 0 rfl th.cells _ (by rw [hZw16.out, hSw16.out]; exact rec_rng2 th bx11) Tryz.underlying30 rfl (rec_info _) ?_) | (guard_target = wpList _ _ _ (Oper.mk (some 77) _ _ _ _ _ :: _) _ _; refine wpList_load_mid rfl 30 (.tmp 3) rfl w2.heap.size 0 rfl tw.cells _ (by rw [hZw16.out, hSw16.out]; exact rec_rng2 tw bx3) Tryz.underlying30 rfl (rec_info _) ?_) | fail)
  rw [hZw16.out, hSw16.out]
  clear hZw16 hSw16 HTw16
  refine (eqRec_same th tw HHW.out w16 oh.reads ow.reads (short_wide hhS)).mono ?_
  rintro e w17 ⟨rfl, hb17⟩
  replace bx3 := bx3.below hb17 bx3.lt
  replace bx6 := bx6.below hb17 bx6.lt
  replace bx11 := bx11.below hb17 bx11.lt
  replace ow := ow.below hb17
  replace og12 := og12.below hb17
  replace oh := oh.below hb17
  replace BW := BW.trans (hb17.mono BW.size)
  have s17 := hb17.size
  go_wp2_with (first | (guard_target = wpList _ _ _ (Oper.mk (some 85) _ _ _ _ _ :: _) _ _; refine wpList_load_mid rfl 30 (.tmp 6) rfl w5.heap.size 0 rfl tg.cells _ (rec_rng2 tg bx6) Tryz.underlying30 rfl (rec_info _) ?_) | fail)
  refine (heldRec_any tg w4.heap.size w5.heap.size 1 w17 og12 (short_wide hgS) (by omega) (by omega)).mono ?_
  rintro e w18 ⟨rfl, hb18⟩
  replace BW := BW.trans (hb18.mono BW.size)
  go_wp2
  go_ret
  exact ⟨rfl, BW⟩
end Go.Proofs.YtjaojcgfgkppgaaGreatDoor
