/- Several texts in one, in their order. -/
import Derived.Test.YtbpdocjkhmiimabGreatDoorPReadLogx34
import Derived.Test.YtbpdocjkhmiimabGreatDoorPReadLogx35
import Derived.Test.YtbpdocjkhmiimabGreatDoorPReadLogx28
import Derived.Test.YtbpdocjkhmiimabGreatDoorPReadLogx22
import Derived.Test.YtbpdocjkhmiimabGreatDoorPReadLogx32
/- The walks of impl.readRec and impl.GetRec. -/
namespace Go.Proofs.YtbpdocjkhmiimabGreatDoor
open Go.RowKit

theorem readR_n0 {zs : List Int} (h : numsAt zs 6 0 = none) : readR zs = none := by unfold readR; rw [h]
theorem readR_n1 {zs : List Int} {n t v k o x : Int} {p : Nat} (h : numsAt zs 6 0 = some ([n, t, v, k, o, x], p)) (h1 : slotAt zs p = none) : readR zs = none := by unfold readR; rw [h]; simp only; rw [h1]
theorem readR_n2 {zs : List Int} {n t v k o x : Int} {p q : Nat} {b : SlotV} (h : numsAt zs 6 0 = some ([n, t, v, k, o, x], p)) (h1 : slotAt zs p = some (b, q)) (h2 : slotAt zs q = none) : readR zs = none := by unfold readR; rw [h]; simp only; rw [h1]; simp only; rw [h2]
theorem readR_n3 {zs : List Int} {n t v k o x : Int} {p q s : Nat} {b a : SlotV} (h : numsAt zs 6 0 = some ([n, t, v, k, o, x], p)) (h1 : slotAt zs p = some (b, q)) (h2 : slotAt zs q = some (a, s)) (h3 : countAt zs s = none) : readR zs = none := by unfold readR; rw [h]; simp only; rw [h1]; simp only; rw [h2]; simp only; rw [h3]
theorem readR_n4 {zs : List Int} {n t v k o x : Int} {p q s z : Nat} {b a : SlotV} {l : List LiveV} (h : numsAt zs 6 0 = some ([n, t, v, k, o, x], p)) (h1 : slotAt zs p = some (b, q)) (h2 : slotAt zs q = some (a, s)) (h3 : countAt zs s = some (l, z)) (h4 : ¬ z = zs.length) : readR zs = none := by unfold readR; rw [h]; simp only; rw [h1]; simp only; rw [h2]; simp only; rw [h3]; simp only; rw [if_neg h4]
theorem six_set {w : World} {C : Nat} {T : TypeId} (b : Box w C [.int .i64 0, .int .i64 0, .int .i64 0, .int .i64 0, .int .i64 0, .bool false, .int .i64 0, .slice none 0 0, .slice none 0 0, .bool false, .int .i64 0, .slice none 0 0, .slice none 0 0, .int .i64 0, .slice none 0 0] T) (n t v k o x : Int) : Box (setAll w [(C, 0), (C, 1), (C, 2), (C, 3), (C, 4), (C, 13)] [n, t, v, k, o, x]) C [.int .i64 n, .int .i64 t, .int .i64 v, .int .i64 k, .int .i64 o, .bool false, .int .i64 0, .slice none 0 0, .slice none 0 0, .bool false, .int .i64 0, .slice none 0 0, .slice none 0 0, .int .i64 x, .slice none 0 0] T :=
  (((((b.set 0 (.int .i64 n)).set 1 (.int .i64 t)).set 2 (.int .i64 v)).set 3 (.int .i64 k)).set 4 (.int .i64 o)).set 13 (.int .i64 x)
def RecAns (w' : World) (lo : Nat) (x : Option RecV) (e : Ending) : Prop := match x with
  | some r => ∃ t : RecA, e = .returned (.tuple #[.agg t.cells.toArray, .bool true]) ∧ t.v = r ∧ t.own w' lo w'.heap.size
  | none => ∃ t : RecA, e = .returned (.tuple #[.agg t.cells.toArray, .bool false])
theorem recAns_none {w' : World} {lo : Nat} {x : Option RecV} (h : x = none) (t : RecA) : RecAns w' lo x (.returned (.tuple #[.agg t.cells.toArray, .bool false])) := by subst h; exact ⟨t, rfl⟩
theorem recAns_some {w' : World} {lo : Nat} {x : Option RecV} {r : RecV} (h : x = some r) (t : RecA) (hv : t.v = r) (ho : t.own w' lo w'.heap.size) : RecAns w' lo x (.returned (.tuple #[.agg t.cells.toArray, .bool true])) := by subst h; exact ⟨t, rfl, hv, ho⟩

set_option maxHeartbeats 8000000 in
set_option maxRecDepth 100000 in
theorem readRec_any (a : Option Addr) (c : Nat) (zs : List Int) (w : World) (hg : ErrT w) (hr : Reads w a zs) (hl : zs.length ≤ 1099511627776) (hcap : zs.length ≤ c) :
    Calls Tryz.prog 122 #[.slice a zs.length c] w fun e w' => RecAns w' w.heap.size (readR zs) e ∧ Below w.heap.size w w' := by
  obtain ⟨W, hW, bR, bC, hbW, hsW⟩ := boxes2 w [.int .i64 0, .int .i64 0, .int .i64 0, .int .i64 0, .int .i64 0, .bool false, .int .i64 0, .slice none 0 0, .slice none 0 0, .bool false, .int .i64 0, .slice none 0 0, .slice none 0 0, .int .i64 0, .slice none 0 0] [.int .i64 0, .int .i64 0, .int .i64 0, .int .i64 0, .int .i64 0, .bool false, .int .i64 0, .slice none 0 0, .slice none 0 0, .bool false, .int .i64 0, .slice none 0 0, .slice none 0 0, .int .i64 0, .slice none 0 0] 59 59
  obtain ⟨W2, hW2, bP, hbW2, hsW2⟩ := boxes1 W [.pointer (some ⟨w.heap.size + 1, 0, none⟩), .pointer (some ⟨w.heap.size + 1, 1, none⟩), .pointer (some ⟨w.heap.size + 1, 2, none⟩), .pointer (some ⟨w.heap.size + 1, 3, none⟩), .pointer (some ⟨w.heap.size + 1, 4, none⟩), .pointer (some ⟨w.heap.size + 1, 13, none⟩)] 161
  have bR2 := bR.below hbW2 bR.lt
  have bC2 := bC.below hbW2 bC.lt
  have hltC := bC.lt
  have sW2 := hbW2.size
  have B2 : Below w.heap.size w W2 := hbW.trans (hbW2.mono hbW.size)
  have hP3 : W.heap.size = w.heap.size + 1 + 1 := by omega
  rw [hP3] at bP
  have hltP := bP.lt
  have hrl : ∀ u, Within (w.heap.size + 1) (w.heap.size + 2) W2 u → Reads u a zs := fun u hu => hr.below (B2.trans (hu.below (by omega) B2.size))
  have CI := readInts_any a c zs 0 (w.heap.size + 1 + 1) 6 (w.heap.size + 1) (w.heap.size + 2) [(w.heap.size + 1, 0), (w.heap.size + 1, 1), (w.heap.size + 1, 2), (w.heap.size + 1, 3), (w.heap.size + 1, 4), (w.heap.size + 1, 13)] W2 hrl (by omega) hcap (by simp) 161 bP (by omega) (by
    intro x hx
    simp only [List.mem_cons, List.not_mem_nil, or_false] at hx
    rcases hx with rfl | rfl | rfl | rfl | rfl | rfl
    · exact ⟨⟨by omega, by omega⟩, by rw [bC2.cell 0 _ rfl]; rfl, bC2.frozen 0⟩
    · exact ⟨⟨by omega, by omega⟩, by rw [bC2.cell 1 _ rfl]; rfl, bC2.frozen 1⟩
    · exact ⟨⟨by omega, by omega⟩, by rw [bC2.cell 2 _ rfl]; rfl, bC2.frozen 2⟩
    · exact ⟨⟨by omega, by omega⟩, by rw [bC2.cell 3 _ rfl]; rfl, bC2.frozen 3⟩
    · exact ⟨⟨by omega, by omega⟩, by rw [bC2.cell 4 _ rfl]; rfl, bC2.frozen 4⟩
    · exact ⟨⟨by omega, by omega⟩, by rw [bC2.cell 13 _ rfl]; rfl, bC2.frozen 13⟩)
  simp only [List.length_cons, List.length_nil, Nat.zero_add, Nat.reduceAdd, Int.natCast_zero] at CI
  have H0 : Hid (numsAt zs 6 0 = none → readR zs = none) := fun h => readR_n0 h
  have H1 : Hid (∀ n t v k o x p, numsAt zs 6 0 = some ([n, t, v, k, o, x], p) → slotAt zs p = none → readR zs = none) := fun _ _ _ _ _ _ _ h h1 => readR_n1 h h1
  have H2 : Hid (∀ n t v k o x p b q, numsAt zs 6 0 = some ([n, t, v, k, o, x], p) → slotAt zs p = some (b, q) → slotAt zs q = none → readR zs = none) := fun _ _ _ _ _ _ _ _ _ h h1 h2 => readR_n2 h h1 h2
  have H3 : Hid (∀ n t v k o x p b q b' s, numsAt zs 6 0 = some ([n, t, v, k, o, x], p) → slotAt zs p = some (b, q) → slotAt zs q = some (b', s) → countAt zs s = none → readR zs = none) := fun _ _ _ _ _ _ _ _ _ _ _ h h1 h2 h3 => readR_n3 h h1 h2 h3
  have H4 : Hid (∀ n t v k o x p b q b' s l z, numsAt zs 6 0 = some ([n, t, v, k, o, x], p) → slotAt zs p = some (b, q) → slotAt zs q = some (b', s) → countAt zs s = some (l, z) → ¬ z = zs.length → readR zs = none) := fun _ _ _ _ _ _ _ _ _ _ _ _ _ h h1 h2 h3 h4 => readR_n4 h h1 h2 h3 h4
  have H5 : Hid (∀ n t v k o x p b q b' s l, numsAt zs 6 0 = some ([n, t, v, k, o, x], p) → slotAt zs p = some (b, q) → slotAt zs q = some (b', s) → countAt zs s = some (l, zs.length) → readR zs = some ⟨n, t, v, k, o, b, b', x, l⟩) := fun _ _ _ _ _ _ _ _ _ _ _ _ h h1 h2 h3 => readR_eq h h1 h2 h3
  have HS6 : Hid (∀ n t v k o x, _) := fun n t v k o x => six_set bC2 n t v k o x
  generalize readR zs = XX at *
  clear hP3 hsW hsW2 bC bR bC2 bP
  go_enter Tryz.func122, Tryz.ntmps122
  go_wp2_with fail
  rw [hW.out, hW2.out]
  clear hW hW2
  refine CI.mono ?_
  clear CI
  rintro e w3 ⟨hans, hw3⟩
  have bR3 := bR2.within hw3 (by omega)
  have B3 : Below w.heap.size w w3 := B2.trans (hw3.below (by omega) (by omega))
  have s3 := hw3.size
  cases hn : numsAt zs 6 0 with
  | none =>
    have HX : Hid (XX = none) := H0.out hn
    rw [hn] at hans
    obtain ⟨rfl, _⟩ := hans
    clear H0 H1 H2 H3 H4 H5 HS6 hn
    obtain ⟨WF, hWF, hwF, hsF, HTF, HLF, _⟩ := rec_out zeroR _ rfl bR3
    have HB : Hid (Below w.heap.size w WF) := (B3).trans (hwF.below (Nat.le_refl _) (B3).size)
    clear hwF hsF
    go_wp2_with (first | (guard_target = wpList _ _ _ (Oper.mk none (Op.store _ (Operand.tmp 2) _) _ _ _ _ :: _) _ _; refine wpList_store_mid rfl 59 (.tmp 2) (.tmp 21) rfl w.heap.size 0 zeroR.cells.toArray rfl rfl HTF.out (by rw [List.size_toArray]; exact rec_info _) (rec_one _) ?_) | fail)
    rw [hWF.out]
    exact bodyPost_ret (v := .tuple #[.agg zeroR.cells.toArray, .bool false]) (results_cell_flag Tryz.results122 rfl HLF.out rfl) rfl ⟨recAns_none HX.out zeroR, HB.out⟩
  | some g =>
  obtain ⟨l, p⟩ := g
  rw [hn] at hans
  obtain ⟨rfl, hwe, hll⟩ := hans
  have hll' : l.length = 6 := hll
  match l, hll' with
  | [n, t, v, k, o, x], _ =>
  have bC3 := HS6.out n t v k o x
  have hwe' : w3 = setAll W2 [(w.heap.size + 1, 0), (w.heap.size + 1, 1), (w.heap.size + 1, 2), (w.heap.size + 1, 3), (w.heap.size + 1, 4), (w.heap.size + 1, 13)] [n, t, v, k, o, x] := hwe
  rw [← hwe'] at bC3
  clear hwe hwe' HS6 H0 hll bR2 hw3
  go_wp2_with fail
  refine (readSlot_any a c zs p w3 (hg.keep B3) (hr.below B3) hl hcap).mono ?_
  rintro e w4 ⟨hans, hb4⟩
  have B4 : Below w.heap.size w w4 := B3.trans (hb4.mono B3.size)
  have bR4 := bR3.below hb4 bR3.lt
  have bC4 := bC3.below hb4 bC3.lt
  have s4 := hb4.size
  clear bC3 bR3
  cases h1 : slotAt zs p with
  | none =>
    have HX : Hid (XX = none) := H1.out _ _ _ _ _ _ _ hn h1
    rw [h1] at hans
    simp only [SlotAns, SlotA.cells, zeroS] at hans
    obtain rfl := hans
    clear H1 H2 H3 H4 H5 hn h1
    have x5 := bC4.cell 5 _ rfl
    have xf5 := bC4.frozen 5
    have x6 := bC4.cell 6 _ rfl
    have xf6 := bC4.frozen 6
    have x7 := bC4.cell 7 _ rfl
    have xf7 := bC4.frozen 7
    have x8 := bC4.cell 8 _ rfl
    have xf8 := bC4.frozen 8
    obtain ⟨W5, hW5, b5, hw5, hs5⟩ := box_quad bC4 5 6 7 8 (.bool false) (.int .i64 0) (.slice none 0 0) (.slice none 0 0)
    have B5 : Below w.heap.size w W5 := B4.trans (hw5.below (by omega) (by omega))
    have bR5 := bR4.within hw5 (by omega)
    obtain ⟨WF, hWF, hwF, hsF, HTF, HLF, _⟩ := rec_out zeroR _ rfl bR5
    have HB : Hid (Below w.heap.size w WF) := (B5).trans (hwF.below (Nat.le_refl _) (B5).size)
    clear hwF hsF
    clear hw5 b5 bC4 bR4
    simp only [List.length_nil]
    go_wp2_with (first | (guard_target = wpList _ _ _ (Oper.mk none (Op.store _ (Operand.tmp 2) _) _ _ _ _ :: _) _ _; refine wpList_store_mid rfl 59 (.tmp 2) (.tmp 32) rfl w.heap.size 0 zeroR.cells.toArray rfl rfl (by rw [hW5.out]; exact HTF.out) (by rw [List.size_toArray]; exact rec_info _) (rec_one _) ?_) | fail)
    rw [hW5.out, hWF.out]
    exact bodyPost_ret (v := .tuple #[.agg zeroR.cells.toArray, .bool false]) (results_cell_flag Tryz.results122 rfl HLF.out rfl) rfl ⟨recAns_none HX.out zeroR, HB.out⟩
  | some g =>
  obtain ⟨sv1, q1⟩ := g
  rw [h1] at hans
  obtain ⟨t1, rfl, hv1, ho1⟩ := hans
  have HV1 : Hid (t1.v = sv1) := hv1
  clear hv1
  simp only [SlotA.cells]
  have x5 := bC4.cell 5 _ rfl
  have xf5 := bC4.frozen 5
  have x6 := bC4.cell 6 _ rfl
  have xf6 := bC4.frozen 6
  have x7 := bC4.cell 7 _ rfl
  have xf7 := bC4.frozen 7
  have x8 := bC4.cell 8 _ rfl
  have xf8 := bC4.frozen 8
  obtain ⟨W5, hW5, b5, hw5, hs5⟩ := box_quad bC4 5 6 7 8 (.bool t1.v.has) (.int .i64 t1.v.o.kind) (.slice t1.aI t1.v.o.ints.length t1.cI) (.slice t1.aR t1.v.o.refs.length t1.cR)
  simp only [List.set] at b5
  have B5 : Below w.heap.size w W5 := B4.trans (hw5.below (by omega) (by omega))
  have bR5 := bR4.within hw5 (by omega)
  have o15 : t1.own W5 w3.heap.size w4.heap.size := OwnO.within ho1 hw5 (by omega)
  clear hw5 bC4 bR4 H1 ho1
  go_wp2_with fail
  rw [hW5.out]
  clear hW5 x5 xf5 x6 xf6 x7 xf7 x8 xf8
  refine (readSlot_any a c zs q1 W5 (hg.keep B5) (hr.below B5) hl hcap).mono ?_
  rintro e w6 ⟨hans, hb6⟩
  have B6 : Below w.heap.size w w6 := B5.trans (hb6.mono B5.size)
  have bR6 := bR5.below hb6 bR5.lt
  have bC6 := b5.below hb6 b5.lt
  have o16 := OwnO.below o15 hb6
  have s6 := hb6.size
  clear b5 bR5 o15
  cases h2 : slotAt zs q1 with
  | none =>
    have HX : Hid (XX = none) := H2.out _ _ _ _ _ _ _ _ _ hn h1 h2
    rw [h2] at hans
    simp only [SlotAns, SlotA.cells, zeroS] at hans
    obtain rfl := hans
    clear H2 H3 H4 H5 hn h1 h2
    have x9 := bC6.cell 9 _ rfl
    have xf9 := bC6.frozen 9
    have x10 := bC6.cell 10 _ rfl
    have xf10 := bC6.frozen 10
    have x11 := bC6.cell 11 _ rfl
    have xf11 := bC6.frozen 11
    have x12 := bC6.cell 12 _ rfl
    have xf12 := bC6.frozen 12
    obtain ⟨W7, hW7, b7, hw7, hs7⟩ := box_quad bC6 9 10 11 12 (.bool false) (.int .i64 0) (.slice none 0 0) (.slice none 0 0)
    have B7 : Below w.heap.size w W7 := B6.trans (hw7.below (by omega) (by omega))
    have bR7 := bR6.within hw7 (by omega)
    obtain ⟨WF, hWF, hwF, hsF, HTF, HLF, _⟩ := rec_out zeroR _ rfl bR7
    have HB : Hid (Below w.heap.size w WF) := (B7).trans (hwF.below (Nat.le_refl _) (B7).size)
    clear hwF hsF
    clear hw7 b7 bC6 bR6
    simp only [List.length_nil]
    go_wp2_with (first | (guard_target = wpList _ _ _ (Oper.mk none (Op.store _ (Operand.tmp 2) _) _ _ _ _ :: _) _ _; refine wpList_store_mid rfl 59 (.tmp 2) (.tmp 43) rfl w.heap.size 0 zeroR.cells.toArray rfl rfl (by rw [hW7.out]; exact HTF.out) (by rw [List.size_toArray]; exact rec_info _) (rec_one _) ?_) | fail)
    rw [hW7.out, hWF.out]
    exact bodyPost_ret (v := .tuple #[.agg zeroR.cells.toArray, .bool false]) (results_cell_flag Tryz.results122 rfl HLF.out rfl) rfl ⟨recAns_none HX.out zeroR, HB.out⟩
  | some g =>
  obtain ⟨sv2, q2⟩ := g
  rw [h2] at hans
  obtain ⟨t2, rfl, hv2, ho2⟩ := hans
  have HV2 : Hid (t2.v = sv2) := hv2
  clear hv2
  simp only [SlotA.cells]
  have x9 := bC6.cell 9 _ rfl
  have xf9 := bC6.frozen 9
  have x10 := bC6.cell 10 _ rfl
  have xf10 := bC6.frozen 10
  have x11 := bC6.cell 11 _ rfl
  have xf11 := bC6.frozen 11
  have x12 := bC6.cell 12 _ rfl
  have xf12 := bC6.frozen 12
  obtain ⟨W7, hW7, b7, hw7, hs7⟩ := box_quad bC6 9 10 11 12 (.bool t2.v.has) (.int .i64 t2.v.o.kind) (.slice t2.aI t2.v.o.ints.length t2.cI) (.slice t2.aR t2.v.o.refs.length t2.cR)
  simp only [List.set] at b7
  have B7 : Below w.heap.size w W7 := B6.trans (hw7.below (by omega) (by omega))
  have bR7 := bR6.within hw7 (by omega)
  have o17 := OwnO.within o16 hw7 (by omega)
  have o27 : t2.own W7 W5.heap.size w6.heap.size := OwnO.within ho2 hw7 (by omega)
  clear hw7 bC6 bR6 H2 ho2 o16
  go_wp2_with fail
  rw [hW7.out]
  clear hW7 x9 xf9 x10 xf10 x11 xf11 x12 xf12
  refine (readLives_any a c zs q2 W7 (hr.below B7) (by omega) hcap).mono ?_
  rintro e w8 ⟨hans, hb8⟩
  have B8 : Below w.heap.size w w8 := B7.trans (hb8.mono B7.size)
  have bR8 := bR7.below hb8 bR7.lt
  have bC8 := b7.below hb8 b7.lt
  have o18 := OwnO.below o17 hb8
  have o28 := OwnO.below o27 hb8
  have s8 := hb8.size
  clear b7 bR7 o17 o27
  have x14 := bC8.cell 14 _ rfl
  have xf14 := bC8.frozen 14
  cases h3 : countAt zs q2 with
  | none =>
    have HX : Hid (XX = none) := H3.out _ _ _ _ _ _ _ _ _ _ _ hn h1 h2 h3
    rw [h3] at hans
    simp only [LivesAns] at hans
    obtain rfl := hans
    clear H3 H4 H5 hn h1 h2 h3
    obtain ⟨W9, hW9, b9, hw9, hs9⟩ := box_set bC8 14 (.slice none 0 0)
    have B9 : Below w.heap.size w W9 := B8.trans (hw9.below (by omega) (by omega))
    have bR9 := bR8.within hw9 (by omega)
    obtain ⟨WF, hWF, hwF, hsF, HTF, HLF, _⟩ := rec_out zeroR _ rfl bR9
    have HB : Hid (Below w.heap.size w WF) := (B9).trans (hwF.below (Nat.le_refl _) (B9).size)
    clear hwF hsF
    clear hw9 b9 bC8 bR8
    go_wp2_with (first | (guard_target = wpList _ _ _ (Oper.mk none (Op.store _ (Operand.tmp 2) _) _ _ _ _ :: _) _ _; refine wpList_store_mid rfl 59 (.tmp 2) (.tmp 54) rfl w.heap.size 0 zeroR.cells.toArray rfl rfl (by rw [hW9.out]; exact HTF.out) (by rw [List.size_toArray]; exact rec_info _) (rec_one _) ?_) | fail)
    rw [hW9.out, hWF.out]
    exact bodyPost_ret (v := .tuple #[.agg zeroR.cells.toArray, .bool false]) (results_cell_flag Tryz.results122 rfl HLF.out rfl) rfl ⟨recAns_none HX.out zeroR, HB.out⟩
  | some g =>
  obtain ⟨ls, z⟩ := g
  rw [h3] at hans
  obtain ⟨aL, cL, rfl, oL⟩ := hans
  obtain ⟨W9, hW9, b9, hw9, hs9⟩ := box_set bC8 14 (.slice aL ls.length cL)
  simp only [List.set] at b9
  have B9 : Below w.heap.size w W9 := B8.trans (hw9.below (by omega) (by omega))
  have bR9 := bR8.within hw9 (by omega)
  have b9' : Box W9 (w.heap.size + 1) (RecA.cells ⟨n, t, v, k, o, t1, t2, x, ls, aL, cL⟩) 59 := b9
  have o19 : t1.own W9 w3.heap.size w4.heap.size := OwnO.within o18 hw9 (by omega)
  have o29 : t2.own W9 W5.heap.size w6.heap.size := OwnO.within o28 hw9 (by omega)
  have oL9 : OwnL W9 W7.heap.size w8.heap.size aL cL ls := oL.within hw9 (by omega)
  have hap : Hid ((t1.blocks ++ (t2.blocks ++ (Value.slice aL ls.length cL).ownBlock.toList)).Nodup) := rec_apart (b := W5.heap.size) (c := W7.heap.size) (OwnO.widen o19 (Nat.le_refl _) (by omega) (by omega)) (OwnO.widen o29 (Nat.le_refl _) (by omega) (by omega)) oL9 (by omega)
  have hown : RecA.own W9 w3.heap.size W9.heap.size ⟨n, t, v, k, o, t1, t2, x, ls, aL, cL⟩ := ⟨OwnO.widen o19 (by omega) (by omega) (Nat.le_refl _), OwnO.widen o29 (by omega) (by omega) (Nat.le_refl _), oL9.widen (by omega) (by omega) (Nat.le_refl _), hap.out⟩
  have hvv : Hid (RecA.v ⟨n, t, v, k, o, t1, t2, x, ls, aL, cL⟩ = ⟨n, t, v, k, o, sv1, sv2, x, ls⟩) := by simp only [Hid, RecA.v, HV1.out, HV2.out]
  have HQ : Hid (z = zs.length → XX = some ⟨n, t, v, k, o, sv1, sv2, x, ls⟩) := fun hz => H5.out _ _ _ _ _ _ _ _ _ _ _ _ hn h1 h2 (by rw [← hz]; exact h3)
  have HQ2 : Hid (¬ z = zs.length → XX = none) := fun hz => H4.out _ _ _ _ _ _ _ _ _ _ _ _ _ hn h1 h2 h3 hz
  clear hn h1 h2 h3 H3 H4 H5 o18 o28 oL bC8 bR8 hap o19 o29 oL9 HV1 HV2
  obtain ⟨WF, hWF, hwF, hsF, HTF, HLF, _⟩ := rec_out ⟨n, t, v, k, o, t1, t2, x, ls, aL, cL⟩ _ rfl bR9
  have oF : RecA.own WF w.heap.size WF.heap.size ⟨n, t, v, k, o, t1, t2, x, ls, aL, cL⟩ := (hown.within hwF (.inr (by omega))).widen (by omega) (by omega) (Nat.le_refl _)
  have HB : Hid (Below w.heap.size w WF) := B9.trans (hwF.below (Nat.le_refl _) B9.size)
  have r9 : W9.rangeAt (w.heap.size + 1) 0 (RecA.cells ⟨n, t, v, k, o, t1, t2, x, ls, aL, cL⟩) := Box.range [] _ [] (by simpa using b9')
  clear hwF hsF b9 b9' hw9 hown
  generalize hTT : ((⟨n, t, v, k, o, t1, t2, x, ls, aL, cL⟩) : RecA) = TT at *
  clear hTT
  by_cases hz : z = zs.length
  · have hzb : ((z : Int) == (zs.length : Int)) = true := by simp; omega
    have HX : Hid (XX = some _) := HQ.out hz
    clear HQ HQ2 hz
    go_wp2_with (first | (guard_target = wpList _ _ _ (Oper.mk (some 55) _ _ _ _ _ :: _) _ _; refine wpList_load_mid rfl 59 (.tmp 4) rfl (w.heap.size + 1) 0 rfl TT.cells _ (by rw [hW9.out]; exact r9) Tryz.underlying59 rfl (rec_info _) ?_) | (guard_target = wpList _ _ _ (Oper.mk none (Op.store _ (Operand.tmp 2) _) _ _ _ _ :: _) _ _; refine wpList_store_mid rfl 59 (.tmp 2) (.tmp 55) rfl w.heap.size 0 TT.cells.toArray rfl rfl (by rw [hW9.out]; exact HTF.out) (by rw [List.size_toArray]; exact rec_info _) (rec_one _) ?_) | fail)
    rw [hW9.out, hWF.out]
    exact bodyPost_ret (v := .tuple #[.agg TT.cells.toArray, .bool true]) (results_cell_flag Tryz.results122 rfl HLF.out rfl) rfl ⟨recAns_some HX.out TT hvv.out oF, HB.out⟩
  · have hzb : ((z : Int) == (zs.length : Int)) = false := by simp; omega
    have HX : Hid (XX = none) := HQ2.out hz
    clear HQ HQ2 hz
    go_wp2_with (first | (guard_target = wpList _ _ _ (Oper.mk (some 55) _ _ _ _ _ :: _) _ _; refine wpList_load_mid rfl 59 (.tmp 4) rfl (w.heap.size + 1) 0 rfl TT.cells _ (by rw [hW9.out]; exact r9) Tryz.underlying59 rfl (rec_info _) ?_) | (guard_target = wpList _ _ _ (Oper.mk none (Op.store _ (Operand.tmp 2) _) _ _ _ _ :: _) _ _; refine wpList_store_mid rfl 59 (.tmp 2) (.tmp 55) rfl w.heap.size 0 TT.cells.toArray rfl rfl (by rw [hW9.out]; exact HTF.out) (by rw [List.size_toArray]; exact rec_info _) (rec_one _) ?_) | fail)
    rw [hW9.out, hWF.out]
    exact bodyPost_ret (v := .tuple #[.agg TT.cells.toArray, .bool false]) (results_cell_flag Tryz.results122 rfl HLF.out rfl) rfl ⟨recAns_none HX.out TT, HB.out⟩

/-- What GetRec answers, by the model and by the landed code. -/
def GotR (w w' : World) (zs : List Int) (e : Ending) : Prop := ∃ t : RecA, e = .returned (.tuple #[.agg t.cells.toArray, .bool (pairR zs).2]) ∧ Hid (t.v = (pairR zs).1) ∧ t.own w' w.heap.size w'.heap.size ∧ Below w.heap.size w w'
theorem gotR_no {w w' : World} {zs : List Int} (h : pairR zs = (noR, false)) (hb : Below w.heap.size w w') : GotR w w' zs (.returned (.tuple #[.agg zeroR.cells.toArray, .bool false])) :=
  ⟨zeroR, by rw [h], by rw [h]; rfl, own_zeroR _ _ _ (Nat.le_refl _), hb⟩
theorem gotR_yes {w w' : World} {zs : List Int} {t : RecA} {r : RecV} (h : pairR zs = (r, true)) (hv : t.v = r) (ho : t.own w' w.heap.size w'.heap.size) (hb : Below w.heap.size w w') : GotR w w' zs (.returned (.tuple #[.agg t.cells.toArray, .bool true])) :=
  ⟨t, by rw [h], by rw [Hid, h]; exact hv, ho, hb⟩
theorem readR_short {zs : List Int} (hb : Bytes zs) {r : RecV} (h : readR zs = some r) {t : RecA} (hv : t.v = r) : t.short 1099511627776 := by
  obtain ⟨h1, h2, h3⟩ := readR_slots zs hb r h
  have small : ∀ s : SlotV, slotB s = true → s.o.ints.length ≤ 5 ∧ s.o.refs.length ≤ 5 := fun s hs => by
    cases hh : s.has with
    | true => rw [slotB_has hh] at hs; have := okB_bd hs; exact ⟨this.2.1, this.2.2.1⟩
    | false => rw [slotB_not hh hs]; exact ⟨Nat.zero_le _, Nat.zero_le _⟩
  subst hv
  have a1 := small _ h1
  have a2 := small _ h2
  simp only [RecA.v] at a1 a2 h3
  exact ⟨by omega, by omega, by omega⟩

set_option maxHeartbeats 4000000 in
set_option maxRecDepth 100000 in
theorem implGetRec_any (a : Option Addr) (c : Nat) (zs : List Int) (w : World) (hg : ErrT w) (hr : Reads w a zs) (hl : zs.length ≤ 1099511627776) (hcap : zs.length ≤ c) :
    Calls Tryz.prog 91 #[.slice a zs.length c] w fun e w' => GotR w w' zs e := by
  obtain ⟨W, hW, bR, hbW, hsW⟩ := boxes1 w [.int .i64 0, .int .i64 0, .int .i64 0, .int .i64 0, .int .i64 0, .bool false, .int .i64 0, .slice none 0 0, .slice none 0 0, .bool false, .int .i64 0, .slice none 0 0, .slice none 0 0, .int .i64 0, .slice none 0 0] 59
  have H0 : Hid (readR zs = none → pairR zs = (noR, false)) := fun h => pairR_none h
  have H1 : Hid (∀ r, readR zs = some r → okR r = false → pairR zs = (noR, false)) := fun r h h1 => pairR_wrong h h1
  have H2 : Hid (∀ r, readR zs = some r → okR r = true → pairR zs = (r, true)) := fun r h h1 => pairR_some hr.1 h h1
  have HSH : Hid (∀ (t : RecA) r, readR zs = some r → t.v = r → t.short 1099511627776) := fun t r h hv => readR_short hr.1 h hv
  have C := readRec_any a c zs W (hg.keep hbW) (hr.below hbW) hl hcap
  have hltR := bR.lt
  clear hsW
  go_enter Tryz.func91, Tryz.ntmps91
  go_wp2_with fail
  rw [hW.out]
  clear hW
  refine C.mono ?_
  clear C
  rintro e w1 ⟨hans, hb1⟩
  have B1 : Below w.heap.size w w1 := hbW.trans (hb1.mono hbW.size)
  have bR1 := bR.below hb1 bR.lt
  have s1 := hb1.size
  clear bR
  cases hrd : readR zs with
  | none =>
    have HP : Hid (pairR zs = (noR, false)) := H0.out hrd
    rw [hrd] at hans
    obtain ⟨t, rfl⟩ := hans
    clear H0 H1 H2 HSH hrd
    obtain ⟨Z, hZ, bZ, hbZ, _⟩ := boxes1 w1 [.int .i64 0, .int .i64 0, .int .i64 0, .int .i64 0, .int .i64 0, .bool false, .int .i64 0, .slice none 0 0, .slice none 0 0, .bool false, .int .i64 0, .slice none 0 0, .slice none 0 0, .int .i64 0, .slice none 0 0] 59
    obtain ⟨w2, hS2, hw2, hz2, HT2, _, bt⟩ := rec_out t [.int .i64 0, .int .i64 0, .int .i64 0, .int .i64 0, .int .i64 0, .bool false, .int .i64 0, .slice none 0 0, .slice none 0 0, .bool false, .int .i64 0, .slice none 0 0, .slice none 0 0, .int .i64 0, .slice none 0 0] rfl bZ
    have hb2 : Below w1.heap.size w1 w2 := hbZ.trans (hw2.below (Nat.le_refl _) (by have := hbZ.size; omega))
    have B2 : Below w.heap.size w w2 := B1.trans (hb2.mono B1.size)
    obtain ⟨WF, hWF, hwF, hsF, HTF, HLF, _⟩ := rec_out zeroR _ rfl (bR1.below hb2 bR1.lt)
    have HE : Hid (GotR w WF zs _) := gotR_no HP.out (B2.trans (hwF.below (Nat.le_refl _) B2.size))
    clear bZ hbZ hw2 hz2 hwF hsF bt bR1
    go_wp2_with (first | (guard_target = wpList _ _ _ (Oper.mk none (Op.store _ (Operand.tmp 4) _) _ _ _ _ :: _) _ _; refine wpList_store_mid rfl 59 (.tmp 4) (.tmp 9) rfl w1.heap.size 0 t.cells.toArray rfl rfl (by rw [hZ.out]; exact HT2.out) (by rw [List.size_toArray]; exact rec_info _) (rec_one _) ?_) | (guard_target = wpList _ _ _ (Oper.mk none (Op.store _ (Operand.tmp 2) _) _ _ _ _ :: _) _ _; refine wpList_store_mid rfl 59 (.tmp 2) (.tmp 18) rfl w.heap.size 0 zeroR.cells.toArray rfl rfl (by rw [hZ.out, hS2.out]; exact HTF.out) (by rw [List.size_toArray]; exact rec_info _) (rec_one _) ?_) | fail)
    rw [hZ.out, hS2.out, hWF.out]
    exact bodyPost_ret (v := .tuple #[.agg zeroR.cells.toArray, .bool false]) (results_cell_flag Tryz.results91 rfl HLF.out rfl) rfl HE.out
  | some r =>
    rw [hrd] at hans
    obtain ⟨t, rfl, hv, ho⟩ := hans
    have HV : Hid (t.v = r) := hv
    have hts := HSH.out t r hrd hv
    clear hv H0 HSH
    obtain ⟨Z, hZ, bZ, hbZ, _⟩ := boxes1 w1 [.int .i64 0, .int .i64 0, .int .i64 0, .int .i64 0, .int .i64 0, .bool false, .int .i64 0, .slice none 0 0, .slice none 0 0, .bool false, .int .i64 0, .slice none 0 0, .slice none 0 0, .int .i64 0, .slice none 0 0] 59
    obtain ⟨w2, hS2, hw2, hz2, HT2, _, bt⟩ := rec_out t [.int .i64 0, .int .i64 0, .int .i64 0, .int .i64 0, .int .i64 0, .bool false, .int .i64 0, .slice none 0 0, .slice none 0 0, .bool false, .int .i64 0, .slice none 0 0, .slice none 0 0, .int .i64 0, .slice none 0 0] rfl bZ
    have hb2 : Below w1.heap.size w1 w2 := hbZ.trans (hw2.below (Nat.le_refl _) (by have := hbZ.size; omega))
    have B2 : Below w.heap.size w w2 := B1.trans (hb2.mono B1.size)
    have ot2 := ho.below hb2
    have bR2 := bR1.below hb2 bR1.lt
    have s2 := hb2.size
    have C2 := implRecOk_any t w2 (hg.keep B2) ot2.reads hts
    rw [HV.out] at C2
    have rt : w2.rangeAt w1.heap.size 0 t.cells := Box.range [] _ [] (by simpa using bt)
    clear bZ hbZ hw2 hz2 bR1 ho
    go_wp2_with (first | (guard_target = wpList _ _ _ (Oper.mk none (Op.store _ (Operand.tmp 4) _) _ _ _ _ :: _) _ _; refine wpList_store_mid rfl 59 (.tmp 4) (.tmp 9) rfl w1.heap.size 0 t.cells.toArray rfl rfl (by rw [hZ.out]; exact HT2.out) (by rw [List.size_toArray]; exact rec_info _) (rec_one _) ?_) | (guard_target = wpList _ _ _ (Oper.mk (some 14) _ _ _ _ _ :: _) _ _; refine wpList_load_mid_if (by rfl) 59 (.tmp 4) rfl w1.heap.size 0 rfl t.cells _ (by rw [hZ.out, hS2.out]; exact rt) Tryz.underlying59 rfl (rec_info _) ?_) | fail)
    rw [hZ.out, hS2.out]
    clear hZ hS2 HT2 rt
    refine C2.mono ?_
    clear C2
    rintro e w3 ⟨rfl, hb3⟩
    have B3 : Below w.heap.size w w3 := B2.trans (hb3.mono B2.size)
    have bR3 := bR2.below hb3 bR2.lt
    have bt3 := bt.below hb3 bt.lt
    have ot3 := ot2.below hb3
    have s3 := hb3.size
    clear bR2 bt ot2
    cases hok : okR r with
    | false =>
      have HP : Hid (pairR zs = (noR, false)) := H1.out r hrd hok
      clear H1 H2 hrd hok
      obtain ⟨WF, hWF, hwF, hsF, HTF, HLF, _⟩ := rec_out zeroR _ rfl bR3
      have HE : Hid (GotR w WF zs _) := gotR_no HP.out (B3.trans (hwF.below (Nat.le_refl _) B3.size))
      clear hwF hsF
      go_wp2_with (first | (guard_target = wpList _ _ _ (Oper.mk none (Op.store _ (Operand.tmp 2) _) _ _ _ _ :: _) _ _; refine wpList_store_mid rfl 59 (.tmp 2) (.tmp 18) rfl w.heap.size 0 zeroR.cells.toArray rfl rfl HTF.out (by rw [List.size_toArray]; exact rec_info _) (rec_one _) ?_) | fail)
      rw [hWF.out]
      exact bodyPost_ret (v := .tuple #[.agg zeroR.cells.toArray, .bool false]) (results_cell_flag Tryz.results91 rfl HLF.out rfl) rfl HE.out
    | true =>
      have HP : Hid (pairR zs = (r, true)) := H2.out r hrd hok
      clear H1 H2 hrd hok
      obtain ⟨WF, hWF, hwF, hsF, HTF, HLF, _⟩ := rec_out t _ rfl bR3
      have HE : Hid (GotR w WF zs _) := gotR_yes HP.out HV.out ((ot3.within hwF (.inr (by omega))).widen (by omega) (by omega) (Nat.le_refl _)) (B3.trans (hwF.below (Nat.le_refl _) B3.size))
      have rt : w3.rangeAt w1.heap.size 0 t.cells := Box.range [] _ [] (by simpa using bt3)
      clear hwF hsF
      go_wp2_with (first | (guard_target = wpList _ _ _ (Oper.mk (some 19) _ _ _ _ _ :: _) _ _; refine wpList_load_mid rfl 59 (.tmp 4) rfl w1.heap.size 0 rfl t.cells _ rt Tryz.underlying59 rfl (rec_info _) ?_) | (guard_target = wpList _ _ _ (Oper.mk none (Op.store _ (Operand.tmp 2) _) _ _ _ _ :: _) _ _; refine wpList_store_mid rfl 59 (.tmp 2) (.tmp 19) rfl w.heap.size 0 t.cells.toArray rfl rfl HTF.out (by rw [List.size_toArray]; exact rec_info _) (rec_one _) ?_) | fail)
      rw [hWF.out]
      exact bodyPost_ret (v := .tuple #[.agg t.cells.toArray, .bool true]) (results_cell_flag Tryz.results91 rfl HLF.out rfl) rfl HE.out
end Go.Proofs.YtbpdocjkhmiimabGreatDoor
