/- Several texts in one, in their order. -/
import Derived.Test.YtoboickdkednkaaGreatDoorPFnAppendedx14
import Derived.Test.YtoboickdkednkaaGreatDoorProg
import Derived.Test.YtoboickdkednkaaGreatDoorPFnAppendedx1
import Derived.ProofKit
import Derived.OpenShut
import Derived.ChangeOld
import Derived.Test.YtoboickdkednkaaGreatDoorPFnAppendedx7
import Derived.Test.YtoboickdkednkaaGreatDoorPFnAppendedx4
import Derived.Deep.CutRange
import Derived.Test.YtoboickdkednkaaGreatDoorRows
import Derived.Test.YtoboickdkednkaaGreatDoorPFnAppendedx5
import Derived.LaidLaws
import Derived.LaidHandle
import Derived.Stop.Joined
import Derived.ChangeVars
set_option maxHeartbeats 8000000
set_option maxRecDepth 100000
namespace Go.Proofs.YtoboickdkednkaaGreatDoor
open Go.RowKit Go.Shelf
attribute [local go_sem] Oper.semAt_some
theorem OwnI.stayed {w w' : World} {lo hi : Nat} {a : Option Addr} {c : Nat} {ns : List Int} (h : OwnI w lo hi a c ns) (hs : w.heap.size ≤ w'.heap.size) (hb : ∀ k, (Value.slice a ns.length c).ownBlock = some k → w'.heap[k]? = w.heap[k]?) : OwnI w' lo hi a c ns :=
 ⟨ownsRow_block h.1 hb, Nat.le_trans h.2.1 hs, h.2.2⟩
theorem chain_appended {w V w3 : World} {B T : Nat} {r : Loop} {x : Int} {a : Option Addr} {c n lc ln : Nat} {la : Option Addr} {tx : Int} (hg : (V.alloc (.cells #[.int .i64 x] 3)).grownBy w3 (Value.slice a n c).ownBlock)
  (kV : Box V (B + 1 + 1 + 1) [.slice a n c] 32) (tV : Box V (B + 1) [.int .i64 tx] 3) (rV : Box V (B + 1 + 1 + 1 + 1) [.slice la ln lc] 24)
  (hL : V.heap[B + 1 + 1 + 1 + 1 + 1 + 1]? = some (.loop r)) (hD : V.heap[B + 1 + 1 + 1 + 1 + 1]? = some (.deferred (some []))) (BV : Below w.heap.size w V) (hB : w.heap.size ≤ B) (hT : B + 1 + 1 + 1 + 1 + 1 + 1 < T)
  (oB : ∀ k, (Value.slice a n c).ownBlock = some k → k = B + 1 + 1 ∨ T ≤ k) :
  Box w3 (B + 1 + 1 + 1) [.slice a n c] 32 ∧ Box w3 (B + 1) [.int .i64 tx] 3 ∧ Box w3 (B + 1 + 1 + 1 + 1) [.slice la ln lc] 24 ∧ w3.heap[B + 1 + 1 + 1 + 1 + 1 + 1]? = some (.loop r) ∧ w3.heap[B + 1 + 1 + 1 + 1 + 1]? = some (.deferred (some [])) ∧ Below w.heap.size w w3 ∧ V.heap.size < w3.heap.size := by
 have hA : Below V.heap.size V (V.alloc (.cells #[.int .i64 x] 3)) := (Below.refl _ _).alloc (Nat.le_refl _) _
 have hs : (V.alloc (.cells #[.int .i64 x] 3)).heap.size = V.heap.size + 1 := by simp
 have hb : ∀ k, k < V.heap.size → k ≠ B + 1 + 1 → k < T → w3.heap[k]? = V.heap[k]? := fun k hk h2 h3 => (hg.block k (by omega) (fun e => by have := oB k e.symm; omega)).trans (hA.block k hk)
 have hl1 := (Array.getElem?_eq_some_iff.1 hL).1
 have hl2 := (Array.getElem?_eq_some_iff.1 hD).1
 have k1 := kV.lt
 have k2 := tV.lt
 have k3 := rV.lt
 refine ⟨kV.block (hb _ k1 (by omega) (by omega)), tV.block (hb _ k2 (by omega) (by omega)), rV.block (hb _ k3 (by omega) (by omega)), (hb _ hl1 (by omega) (by omega)).trans hL, (hb _ hl2 (by omega) (by omega)).trans hD, ?_, by have := hg.size; omega⟩
 exact ⟨hg.os.trans BV.os, hg.tape.trans BV.tape, hg.output.trans BV.output, Nat.le_trans BV.size (by have := hg.size; omega), fun k hk => (hb k (by have := BV.size; omega) (by omega) (by omega)).trans (BV.block k hk)⟩
structure ChJ (w : World) (B L D T : Nat) (r : Loop) (la : Option Addr) (lc : Nat) (rs : List RecA) (tx : Int) (R : List Int) (k : Nat) (W : World) : Prop where
 own : ∃ a c, ∃ ys : List Int, Box W (B + 1 + 1 + 1) [.slice a ys.length c] 32 ∧ OwnI W (B + 1 + 1) W.heap.size a c ys ∧ (∀ k, (Value.slice a ys.length c).ownBlock = some k → k = B + 1 + 1 ∨ T ≤ k) ∧ ys ++ chainDown tx (rs.map RecA.v) k = R ∧ ys.length + k ≤ rs.length
 tx : Box W (B + 1) [.int .i64 tx] 3
 row : Box W (B + 1 + 1 + 1 + 1) [.slice la rs.length lc] 24
 loop : W.heap[L]? = some (.loop r)
 dfr : W.heap[D]? = some (.deferred (some []))
 bel : Below w.heap.size w W
 top : T ≤ W.heap.size
theorem implChain_any (l : LogA) (tx : Int) (w : World) (hr : l.reads w) (hl : l.recs.length ≤ 1048576) :
  Calls Tryz.prog 17 #[.agg l.cells.toArray, .int .i64 tx] w fun e w' => ∃ a c, ∃ ys : List Int, e = .returned (.slice a ys.length c) ∧ Hid (ys = chainOf l.v tx) ∧ OwnI w' w.heap.size w'.heap.size a c ys ∧ Below w.heap.size w w' := by
 obtain ⟨rs, sure, la, lc⟩ := l
 simp only [LogA.cells, LogA.reads, LogA.v] at *
 have HF : Hid ([] ++ chainDown tx (rs.map RecA.v) rs.length = chainOf ⟨rs.map RecA.v, sure⟩ tx) := by rw [Hid]; simp [chainOf]
 generalize chainOf ⟨rs.map RecA.v, sure⟩ tx = R at *
 refine (callsIn_wide (n := 4)).1 ?_
 refine callsIn_of_wp_marks Tryz.func17 rfl trivial ?_ rfl
 simp only [Tryz.ntmps17, List.size_toArray, List.length_cons, List.length_nil, Nat.reduceAdd, Nat.reduceSub, Array.replicate_succ, Array.replicate_zero, List.push_toArray, List.append_toArray, List.nil_append, List.cons_append]
 obtain ⟨W0, hW0, b0, b1, b2, hbW0, hsW0⟩ := boxes3 w [.slice la rs.length lc, .int .i64 sure] [.int .i64 tx] [] 26 3 3
 obtain ⟨W, hW, b3, hb1, hs1⟩ := boxes1 W0 [.slice (some ⟨w.heap.size + 1 + 1, 0, none⟩) 0 0] 32
 rw [hsW0] at b3
 have hbW : Below w.heap.size w W := hbW0.trans (hb1.mono hbW0.size)
 have k0 := b0.below hb1 b0.lt
 have k1 := b1.below hb1 b1.lt
 have k2 := b2.below hb1 b2.lt
 have k3 : Box W (w.heap.size + 1 + 1 + 1) [.slice (some ⟨w.heap.size + 1 + 1, 0, none⟩) 0 0] 32 := b3
 have HSW : Hid (W.heap.size = w.heap.size + 1 + 1 + 1 + 1) := by rw [Hid]; omega
 have hsW1 : W.heap.size ≤ w.heap.size + 1 + 1 + 1 + 1 := by omega
 have hsW2 : w.heap.size + 1 + 1 + 1 + 1 ≤ W.heap.size := by omega
 have o2 : OwnI W (w.heap.size + 1 + 1) W.heap.size (some ⟨w.heap.size + 1 + 1, 0, none⟩) 0 [] := by
  have h := ownI_lit0 ((w.alloc (.cells #[.slice la rs.length lc, .int .i64 sure] 26)).alloc (.cells #[.int .i64 tx] 3))
  have e : (((w.alloc (.cells #[.slice la rs.length lc, .int .i64 sure] 26)).alloc (.cells #[.int .i64 tx] 3)).alloc (.cells #[] 3)) = W0 := hW0.out
  rw [e, World.size_alloc, World.size_alloc] at h
  exact (h.below hb1).widen (by omega) (by omega) (by omega)
 clear hsW0 hs1 b0 b1 b2 b3 hb1 hbW0 k2
 have x0 := k0.cell 0 _ rfl
 have HI : Hid ((Tryz.prog.info? 39).map (·.size) = some 15) := by rw [Hid]; kernel_rfl
 have hW' : (((w.alloc (.cells #[.slice la rs.length lc, .int .i64 sure] 26)).alloc (.cells #[.int .i64 tx] 3)).alloc (.cells #[] 3)).alloc (.cells #[.slice (some ⟨w.heap.size + 1 + 1, 0, none⟩) 0 0] 32) = W := by rw [← hW.out, ← hW0.out]
 have HW' : Hid (_ = W) := hW'
 clear hW' hW hW0
 gi_upto_region 2 with fail
 rw [HW'.out]
 clear HW'
 gi_wp2_with fail
 refine ⟨trivial, ?_⟩
 gi_at_call 45
 refine (callsIn_wide.2 (backward_any la rs.length lc W)).mono ?_
 rintro e w1 ⟨rfl, h1⟩
 obtain ⟨W3, hW3, b4, hb3, hs3⟩ := boxes1 W [.slice la rs.length lc] 24
 have hW3' : W.alloc (.cells #[.slice la rs.length lc] 24) = W3 := hW3.out
 rw [hW3'] at h1
 subst h1
 have HS3 : Hid (w1.heap.size = w.heap.size + 1 + 1 + 1 + 1 + 1) := by rw [Hid, hs3, HSW.out]
 have k13 := k1.below hb3 k1.lt
 have k33 := k3.below hb3 k3.lt
 have o23 := o2.below hb3
 have D3 : Below w.heap.size w w1 := hbW.trans (hb3.mono hbW.size)
 clear hW3 hW3' hs3 k0 k1 k3 x0 o2
 rw [HSW.out] at b4
 gi_wp2_with fail
 refine rangeFunc_here (gf := 74) (lb := #[.pointer (some ⟨W.heap.size, 0, none⟩)]) rfl (enters_of Tryz.func74 (by kernel_rfl) rfl) ?_
 intro r W4 hst hpd htm hps has hbd hL hD hB4 hS4
 have HBD : Hid (r.body = _) := hbd
 have HAS : Hid (r.assign = _) := has
 have HTM : Hid (r.tmps = _) := htm
 have HPS : Hid (r.params = _) := hps
 have HST : Hid (r.state = _) := hst
 have HPD : Hid (r.pending = none) := hpd
 clear hst hpd htm hps has hbd
 rw [HS3.out] at hL hD hS4
 have hlo6 : w.heap.size + 1 + 1 + 1 + 1 + 1 + 1 < W4.heap.size := by omega
 clear hS4
 rw [show #[Value.func (.yield (w1.heap.size + 1)) #[] #[]] ++ #[Value.pointer (some ⟨W.heap.size, 0, none⟩)] = #[Value.func (.yield (w1.heap.size + 1)) #[] #[], Value.pointer (some ⟨W.heap.size, 0, none⟩)] from rfl, HS3.out, HSW.out]
 have hJ0 : ChJ w w.heap.size (w.heap.size + 1 + 1 + 1 + 1 + 1 + 1) (w.heap.size + 1 + 1 + 1 + 1 + 1) W4.heap.size r la lc rs tx R rs.length W4 :=
  ⟨⟨some ⟨w.heap.size + 1 + 1, 0, none⟩, 0, [], k33.below hB4 k33.lt, (o23.below hB4).widen (Nat.le_refl _) (by have := hB4.size; have := hb3.size; omega) (Nat.le_refl _), fun k hk => by cases hk; exact .inl rfl, HF.out, by simp⟩, k13.below hB4 k13.lt, b4.below hB4 b4.lt, hL, hD, D3.trans (hB4.mono D3.size), Nat.le_refl _⟩
 refine (backward_in 2 (w.heap.size + 1 + 1 + 1 + 1 + 1 + 1) (w.heap.size + 1 + 1 + 1 + 1) la lc rs (by omega) (ChJ w w.heap.size (w.heap.size + 1 + 1 + 1 + 1 + 1 + 1) (w.heap.size + 1 + 1 + 1 + 1 + 1) W4.heap.size r la lc rs tx R) ?_ ?_ W4 hJ0).mono ?_
 ·intro k X j
  exact ⟨j.row, hr.below j.bel⟩
 ·intro k X hk j
  obtain ⟨a, c, ys, kR, oR, oB, hEq, hLen⟩ := j.own
  have HS0 : Hid (_ = R) := chain_step tx rs k ys R hEq
  clear hEq
  generalize rs.getD k zeroR = z at *
  obtain ⟨X1, hX1, z1, hb1, hs1⟩ := boxes1 X [.int .i64 0, .int .i64 0, .int .i64 0, .int .i64 0, .int .i64 0, .bool false, .int .i64 0, .slice none 0 0, .slice none 0 0, .bool false, .int .i64 0, .slice none 0 0, .slice none 0 0, .int .i64 0, .slice none 0 0] 39
  obtain ⟨X2, hX2, hw2, hs2, HT2, _, z2⟩ := rec_out z _ rfl z1
  have N2 : Below X.heap.size X X2 := hb1.trans (hw2.below (Nat.le_refl _) (by omega))
  have hT := j.top
  have hlt2 := z2.lt
  have hs2' := N2.size
  have kR2 := kR.below N2 kR.lt
  have oR2 := oR.below N2
  have tx2 := j.tx.below N2 j.tx.lt
  have row2 := j.row.below N2 j.row.lt
  have L2 := (N2.block _ (Array.getElem?_eq_some_iff.1 j.loop).1).trans j.loop
  have d2 := (N2.block _ (Array.getElem?_eq_some_iff.1 j.dfr).1).trans j.dfr
  have B2 := j.bel.trans (N2.mono j.bel.size)
  have hOt := rec_one z
  clear z1 hb1 hw2 hs1 hs2 kR oR
  refine yield_here j.loop (by rw [HPS.out]; rfl) HST.out ?_
  rw [HAS.out, HPS.out, HTM.out]
  simp only [List.zip_toArray, List.zip_cons_cons, List.zip_nil_right, List.foldl_toArray', List.foldl_cons, List.foldl_nil, List.setIfInBounds_toArray, List.set_cons_zero, List.set_cons_succ]
  gi_wp2_with (first | (guard_target = wpListIn _ _ _ _ _ (Oper.mk none (Op.store _ (Operand.tmp 7) _) _ _ _ _ :: _) _ _; refine storeIn_mid rfl (fun _ => trivial) rfl 39 (.tmp 7) (.tmp 13) rfl X.heap.size 0 z.cells.toArray rfl rfl (by rw [hX1.out]; exact HT2.out) HI.out hOt ?_; rw [hX1.out, show X1.setCells X.heap.size 0 z.cells.toArray.toList = X2 from hX2.out]) | fail)
  clear hX1 hX2 HT2 hOt
  intro V hVL0 hVw hVs
  have hVL : V.heap[w.heap.size + 1 + 1 + 1 + 1 + 1 + 1]? = some (.loop { r with state := .busy }) := hVL0.trans (by rw [HAS.out, HPS.out, HTM.out])
  clear hVL0
  rw [HBD.out]
  have hVs1 := Nat.le_of_eq hVs
  have hVs2 := Nat.le_of_eq hVs.symm
  clear hVs
  have kV := kR2.within hVw (by omega)
  have zV := z2.within hVw (by omega)
  have tV := tx2.within hVw (by omega)
  have rV := row2.within hVw (by omega)
  have oV : OwnI V (w.heap.size + 1 + 1) X.heap.size a c ys := oR2.stayed hVw.size (fun k hk => hVw.block k (by have := oR2.2.2 k hk; omega) (by have := oB k hk; omega))
  have dV := (hVw.block _ (Array.getElem?_eq_some_iff.1 d2).1 (by omega)).trans d2
  have BV : Below w.heap.size w V := B2.trans (hVw.below (by omega) (by have := B2.size; omega))
  have hbl := j.bel.size
  clear hVw j kR2 oR2 z2 tx2 row2 L2 d2 B2 N2
  have x0 := kV.cell 0 _ rfl
  have xf := kV.frozen 0
  have t0 := tV.cell 0 _ rfl
  have z0 : V.cell? ⟨X.heap.size, 0, none⟩ = some (.int .i64 z.lsn) := zV.cell 0 _ rfl
  have z1 : V.cell? ⟨X.heap.size, 1, none⟩ = some (.int .i64 z.tx) := zV.cell 1 _ rfl
  have z3 : V.cell? ⟨X.heap.size, 3, none⟩ = some (.int .i64 z.kind) := zV.cell 3 _ rfl
  clear zV
  have HS := HS0.out
  clear HS0
  by_cases hq : ofTx tx z.v = true
  ·have HS' : Hid ((ys ++ [z.lsn]) ++ chainDown tx (rs.map RecA.v) k = R) := by rw [if_pos hq] at HS; exact HS
   have h6b : (z.kind != 6) = true := by simp [ofTx, RecA.v] at hq; simpa using hq.2
   have hqb : (z.tx == tx) = true := by simp [ofTx, RecA.v] at hq; simpa using hq.1
   clear HS hq
   have hA : Below V.heap.size V (V.alloc (.cells #[.int .i64 z.lsn] 3)) := (Below.refl _ _).alloc (Nat.le_refl _) _
   have oA := oV.below hA
   gi_wp2_with (first | (guard_target = wpListIn _ _ _ _ _ (Oper.mk (some 27) _ _ _ _ _ :: _) _ _; refine append_intsIn rfl (fun _ => trivial) rfl _ _ rfl (w.heap.size + 1 + 1) X.heap.size a c ys rfl oA _ _ [z.lsn] rfl (readsI_cell V z.lsn _) (fun h => by cases h) (by simp; omega) (by simp; omega) ?_; intro a3 c3 y3 w3 hy3 ho3 hg3 hk3; have HA := chain_appended (B := w.heap.size) (T := W4.heap.size) hg3 kV tV rV hVL dV BV (by omega) (by omega) oB; obtain ⟨kA, tA, rA, LA, dA, BA, hsA⟩ := HA; have m0 := kA.cell 0 _ rfl; have mf := kA.frozen 0) | fail)
   obtain ⟨U, hU, kU, hwU, hsU⟩ := box_set kA 0 (.slice a3 y3.length c3)
   simp only [List.set] at kU
   rw [hU.out]
   have oB3 : ∀ k, (Value.slice a3 y3.length c3).ownBlock = some k → k = w.heap.size + 1 + 1 ∨ W4.heap.size ≤ k := fun k hk => (hk3 k hk).elim (fun h => oB k h) (fun h => .inr (by rw [World.size_alloc] at h; omega))
   have LU := (hwU.block _ (Array.getElem?_eq_some_iff.1 LA).1 (by omega)).trans LA
   have dU := (hwU.block _ (Array.getElem?_eq_some_iff.1 dA).1 (by omega)).trans dA
   have oU : OwnI U (w.heap.size + 1 + 1) w3.heap.size a3 c3 y3 := ho3.stayed hwU.size (fun k hk => hwU.block k (ho3.2.2 k hk) (by have := oB3 k hk; omega))
   have BU : Below w.heap.size w U := BA.trans (hwU.below (by omega) (by omega))
   have tU := tA.within hwU (by omega)
   have rU := rA.within hwU (by omega)
   obtain ⟨Y, hrun, hYL, hYw, hYs⟩ := end_go (P := Tryz.prog) (V := U) (r := r) HST.out HPD.out LU
   refine ⟨_, Y, hrun, rfl, ⟨a3, c3, y3, kU.within hYw (by omega), ?_, oB3, by rw [hy3.out]; exact HS'.out, by rw [hy3.out]; simp; omega⟩, tU.within hYw (by omega), rU.within hYw (by omega), hYL, (hYw.block _ (Array.getElem?_eq_some_iff.1 dU).1 (by omega)).trans dU, BU.trans (hYw.below (by omega) (by omega)), by omega⟩
   exact (oU.stayed hYw.size (fun k hk => hYw.block k (by have := oU.2.2 k hk; have := hwU.size; omega) (by have := oB3 k hk; omega))).widen (Nat.le_refl _) (by omega) (Nat.le_refl _)
  ·have HS' : Hid (ys ++ chainDown tx (rs.map RecA.v) k = R) := by rw [if_neg hq] at HS; exact HS
   clear HS
   by_cases h6 : z.kind = 6
   ·have h6b : (z.kind != 6) = false := by simpa using h6
    clear h6 hq
    gi_wp2_with fail
    obtain ⟨Y, hrun, hYL, hYw, hYs⟩ := end_go (P := Tryz.prog) (V := V) (r := r) HST.out HPD.out hVL
    refine ⟨_, Y, hrun, rfl, ⟨a, c, ys, kV.within hYw (by omega), ?_, oB, HS'.out, by omega⟩, tV.within hYw (by omega), rV.within hYw (by omega), hYL, (hYw.block _ (Array.getElem?_eq_some_iff.1 dV).1 (by omega)).trans dV, BV.trans (hYw.below (by omega) (by omega)), by omega⟩
    exact (oV.stayed hYw.size (fun k hk => hYw.block k (by have := oV.2.2 k hk; omega) (by have := oB k hk; omega))).widen (Nat.le_refl _) (by omega) (Nat.le_refl _)
   ·have h6b : (z.kind != 6) = true := by simpa using h6
    have hqb : (z.tx == tx) = false := by simp [ofTx, RecA.v, h6] at hq; simpa using hq
    clear h6 hq
    gi_wp2_with fail
    obtain ⟨Y, hrun, hYL, hYw, hYs⟩ := end_go (P := Tryz.prog) (V := V) (r := r) HST.out HPD.out hVL
    refine ⟨_, Y, hrun, rfl, ⟨a, c, ys, kV.within hYw (by omega), ?_, oB, HS'.out, by omega⟩, tV.within hYw (by omega), rV.within hYw (by omega), hYL, (hYw.block _ (Array.getElem?_eq_some_iff.1 dV).1 (by omega)).trans dV, BV.trans (hYw.below (by omega) (by omega)), by omega⟩
    exact (oV.stayed hYw.size (fun k hk => hYw.block k (by have := oV.2.2 k hk; omega) (by have := oB k hk; omega))).widen (Nat.le_refl _) (by omega) (Nat.le_refl _)
 ·rintro e W5 ⟨⟨v, rfl⟩, j⟩
  obtain ⟨a, c, ys, k5, o5, oB, hEq, hLen⟩ := j.own
  have HE : Hid (ys = R) := by rw [Hid]; simpa [chainDown] using hEq
  have L5 := j.loop
  have D5 := j.dfr
  have B5 := j.bel
  have hT := j.top
  have hs5 := B5.size
  clear hEq j
  obtain ⟨W6, hW6⟩ : ∃ W6, Hid (W5.putObj (w.heap.size + 1 + 1 + 1 + 1 + 1 + 1) (.loop { r with state := .exhausted }) = W6) := ⟨_, rfl⟩
  have hw6 : Within (w.heap.size + 1 + 1 + 1 + 1 + 1 + 1) (w.heap.size + 1 + 1 + 1 + 1 + 1 + 1 + 1) W5 W6 := by rw [← hW6.out]; exact (within_putObj _ _ _).1
  have hs6 := hw6.size
  have hrun6 : (Instr.endLoop (w.heap.size + 1 + 1 + 1 + 1 + 1 + 1)).run Tryz.prog W5 = .ok none W6 := by rw [← hW6.out, ← HPD.out]; exact run_endLoop L5 (by rw [HST.out]; simp)
  refine ⟨none, W6, hrun6, ?_⟩
  clear hrun6 hW6 L5
  have k6 := k5.within hw6 (by omega)
  have o6 : OwnI W6 (w.heap.size + 1 + 1) W5.heap.size a c ys := o5.stayed hw6.size (fun k hk => hw6.block k (by have := o5.2.2 k hk; omega) (by have := oB k hk; omega))
  have d6 := (hw6.block _ (Array.getElem?_eq_some_iff.1 D5).1 (by omega)).trans D5
  have B6 : Below w.heap.size w W6 := B5.trans (hw6.below (by omega) (by omega))
  clear k5 o5 D5 B5 hw6
  have x6 := k6.cell 0 _ rfl
  show Exit.inBlock _ _ _ _ _
  gi_wp2_with fail
  obtain ⟨Y, hY⟩ : ∃ Y, Hid (W6.putObj (w.heap.size + 1 + 1 + 1 + 1 + 1) (.deferred none) = Y) := ⟨_, rfl⟩
  have hYw : Within (w.heap.size + 1 + 1 + 1 + 1 + 1) (w.heap.size + 1 + 1 + 1 + 1 + 1 + 1) W6 Y := by rw [← hY.out]; exact (within_putObj _ _ _).1
  have hYs := hYw.size
  have oY : OwnI Y (w.heap.size + 1 + 1) W5.heap.size a c ys := o6.stayed hYs (fun k hk => hYw.block k (by have := o6.2.2 k hk; omega) (by have := oB k hk; omega))
  have oY' := oY.widen (show w.heap.size ≤ w.heap.size + 1 + 1 by omega) (show W5.heap.size ≤ Y.heap.size by omega) (Nat.le_refl _)
  have BY : Below w.heap.size w Y := B6.trans (hYw.below (by omega) (by omega))
  refine ⟨by simp, .inl ⟨_, _, rfl, run_takeDeferred d6, ?_⟩⟩
  rw [hY.out]
  exact ⟨.slice a ys.length c, by simp [results, Tryz.results17, go_sem], a, c, ys, rfl, HE, oY', BY⟩
end Go.Proofs.YtoboickdkednkaaGreatDoor
namespace Go.Proofs.YtoboickdkednkaaGreatDoor
open Go.ChangeShapes Go.WideShapes Go.ChangeAt Go.RowKit
section
variable {H : Type} {enc : TypeId × Value → H} {w : World} {base : Nat} {spare : Nat → Bool} {held : Bool}
theorem trod_bytes {fuel : Nat} {cs : List Value} {x : DataW H × List MemPlace} (h : DataW.trod enc Tryz.prog w base spare held fuel 22 cs = some x) :
  ∃ (a : Option Addr) (c : Nat) (ns : List Int), cs = [.slice a ns.length c] ∧ Reads w a ns ∧ (a = none → c = 0) ∧ ns.length ≤ maxLen := by
 rcases open_ints Tryz.underlying22 Tryz.underlying5 (by kernel_rfl) h with ⟨rfl, _⟩ | ⟨a, len, cap, zs, rfl, _, hl, hm, hz, _, hcell, hwf⟩
 ·exact ⟨none, 0, [], rfl, ⟨by simp, by simp⟩, fun _ => rfl, by simp⟩
 ·have hlz : len ≤ zs.length := by rw [hz]; split <;> omega
  refine ⟨some a, cap, zs.take len, by simp; omega, ⟨fun z hzz => ?_, ?_⟩, (fun h => by cases h), by simp; omega⟩
  ·have := hwf z (List.mem_of_mem_take hzz)
   simp [Lit.wf, IntKind.min, IntKind.max, IntKind.signed, IntKind.bits] at this
   omega
  ·intro hne
   have hpos := List.length_pos_iff.2 hne
   simp at hpos
   obtain ⟨b, off, spot⟩ := a
   have hc0 := hcell 0 (by omega)
   have hspot : spot = none := by simpa [Addr.add] using World.cell?_spot hc0
   subst hspot
   refine ⟨b, off, rfl, fun i hi => ?_⟩
   have hi' : i < len := by simp at hi; omega
   have := hcell i (by omega)
   have e : (List.take len zs).getD i 0 = zs.getD i 0 := by simp [List.getD, hi']
   rw [e, ← Addr_add]
   exact this
theorem open_bytes {b0 : Nat} {v : Value} {d : DataW H} {ps : List MemPlace} (hval : Value.okWide Tryz.prog w .any b0 22 v) (h : DataW.Trod enc Tryz.prog w base spare held 22 v d ps) :
  ∃ (a : Option Addr) (c : Nat) (ns : List Int), v = .slice a ns.length c ∧ Reads w a ns ∧ (a = none → c = 0) ∧ ns.length ≤ maxLen := by
 obtain ⟨a, len, cap, hv⟩ := okWide_slice (e := 5) Tryz.underlying22 hval
 subst hv
 obtain ⟨fuel, hf⟩ := h
 have e : (Value.slice a len cap).cells.toList = [Value.slice a len cap] := rfl
 rw [e] at hf
 obtain ⟨a', c', ns, hc, rest⟩ := trod_bytes hf
 simp only [List.cons.injEq, and_true] at hc
 exact ⟨a', c', ns, hc, rest⟩
end
end Go.Proofs.YtoboickdkednkaaGreatDoor
namespace Go.Proofs.YtoboickdkednkaaGreatDoor
open Go.RowKit
attribute [local go_sem ↓] Go.wp_at_zero Go.wp_at_succ
theorem chainDown_app (tx : Int) (rs : List RecV) (x : RecV) (k : Nat) (h : k ≤ rs.length) : chainDown tx (rs ++ [x]) k = chainDown tx rs k := by
 induction k with
 | zero => rfl
 | succ k ih =>
  have e : (rs ++ [x]).getD k zeroR.v = rs.getD k zeroR.v := by
   simp only [List.getD]
   rw [List.getElem?_append_left (by omega)]
  rw [chainDown, chainDown, e, ih (by omega)]
theorem chain_more {l : LogV} {r : RecV} {s : Int} (hk : r.kind ≠ 6) : chainOf ⟨l.recs ++ [lsnR r (l.recs.length + 1)], s⟩ r.tx = ((l.recs.length : Int) + 1) :: chainOf l r.tx := by
 have e : (l.recs ++ [lsnR r (l.recs.length + 1)]).getD l.recs.length zeroR.v = lsnR r (l.recs.length + 1) := by simp [List.getD]
 have ho : ofTx r.tx (lsnR r (l.recs.length + 1)) = true := by simp [ofTx, lsnR, hk]
 show chainDown r.tx (l.recs ++ [lsnR r (l.recs.length + 1)]) (l.recs ++ [lsnR r (l.recs.length + 1)]).length = _
 rw [List.length_append, List.length_singleton, chainDown, e, if_pos ho, chainDown_app _ _ _ _ (Nat.le_refl _)]
 rfl
theorem okLog_appended {l : LogV} {r : RecV} (h : okLog l = true) (h2 : l.recs.length ≠ 4000) (h3 : okR (lsnR r (l.recs.length + 1)) = true) : okLog ⟨l.recs ++ [lsnR r (l.recs.length + 1)], l.sure⟩ = true := by
 obtain ⟨g0, g1, g2, g3⟩ := okLog_yes h
 have hlen : (l.recs ++ [lsnR r (l.recs.length + 1)]).length = l.recs.length + 1 := by simp
 refine okLog_all (by show (l.recs ++ [lsnR r (l.recs.length + 1)]).length ≤ 4000; omega) ?_ (fun k hk => ?_)
 ·show inB l.sure 0 ((l.recs ++ [lsnR r (l.recs.length + 1)]).length : Int) = true
  rw [hlen]
  simp only [inB, decide_eq_true_eq]
  omega
 ·have hk' : k < l.recs.length + 1 := by rw [← hlen]; exact hk
  show okAt (l.recs ++ [lsnR r (l.recs.length + 1)]) k = true
  unfold okAt
  by_cases e : k = l.recs.length
  ·subst e
   have e1 : (l.recs ++ [lsnR r (l.recs.length + 1)]).getD l.recs.length noR = lsnR r (l.recs.length + 1) := by simp [List.getD]
   rw [e1, h3]
   simp [lsnR]
  ·obtain ⟨e1, e2⟩ := g3 k (by omega)
   have e3 : (l.recs ++ [lsnR r (l.recs.length + 1)]).getD k noR = l.recs.getD k noR := by
    simp only [List.getD]
    rw [List.getElem?_append_left (by omega)]
   rw [e3, e1, e2]
   simp
theorem append_cases (l : LogA) (r : RecA) : appendOf l.v r.v = (l.v, 0) ∨
  (appendOf l.v r.v = (⟨l.v.recs ++ [lsnR r.v (l.v.recs.length + 1)], l.sure⟩, (l.recs.length : Int) + 1) ∧ okLog ⟨l.v.recs ++ [lsnR r.v (l.v.recs.length + 1)], l.sure⟩ = true ∧ l.recs.length ≤ 4000) := by
 by_cases h : okLog l.v = true ∧ l.v.recs.length ≠ 4000 ∧ okR (lsnR r.v (l.v.recs.length + 1)) = true
 ·refine .inr ⟨?_, okLog_appended h.1 h.2.1 h.2.2, by have := (okLog_yes h.1).1; rwa [LogA.v_len] at this⟩
  rw [appendOf, if_pos h]
  simp only [LogA.v_len]
  rfl
 ·exact .inl (by rw [appendOf, if_neg h])
theorem lawAppended_walk (a : Option Addr) (cap : Nat) (zs : List Int) (w : World) (hg : ErrT w) (hr : Reads w a zs) :
  Calls Tryz.prog 4 #[.slice a zs.length cap] w fun e w' => e = .returned (.bool true) ∧ Below w.heap.size w w' := by
 by_cases hbig : 1048576 < zs.length
 ·have hd : decide (1048576 < zs.length) = true := decide_eq_true hbig
  go_enter Tryz.func4, Tryz.ntmps4
  go_wp2_with fail
  refine (big_any a cap zs.length w).mono ?_
  rw [hd]
  rintro e u ⟨rfl, hu⟩
  rw [hu]
  clear hu u
  go_wp2
  go_ret
  exact ⟨rfl, Below.refl _ _⟩
 have hd : decide (1048576 < zs.length) = false := decide_eq_false hbig
 go_enter Tryz.func4, Tryz.ntmps4
 go_wp2_with fail
 refine (big_any a cap zs.length w).mono ?_
 rw [hd]
 rintro e u ⟨rfl, hu⟩
 rw [hu]
 clear hu u hd
 go_wp2_with fail
 refine (drawAppend_any a cap zs w hr (by omega)).mono ?_
 rintro e w1 ⟨l, x, rfl, hrl, hlen, hsh, hcp, hrx, hxs, hxc, B1⟩
 have hlS : l.short 1048576 := ⟨by omega, fun x hx => ⟨by have := (hsh x hx).bf; omega, by have := (hsh x hx).af; omega, by have := (hsh x hx).txs; omega⟩⟩
 have hxS : x.short 1099511627776 := ⟨by have := hxs.bf; omega, by have := hxs.af; omega, by have := hxs.txs; omega⟩
 simp only [LogA.cells] at *
 obtain ⟨V2, hV2, b3, b4, hb2, hs2⟩ := boxes2 w1 [.slice l.a l.recs.length l.c, .int .i64 l.sure] [.int .i64 0, .int .i64 0, .int .i64 0, .int .i64 0, .int .i64 0, .bool false, .int .i64 0, .slice none 0 0, .slice none 0 0, .bool false, .int .i64 0, .slice none 0 0, .slice none 0 0, .int .i64 0, .slice none 0 0] 26 39
 obtain ⟨W2, hW2, hw2, hs2', HT2, _, bx⟩ := rec_out x _ rfl b4
 have HI := rec_info x
 have HO := rec_one x
 have HW2 : Hid (V2.setCells (w1.heap.size + 1) 0 x.cells.toArray.toList = W2) := hW2.out
 have bl := b3.within hw2 (by omega)
 have N2 : Below w1.heap.size w1 W2 := hb2.trans (hw2.below (by omega) (by omega))
 have B2 : Below w.heap.size w W2 := B1.trans (N2.mono B1.size)
 have hrl2 := LogA.reads.below hrl N2
 have hrx2 := hrx.below N2
 have HGB : Hid (∀ u, Below w.heap.size w u → ErrT u) := fun u hu => hg.keep hu
 have s2 := bx.lt
 have C := implAppend_any l x W2 (HGB.out _ B2) hrl2 hlS hcp hrx2 hxS hxc
 simp only [LogA.cells] at C
 clear hW2 hs2 hs2' hw2 b3 b4 hb2 N2 hrl hrx B1 hg hr
 go_upto_region 4 with (first | (guard_target = wpList _ _ _ (Oper.mk none (Op.store _ (Operand.tmp 4) _) _ _ _ _ :: _) _ _; rw [hV2.out]; refine wpList_store_mid rfl 39 (.tmp 4) (.tmp 16) rfl (w1.heap.size + 1) 0 x.cells.toArray rfl rfl HT2.out HI HO ?_; rw [HW2.out]) | fail)
 clear hV2 HT2 HW2
 have p0 := bl.cell 0 _ rfl
 have p1 := bl.cell 1 _ rfl
 have rX : W2.rangeAt (w1.heap.size + 1) 0 x.cells := Box.range [] x.cells [] (by simpa using bx)
 go_wp2_with (first | (guard_target = wpList _ _ _ (Oper.mk (some 19) _ _ _ _ _ :: _) _ _; refine wpList_load_mid rfl 39 (.tmp 4) rfl (w1.heap.size + 1) 0 rfl x.cells _ rX Tryz.underlying39 rfl HI ?_) | fail)
 refine C.mono ?_
 clear C p0 p1 rX
 rintro e w3 ⟨t, n, rfl, hv, ot, hb3⟩
 have s3 := hb3.size
 have bl3 := bl.below hb3 bl.lt
 have bx3 := bx.below hb3 bx.lt
 obtain ⟨W4, hW4, b5, hb4, hs4⟩ := boxes1 w3 [.slice t.a t.recs.length t.c, .int .i64 t.sure] 26
 have N24 : Below W2.heap.size W2 W4 := hb3.trans (hb4.mono hb3.size)
 have bl4 := bl3.below hb4 bl3.lt
 have bx4 := bx3.below hb4 bx3.lt
 have ot4 := LogA.own.below ot hb4
 have B4 : Below w.heap.size w W4 := B2.trans (N24.mono B2.size)
 have hrl4 := LogA.reads.below hrl2 N24
 have hrx4 := hrx2.below N24
 have s4 := b5.lt
 have C := specAppend_any l x W4 hrl4 hlS hcp hrx4 hxS hxc
 simp only [LogA.cells] at C
 have HV : Hid ((t.v, n) = appendOf l.v x.v) := hv.out
 clear bl bx bl3 bx3 hb3 hb4 hs4 N24 ot B2 hrl2 hrx2 hv
 go_upto_region 5 with fail
 rw [hW4.out]
 clear hW4
 have p0 := bl4.cell 0 _ rfl
 have p1 := bl4.cell 1 _ rfl
 have rX : W4.rangeAt (w1.heap.size + 1) 0 x.cells := Box.range [] x.cells [] (by simpa using bx4)
 go_wp2_with (first | (guard_target = wpList _ _ _ (Oper.mk (some 25) _ _ _ _ _ :: _) _ _; refine wpList_load_mid rfl 39 (.tmp 4) rfl (w1.heap.size + 1) 0 rfl x.cells _ rX Tryz.underlying39 rfl HI ?_) | fail)
 refine C.mono ?_
 clear C p0 p1 rX
 rintro e w5 ⟨t2, n2, rfl, hv2, ot2, hb5⟩
 obtain rfl : n = n2 := by
  have h1 := congrArg Prod.snd HV.out
  have h2 := congrArg Prod.snd hv2.out
  exact h1.trans h2.symm
 have s5 := hb5.size
 obtain ⟨W6, hW6, b7, hb6, hs6⟩ := boxes1 w5 [.slice t2.a t2.recs.length t2.c, .int .i64 t2.sure] 26
 have N46 : Below W4.heap.size W4 W6 := hb5.trans (hb6.mono hb5.size)
 have bl6 := bl4.below N46 bl4.lt
 have bx6 := bx4.below N46 bx4.lt
 have b56 := b5.below N46 b5.lt
 have ot6 := ot4.below N46
 have B6 : Below w.heap.size w W6 := B4.trans (N46.mono B4.size)
 have hrl6 := LogA.reads.below hrl4 N46
 have s6 := b7.lt
 clear bl4 bx4 b5 ot4 B4 hrl4 hrx4 N46 hb5 hb6 hs6 hv2 ot2
 go_upto_region 6 with fail
 rw [hW6.out]
 clear hW6 b7
 rcases append_cases l x with hno | ⟨hyes, hok, h4⟩
 ·have hn : n = 0 := by have := congrArg Prod.snd HV.out; rw [hno] at this; exact this
  have ht : t.recs.length = l.recs.length := by
   have h1 := congrArg Prod.fst HV.out
   rw [hno] at h1
   have h2 := congrArg (fun v => v.recs.length) (show t.v = l.v from h1)
   simpa [LogA.v] using h2
  subst hn
  have p0 := bl6.cell 0 _ rfl
  have y0 := b56.cell 0 _ rfl
  rw [ht] at y0
  clear ht HV hno bl6 b56 bx6 ot6
  go_wp2_with fail
  go_ret
  exact ⟨rfl, B6⟩
 ·have hn : n = (l.recs.length : Int) + 1 := by have := congrArg Prod.snd HV.out; rw [hyes] at this; exact this
  have htv : t.v = ⟨l.v.recs ++ [lsnR x.v (l.v.recs.length + 1)], l.sure⟩ := by have := congrArg Prod.fst HV.out; rw [hyes] at this; exact this
  subst hn
  have hts : t.sure = l.sure := congrArg LogV.sure htv
  have htl : t.recs.length ≤ 262145 := by
   have h1 := congrArg (fun v => v.recs.length) htv
   simp only [LogA.v, List.length_map, List.length_append, List.length_singleton] at h1
   omega
  have HOK : Hid (okLog t.v = true) := by rw [Hid, htv]; exact hok
  have HCH : Hid (x.kind ≠ 6 → chainOf t.v x.tx = ((l.recs.length : Int) + 1) :: chainOf l.v x.tx) := fun hk => by
   rw [htv]
   have := chain_more (l := l.v) (r := x.v) (s := l.sure) hk
   rw [LogA.v_len] at this ⊢
   exact this
  have htw : t.short 1099511627776 := by
   refine ⟨by omega, fun y hy => ?_⟩
   have hm : y.v ∈ t.v.recs := List.mem_map.2 ⟨y, hy, rfl⟩
   rw [htv] at hm
   rcases List.mem_append.1 hm with hm | hm
   ·obtain ⟨z, hz, e⟩ := List.mem_map.1 hm
    exact Go.Proofs.YtoboickdkednkaaGreatDoor.short_wide (short_of e.symm (hlS.each z hz))
   ·have e := List.mem_singleton.1 hm
    exact short_of (r := x.at (l.v.recs.length + 1)) e (short_at hxS _)
  have p0 := bl6.cell 0 _ rfl
  have p1 := bl6.cell 1 _ rfl
  have y0 := b56.cell 0 _ rfl
  have y1 := b56.cell 1 _ rfl
  have k1 := bx6.cell 1 _ rfl
  have hn0 : (((l.recs.length : Int) + 1) == 0) = false := by simp; omega
  have C := implChain_any t x.tx W6 ot6.reads (by omega)
  simp only [LogA.cells] at C
  have HTS : Hid (t.sure = l.sure) := hts
  clear hts HV hyes hok htv
  go_wp2_with fail
  refine C.mono ?_
  clear C p0 p1 y0 y1 k1
  rintro e w7 ⟨a9, c9, ys, rfl, hys, oy, hb7⟩
  have s7 := hb7.size
  have bl7 := bl6.below hb7 bl6.lt
  have bx7 := bx6.below hb7 bx6.lt
  have b57 := b56.below hb7 b56.lt
  have ot7 := ot6.below hb7
  have B7 : Below w.heap.size w w7 := B6.trans (hb7.mono B6.size)
  have hrl7 := LogA.reads.below hrl6 hb7
  clear bl6 bx6 b56 ot6 B6 hrl6 hb7
  have p0 := bl7.cell 0 _ rfl
  have p1 := bl7.cell 1 _ rfl
  have y0 := b57.cell 0 _ rfl
  have y1 := b57.cell 1 _ rfl
  have C := implLogOk_any t w7 (HGB.out _ B7) ot7.reads htw
  rw [HOK.out] at C
  simp only [LogA.cells] at C
  go_wp2_with fail
  refine C.mono ?_
  clear C p0 p1 y0 y1
  rintro e w8 ⟨rfl, hb8⟩
  have s8 := hb8.size
  have bl8 := bl7.below hb8 bl7.lt
  have bx8 := bx7.below hb8 bx7.lt
  have b58 := b57.below hb8 b57.lt
  have oy8 := oy.below hb8
  have B8 : Below w.heap.size w w8 := B7.trans (hb8.mono B7.size)
  have hrl8 := LogA.reads.below hrl7 hb8
  have p0 := bl8.cell 0 _ rfl
  have p1 := bl8.cell 1 _ rfl
  have y1 : w8.cell? ⟨w3.heap.size, 1, none⟩ = some (.int .i64 l.sure) := (b58.cell 1 _ rfl).trans (by rw [HTS.out])
  have k1 := bx8.cell 1 _ rfl
  have k3 : w8.cell? ⟨w1.heap.size + 1, 3, none⟩ = some (.int .i64 x.kind) := bx8.cell 3 _ rfl
  clear bl7 bx7 b57 ot7 B7 hrl7 hb8 oy b58
  by_cases hk : x.kind = 6
  ·have hkb : (x.kind == 6) = true := by simpa using hk
   clear hk
   go_wp2_with fail
   go_ret
   exact ⟨rfl, B8⟩
  ·have hkb : (x.kind == 6) = false := by simpa using hk
   have hyc := hys.out.trans (HCH.out hk)
   obtain ⟨g9, o9, ha9, hc9⟩ := oy8.reads (by rw [hyc]; simp)
   have hyl : Hid ((ys.length : Int) = ((chainOf l.v x.tx).length : Int) + 1) := by rw [Hid, hyc]; simp
   have hyp : (ys.length : Int) > 0 := by rw [hyl.out]; omega
   have q0 : w8.cell? ⟨g9, o9, none⟩ = some (.int .i64 ((l.recs.length : Int) + 1)) := by
    have := hc9 0 (by rw [hyc]; simp)
    simpa [hyc] using this
   subst ha9
   have hcl : (chainOf l.v x.tx).length ≤ 262144 := by
    have h1 := chainDown_len x.tx l.v.recs l.v.recs.length
    rw [LogA.v_len] at h1
    have h2 : (chainOf l.v x.tx).length ≤ l.recs.length := by
     rw [chainOf, LogA.v_len]; exact h1
    omega
   have hy9 : ys.length ≤ 262145 := by have := hyl.out; omega
   have C := implChain_any l x.tx w8 hrl8 (by omega)
   simp only [LogA.cells] at C
   clear hk hyc hc9 hys HCH
   go_wp2_with fail
   refine C.mono ?_
   clear C p0 p1 y1 k1 k3 q0
   rintro e w9 ⟨a10, c10, zs', rfl, hzs, _, hb9⟩
   have hfin : ((ys.length : Int) == (zs'.length : Int) + 1) = true := by rw [hzs.out]; simp only [beq_iff_eq]; exact hyl.out
   have hzl : zs'.length ≤ 262144 := by rw [hzs.out]; exact hcl
   clear hzs hyl
   go_wp2_with fail
   go_ret
   exact ⟨rfl, B8.trans (hb9.mono B8.size)⟩
end Go.Proofs.YtoboickdkednkaaGreatDoor
namespace Go.Proofs.YtoboickdkednkaaGreatDoor
open Go.ChangeShapes Go.WideShapes Go.RowKit
theorem Tryz.et : Tryz.prog.globalNamed "errors.errorType" = some 0 := by kernel_rfl
theorem Tryz.rt : (Tryz.prog.cutTypes.find? (·.1 == "internal/reflectlite.rtype")).map (·.2) = some 200 := by kernel_rfl
theorem Tryz.oneRow : ((List.range 242).filter fun t => Tryz.prog.rowNamed t [101, 114, 114, 111, 114]) = [165] := by kernel_rfl
theorem Tryz.typesSize : Tryz.prog.types.size = 242 := by kernel_rfl
theorem errT_of_handles {W : World} {laid : List (String × DataW Unit)} (hm : ("errors.errorType", Rows.laid_errors_errorType) ∈ laid) (h : handlesMet Tryz.prog laid W) : ErrT W := by
 obtain ⟨name, u, ty, e1, e2, e3, e4, e5⟩ := h _ hm
 have en : name = [101, 114, 114, 111, 114] := (Option.some.inj e1).symm
 subst en
 obtain rfl := Option.some.inj (Tryz.rt.symm.trans e2)
 have hm : ty ∈ (List.range 242).filter fun t => Tryz.prog.rowNamed t [101, 114, 114, 111, 114] := List.mem_filter.2 ⟨List.mem_range.2 (by rw [← Tryz.typesSize]; exact e3), e4⟩
 rw [Tryz.oneRow] at hm
 obtain rfl := List.mem_singleton.1 hm
 have hh : typeHandle Tryz.prog 165 = .pointer (some ⟨1, 165, none⟩) := by kernel_rfl
 rw [hh] at e5
 unfold ErrT
 simpa using World.var?_cell Tryz.et e5 0
def laid1 : List (String × DataW Unit) := [("errors.errorType", Rows.laid_errors_errorType)]
theorem errT_of_laid1 {W : World} (h : laidMetH Tryz.prog laid1 W) : ErrT W := by
 have h' : laidMet Tryz.prog [] W ∧ handlesMet Tryz.prog laid1 W := h
 exact errT_of_handles (List.mem_singleton.2 rfl) h'.2
end Go.Proofs.YtoboickdkednkaaGreatDoor