/- Several texts in one, in their order. -/
import Derived.Test.YtoboickdkednkaaGreatDoorPFnAppendedx1
import Derived.Deep.RegionHeld3
import Derived.Deep.QuietTactic
import Derived.BigQuiet
import Derived.WalkKit
import Derived.Test.YtoboickdkednkaaGreatDoorProg
set_option maxHeartbeats 8000000
set_option maxRecDepth 100000
namespace Go.Proofs.YtoboickdkednkaaGreatDoor
open Go.RowKit
structure RecV where
 lsn : Int
 tx : Int
 prev : Int
 kind : Int
 oid : Int
 bf : SlotV
 af : SlotV
 next : Int
 txs : List LiveV
structure RecA where
 lsn : Int
 tx : Int
 prev : Int
 kind : Int
 oid : Int
 bf : SlotA
 af : SlotA
 next : Int
 txs : List LiveV
 aL : Option Addr
 cL : Nat
def RecA.v (r : RecA) : RecV := ⟨r.lsn, r.tx, r.prev, r.kind, r.oid, r.bf.v, r.af.v, r.next, r.txs⟩
def RecA.cells (r : RecA) : List Value := [.int .i64 r.lsn, .int .i64 r.tx, .int .i64 r.prev, .int .i64 r.kind, .int .i64 r.oid, .bool r.bf.v.has, .int .i64 r.bf.v.o.kind, .slice r.bf.aI r.bf.v.o.ints.length r.bf.cI, .slice r.bf.aR r.bf.v.o.refs.length r.bf.cR, .bool r.af.v.has, .int .i64 r.af.v.o.kind, .slice r.af.aI r.af.v.o.ints.length r.af.cI, .slice r.af.aR r.af.v.o.refs.length r.af.cR, .int .i64 r.next, .slice r.aL r.txs.length r.cL]
structure RecA.reads (w : World) (r : RecA) : Prop where
 bf : r.bf.reads w
 af : r.af.reads w
 txs : ReadsL w r.aL r.txs
theorem RecA.reads.below {w w' : World} {r : RecA} (h : r.reads w) (hb : Below w.heap.size w w') : r.reads w' := ⟨ReadsO.below h.bf hb, ReadsO.below h.af hb, h.txs.below hb⟩
def RecA.blocks (r : RecA) : List Nat := r.bf.blocks ++ (r.af.blocks ++ (Value.slice r.aL r.txs.length r.cL).ownBlock.toList)
structure RecA.own (w : World) (lo hi : Nat) (r : RecA) : Prop where
 bf : r.bf.own w lo hi
 af : r.af.own w lo hi
 txs : OwnL w lo hi r.aL r.cL r.txs
 apart : r.blocks.Nodup
theorem RecA.own.reads {w : World} {lo hi : Nat} {r : RecA} (h : r.own w lo hi) : r.reads w := ⟨OwnO.reads h.bf, OwnO.reads h.af, h.txs.reads⟩
theorem RecA.own.below {w w' : World} {lo hi : Nat} {r : RecA} (h : r.own w lo hi) (hb : Below w.heap.size w w') : r.own w' lo hi := ⟨OwnO.below h.bf hb, OwnO.below h.af hb, h.txs.below hb, h.apart⟩
theorem RecA.own.within {w w' : World} {lo hi l u : Nat} {r : RecA} (h : r.own w lo hi) (hw : Within l u w w') (hd : hi ≤ l ∨ u ≤ lo) : r.own w' lo hi := ⟨OwnO.within h.bf hw hd, OwnO.within h.af hw hd, h.txs.within hw hd, h.apart⟩
theorem RecA.own.widen {w : World} {lo hi lo' hi' : Nat} {r : RecA} (h : r.own w lo hi) (h1 : lo' ≤ lo) (h2 : hi ≤ hi') (h3 : hi' ≤ w.heap.size) : r.own w lo' hi' := ⟨OwnO.widen h.bf h1 h2 h3, OwnO.widen h.af h1 h2 h3, h.txs.widen h1 h2 h3, h.apart⟩
theorem rec_apart {w : World} {a b c d : Nat} {s t : SlotA} {aL : Option Addr} {cL : Nat} {ls : List LiveV} (hs : s.own w a b) (ht : t.own w b c) (hl : OwnL w c d aL cL ls) (hbc : b ≤ c) :
  (s.blocks ++ (t.blocks ++ (Value.slice aL ls.length cL).ownBlock.toList)).Nodup := by
 rw [List.nodup_append, List.nodup_append]
 refine ⟨SlotA.blocks_nodup hs, ⟨SlotA.blocks_nodup ht, by cases (Value.slice aL ls.length cL).ownBlock <;> simp, ?_⟩, ?_⟩
 ·intro x hx y hy e
  have h1 := (SlotA.blocks_lt ht x hx)
  have h2 := (hl.lt y (Option.mem_toList.1 hy))
  omega
 ·intro x hx y hy e
  have h1 := (SlotA.blocks_lt hs x hx)
  rcases List.mem_append.1 hy with h | h
  ·have h2 := (SlotA.blocks_lt ht y h); omega
  ·have h2 := (hl.lt y (Option.mem_toList.1 h))
   omega
theorem oneR (r : RecA) : ∀ v ∈ r.cells, v.oneCell' = true := by
 intro v hv
 simp only [RecA.cells, List.mem_cons, List.not_mem_nil, or_false] at hv
 rcases hv with rfl | rfl | rfl | rfl | rfl | rfl | rfl | rfl | rfl | rfl | rfl | rfl | rfl | rfl | rfl <;> rfl
theorem box_quad {w : World} {B : Nat} {l : List Value} {t : TypeId} (b : Box w B l t) (i0 i1 i2 i3 : Nat) (v0 v1 v2 v3 : Value) :
  ∃ W, Hid ((((w.setCell ⟨B, i0, none⟩ v0).setCell ⟨B, i1, none⟩ v1).setCell ⟨B, i2, none⟩ v2).setCell ⟨B, i3, none⟩ v3 = W) ∧ Box W B ((((l.set i0 v0).set i1 v1).set i2 v2).set i3 v3) t ∧ Within B (B + 1) w W ∧ W.heap.size = w.heap.size := by
 refine ⟨_, rfl, (((b.set i0 v0).set i1 v1).set i2 v2).set i3 v3, ?_, ?_⟩
 ·exact (((within_set w B i0 v0 (by omega)).trans (within_set _ B i1 v1 (by omega))).trans (within_set _ B i2 v2 (by omega))).trans (within_set _ B i3 v3 (by omega))
 ·simp
structure RecA.short (r : RecA) (m : Nat) : Prop where
 bf : r.bf.v.o.ints.length ≤ m ∧ r.bf.v.o.refs.length ≤ m
 af : r.af.v.o.ints.length ≤ m ∧ r.af.v.o.refs.length ≤ m
 txs : r.txs.length ≤ m
theorem ne_at {xs ys : List Int} (j : Nat) (h : xs.getD j 0 ≠ ys.getD j 0) : decide (xs = ys) = false := by
 rw [decide_eq_false_iff_not]
 intro e
 exact h (by rw [e])
theorem ne_len {xs ys : List Int} (h : xs.length ≠ ys.length) : decide (xs = ys) = false := by
 rw [decide_eq_false_iff_not]
 intro e
 exact h (by rw [e])
theorem eq_all {xs ys : List Int} (hl : xs.length = ys.length) (h : ∀ t, t < xs.length → xs.getD t 0 = ys.getD t 0) : decide (xs = ys) = true := by
 rw [decide_eq_true_eq]
 apply List.ext_getElem hl
 intro i h1 h2
 have := h i h1
 simpa [List.getD, h1, h2] using this
theorem l2SameInts_any (a b : Option Addr) (ca cb : Nat) (xs ys : List Int) (w : World) (ha : ReadsI w a xs) (hb : ReadsI w b ys) (hl : xs.length ≤ 1099511627776) (hl2 : ys.length ≤ 1099511627776) :
  Calls Tryz.prog 122 #[.slice a xs.length ca, .slice b ys.length cb] w fun e w' => e = .returned (.bool (decide (xs = ys))) ∧ ∃ n, w' = w.drewN n := by
 by_cases hle : xs.length = ys.length
 case neg =>
  have HE : Hid (_ = _) := ne_len hle
  have hle' : ((xs.length : Int) == (ys.length : Int)) = false := by simp; omega
  go_enter Tryz.func122, Tryz.ntmps122
  go_wp2
  go_ret
  exact ⟨ret_bool HE.out.symm, 0, rfl⟩
 case pos =>
 have HL : Hid (xs.length = ys.length) := hle
 have hle' : ((xs.length : Int) == (ys.length : Int)) = true := by simp; omega
 rcases ha.cases with rfl | ⟨b1, o1, rfl, hpos, hc1⟩
 ·obtain rfl : ys = [] := List.length_eq_zero_iff.1 (by simpa using hle.symm)
  have HE : Hid (decide (([] : List Int) = []) = true) := by simp [Hid]
  clear hle hle' HL
  go_enter Tryz.func122, Tryz.ntmps122
  go_wp2
  refine wp_loop_rounds 1 ?_
  rw [rounds_succ]
  go_wp2
  go_ret
  exact ⟨ret_bool HE.out.symm, 0, rfl⟩
 ·rcases hb.cases with rfl | ⟨b2, o2, rfl, _, hc2⟩
  ·simp at hle; simp [hle] at hpos
  ·clear hle
   go_enter Tryz.func122, Tryz.ntmps122
   go_wp2
   go_loopw [5] (fun i wr => ∃ k : Nat, k ≤ xs.length ∧ i = .int .i64 k ∧ Hid (∀ t, t < k → xs.getD t 0 = ys.getD t 0) ∧ ∃ n, wr = w.drewN n) (fun i _ => xs.length - (intOf i).toNat)
   case atStart => exact ⟨0, Nat.zero_le _, rfl, fun t ht => by omega, 0, rfl⟩
   case round =>
    obtain ⟨k, hk, rfl, hall, n, rfl⟩ := hrel
    by_cases hlt : k < xs.length
    ·have h1 := hc1 k hlt
     have h2 := hc2 k (by have := HL.out; omega)
     have hlt2 : (k : Int) < (ys.length : Int) := by have := HL.out; omega
     clear hc1 hc2
     by_cases hz : xs.getD k 0 = ys.getD k 0
     ·have HN : Hid (∀ t, t < k + 1 → xs.getD t 0 = ys.getD t 0) := by
       intro t ht
       by_cases e : t = k
       ·rw [e]; exact hz
       ·exact hall.out t (by omega)
      rw [← hz] at h2
      clear hz
      generalize xs.getD k 0 = z at *
      go_wp2
      go_quiet (fail)
      go_wp2
      go_roundw
      case rel => exact ⟨k + 1, by omega, by go_num, HN, _, rfl⟩
      case measure => simp [intOf]; omega
     ·have HE : Hid (_ = _) := ne_at k hz
      have hzb : (xs.getD k 0 == ys.getD k 0) = false := by simpa using hz
      clear hz
      generalize xs.getD k 0 = z at *
      generalize ys.getD k 0 = y at *
      go_wp2
      go_quiet (fail)
      go_wp2
      go_ret
      exact ⟨ret_bool HE.out.symm, n + nq, by first | rfl | simp⟩
    ·have HE : Hid (_ = _) := eq_all HL.out (fun t ht => hall.out t (by omega))
     go_wp2
     go_ret
     exact ⟨ret_bool HE.out.symm, n, rfl⟩
def sameO (a b : ObjV) : Bool := decide (a.kind = b.kind) && (decide (a.ints = b.ints) && decide (a.refs = b.refs))
theorem specSameObj_any (o p : ObjV) (aI : Option Addr) (cI : Nat) (aR : Option Addr) (cR : Nat) (bI : Option Addr) (dI : Nat) (bR : Option Addr) (dR : Nat) (w : World) (ha : ReadsO w aI cI aR cR o) (hb : ReadsO w bI dI bR dR p) (h1 : o.ints.length ≤ 1099511627776) (h2 : o.refs.length ≤ 1099511627776) (h3 : p.ints.length ≤ 1099511627776) (h4 : p.refs.length ≤ 1099511627776) :
  Calls Tryz.prog 110 #[.agg #[.int .i64 o.kind, .slice aI o.ints.length cI, .slice aR o.refs.length cR], .agg #[.int .i64 p.kind, .slice bI p.ints.length dI, .slice bR p.refs.length dR]] w fun e w' => e = .returned (.bool (sameO o p)) ∧ Below w.heap.size w w' := by
 obtain ⟨k, ints, refs⟩ := o
 obtain ⟨k', ints', refs'⟩ := p
 obtain ⟨haI, haR, _, _⟩ := ha
 obtain ⟨hbI, hbR, _, _⟩ := hb
 simp only at *
 obtain ⟨W, hW, b0, b1, hbW, hsW⟩ := boxes2 w [.int .i64 k, .slice aI ints.length cI, .slice aR refs.length cR] [.int .i64 k', .slice bI ints'.length dI, .slice bR refs'.length dR] 34 34
 by_cases hk : k = k'
 case neg =>
  have HE : Hid (sameO ⟨k, ints, refs⟩ ⟨k', ints', refs'⟩ = false) := by simp [Hid, sameO, hk]
  have hkb : (k == k') = false := by simpa using hk
  clear hk
  go_enter Tryz.func110, Tryz.ntmps110
  go_wp2
  go_ret
  exact ⟨ret_bool HE.out.symm, by rw [hW.out]; exact hbW⟩
 case pos =>
 subst hk
 have HE : Hid (sameO ⟨k, ints, refs⟩ ⟨k, ints', refs'⟩ = (decide (ints = ints') && decide (refs = refs'))) := by simp [Hid, sameO]
 go_enter Tryz.func110, Tryz.ntmps110
 go_wp2_with fail
 rw [hW.out]
 refine (l2SameInts_any aI bI cI dI ints ints' W (haI.below hbW) (hbI.below hbW) h1 h3).mono ?_
 rintro e w1 ⟨rfl, n1, rfl⟩
 have c0 := (b0.drewN n1).cell 2 _ rfl
 have c1 := (b1.drewN n1).cell 2 _ rfl
 have hb1 : Below w.heap.size w (W.drewN n1) := below_drewN hbW n1
 cases hd : decide (ints = ints') with
 | false =>
  rw [hd] at HE
  clear hd
  go_wp2
  go_ret
  exact ⟨ret_bool (by rw [HE.out]; rfl), hb1⟩
 | true =>
  rw [hd] at HE
  clear hd
  go_wp2_with fail
  refine (l2SameInts_any aR bR cR dR refs refs' (W.drewN n1) (haR.below hb1) (hbR.below hb1) h2 h4).mono ?_
  rintro e w2 ⟨rfl, n2, rfl⟩
  generalize decide (refs = refs') = D at *
  go_wp2
  go_ret
  exact ⟨ret_bool (by rw [HE.out]; rfl), below_drewN hbW (n1 + n2)⟩
end Go.Proofs.YtoboickdkednkaaGreatDoor
namespace Go.Proofs.YtoboickdkednkaaGreatDoor
def inB (x l m : Int) : Bool := decide (l ≤ x ∧ x ≤ m)
end Go.Proofs.YtoboickdkednkaaGreatDoor
namespace Go.Proofs.YtoboickdkednkaaGreatDoor
open Go.RowKit
theorem l1In_any (x l m : Int) (w : World) : Calls Tryz.prog 35 #[.int .i64 x, .int .i64 l, .int .i64 m] w fun e w' => e = .returned (.bool (inB x l m)) ∧ w' = w := by
 by_cases h1 : l ≤ x
 ·by_cases h2 : x ≤ m
  ·have HB : Hid (inB x l m = true) := by simp [Hid, inB, h1, h2]
   go_enter Tryz.func35, Tryz.ntmps35
   go_wp2
   go_ret
   exact ⟨ret_bool HB.out.symm, rfl⟩
  ·have HB : Hid (inB x l m = false) := by simp [Hid, inB, h2]
   go_enter Tryz.func35, Tryz.ntmps35
   go_wp2
   go_ret
   exact ⟨ret_bool HB.out.symm, rfl⟩
 ·have HB : Hid (inB x l m = false) := by simp [Hid, inB, h1]
  go_enter Tryz.func35, Tryz.ntmps35
  go_wp2
  go_ret
  exact ⟨ret_bool HB.out.symm, rfl⟩
def okB (o : ObjV) : Bool := inB o.kind 1 99 && (decide (o.ints.length ≤ 5) && (decide (o.refs.length ≤ 5) && (o.ints.all (fun z => inB z (-1000000) 1000000) && o.refs.all (fun z => inB z 0 31))))
theorem okB_kind {o : ObjV} (h : inB o.kind 1 99 = false) : okB o = false := by simp [okB, h]
theorem okB_ints {o : ObjV} (h : ¬ o.ints.length ≤ 5) : okB o = false := by simp [okB, h]
theorem okB_refs {o : ObjV} (h : ¬ o.refs.length ≤ 5) : okB o = false := by simp [okB, h]
theorem okB_int {o : ObjV} (j : Nat) (hj : j < o.ints.length) (h : inB (o.ints.getD j 0) (-1000000) 1000000 = false) : okB o = false := by
 have : (o.ints.all (fun z => inB z (-1000000) 1000000)) = false := by
  rw [List.all_eq_false]
  exact ⟨o.ints.getD j 0, by simp [List.getD, hj], by rw [h]; decide⟩
 simp [okB, this]
theorem okB_ref {o : ObjV} (j : Nat) (hj : j < o.refs.length) (h : inB (o.refs.getD j 0) 0 31 = false) : okB o = false := by
 have : (o.refs.all (fun z => inB z 0 31)) = false := by
  rw [List.all_eq_false]
  exact ⟨o.refs.getD j 0, by simp [List.getD, hj], by rw [h]; decide⟩
 simp [okB, this]
theorem okB_true {o : ObjV} (h1 : inB o.kind 1 99 = true) (h2 : o.ints.length ≤ 5) (h3 : o.refs.length ≤ 5) (h4 : ∀ j, j < o.ints.length → inB (o.ints.getD j 0) (-1000000) 1000000 = true) (h5 : ∀ j, j < o.refs.length → inB (o.refs.getD j 0) 0 31 = true) : okB o = true := by
 have a4 : (o.ints.all (fun z => inB z (-1000000) 1000000)) = true := by
  rw [List.all_eq_true]
  intro z hz
  obtain ⟨j, hj, rfl⟩ := List.getElem_of_mem hz
  have := h4 j hj
  simpa [List.getD, hj] using this
 have a5 : (o.refs.all (fun z => inB z 0 31)) = true := by
  rw [List.all_eq_true]
  intro z hz
  obtain ⟨j, hj, rfl⟩ := List.getElem_of_mem hz
  have := h5 j hj
  simpa [List.getD, hj] using this
 simp [okB, h1, h2, h3, a4, a5]
theorem specObjOk_any (o : ObjV) (aI : Option Addr) (cI : Nat) (aR : Option Addr) (cR : Nat) (w : World) (hr : ReadsO w aI cI aR cR o) (hnI : o.ints.length ≤ 140737488355328) (hnR : o.refs.length ≤ 140737488355328) :
  Calls Tryz.prog 86 #[.agg #[.int .i64 o.kind, .slice aI o.ints.length cI, .slice aR o.refs.length cR]] w fun e w' => e = .returned (.bool (okB o)) ∧ Below w.heap.size w w' := by
 obtain ⟨k, ints, refs⟩ := o
 obtain ⟨hI, hR, _, _⟩ := hr
 simp only at *
 obtain ⟨W, hW, b0, hbW, hsW⟩ := boxes1 w [.int .i64 k, .slice aI ints.length cI, .slice aR refs.length cR] 34
 have hI' := hI.below hbW
 have hR' := hR.below hbW
 have x1 := b0.cell 1 _ rfl
 have x2 := b0.cell 2 _ rfl
 cases hk : inB k 1 99 with
 | false =>
  have HK : Hid (_ = _) := hk
  have HE : Hid (okB ⟨k, ints, refs⟩ = false) := okB_kind hk
  clear hk
  go_enter Tryz.func86, Tryz.ntmps86
  go_wp2_with fail
  rw [hW.out]
  refine (l1In_any _ _ _ _).mono ?_
  rintro e w' ⟨rfl, rfl⟩
  rw [HK.out]
  go_wp2
  go_ret
  exact ⟨ret_bool HE.out.symm, hbW⟩
 | true =>
 have HK : Hid (_ = _) := hk
 clear hk
 by_cases h5 : ints.length ≤ 5
 case neg =>
  have HE : Hid (okB ⟨k, ints, refs⟩ = false) := okB_ints h5
  go_enter Tryz.func86, Tryz.ntmps86
  go_wp2_with fail
  rw [hW.out]
  refine (l1In_any _ _ _ _).mono ?_
  rintro e w' ⟨rfl, rfl⟩
  rw [HK.out]
  go_wp2
  go_ret
  exact ⟨ret_bool HE.out.symm, hbW⟩
 case pos =>
 by_cases h6 : refs.length ≤ 5
 case neg =>
  have HE : Hid (okB ⟨k, ints, refs⟩ = false) := okB_refs h6
  go_enter Tryz.func86, Tryz.ntmps86
  go_wp2_with fail
  rw [hW.out]
  refine (l1In_any _ _ _ _).mono ?_
  rintro e w' ⟨rfl, rfl⟩
  rw [HK.out]
  go_wp2
  go_ret
  exact ⟨ret_bool HE.out.symm, hbW⟩
 case pos =>
 go_enter Tryz.func86, Tryz.ntmps86
 go_wp2_with fail
 rw [hW.out]
 refine (l1In_any _ _ _ _).mono ?_
 rintro e w' ⟨rfl, rfl⟩
 rw [HK.out]
 go_wp2
 go_loop [3] (fun i => ∃ j : Nat, j ≤ ints.length ∧ i = .int .i64 j ∧ Hid (∀ t, t < j → inB (ints.getD t 0) (-1000000) 1000000 = true)) (fun i => ints.length - (intOf i).toNat)
 case atStart => exact ⟨0, by omega, rfl, fun t ht => by omega⟩
 case round =>
  obtain ⟨j, hj, rfl, hall⟩ := hrel
  by_cases hlt : j < ints.length
  ·rcases hI'.cases with rfl | ⟨b, off, rfl, hpos, hcell⟩
   ·simp at hlt
   have hc := hcell j hlt
   clear hcell
   cases hz : inB (ints.getD j 0) (-1000000) 1000000 with
   | false =>
    have HE : Hid (okB ⟨k, ints, refs⟩ = false) := okB_int j hlt hz
    have HZ : Hid (_ = _) := hz
    clear hz
    generalize ints.getD j 0 = z at *
    go_wp2_with fail
    refine (l1In_any _ _ _ _).mono ?_
    rintro e w' ⟨rfl, rfl⟩
    rw [HZ.out]
    go_wp2
    go_ret
    exact ⟨ret_bool HE.out.symm, hbW⟩
   | true =>
    have HN : Hid (∀ t, t < j + 1 → inB (ints.getD t 0) (-1000000) 1000000 = true) := by
     intro t ht
     by_cases e : t = j
     ·rw [e]; exact hz
     ·exact hall.out t (by omega)
    have HZ : Hid (_ = _) := hz
    clear hz
    generalize ints.getD j 0 = z at *
    go_wp2_with fail
    refine (l1In_any _ _ _ _).mono ?_
    rintro e w' ⟨rfl, rfl⟩
    rw [HZ.out]
    go_wp2
    go_round
    case rel => exact ⟨j + 1, by omega, by go_num, HN⟩
    case measure => simp [intOf]; omega
  ·have HALL : Hid (∀ t, t < ints.length → inB (ints.getD t 0) (-1000000) 1000000 = true) := fun t ht => hall.out t (by omega)
   go_wp2
   go_loop [4] (fun i => ∃ j : Nat, j ≤ refs.length ∧ i = .int .i64 j ∧ Hid (∀ t, t < j → inB (refs.getD t 0) 0 31 = true)) (fun i => refs.length - (intOf i).toNat)
   case atStart => exact ⟨0, by omega, rfl, fun t ht => by omega⟩
   case round =>
    obtain ⟨i, hi, rfl, hall2⟩ := hrel
    by_cases hlt2 : i < refs.length
    ·rcases hR'.cases with rfl | ⟨b, off, rfl, hpos, hcell⟩
     ·simp at hlt2
     have hc := hcell i hlt2
     clear hcell
     cases hz : inB (refs.getD i 0) 0 31 with
     | false =>
      have HE : Hid (okB ⟨k, ints, refs⟩ = false) := okB_ref i hlt2 hz
      have HZ : Hid (_ = _) := hz
      clear hz
      generalize refs.getD i 0 = z at *
      go_wp2_with fail
      refine (l1In_any _ _ _ _).mono ?_
      rintro e w' ⟨rfl, rfl⟩
      rw [HZ.out]
      go_wp2
      go_ret
      exact ⟨ret_bool HE.out.symm, hbW⟩
     | true =>
      have HN : Hid (∀ t, t < i + 1 → inB (refs.getD t 0) 0 31 = true) := by
       intro t ht
       by_cases e : t = i
       ·rw [e]; exact hz
       ·exact hall2.out t (by omega)
      have HZ : Hid (_ = _) := hz
      clear hz
      generalize refs.getD i 0 = z at *
      go_wp2_with fail
      refine (l1In_any _ _ _ _).mono ?_
      rintro e w' ⟨rfl, rfl⟩
      rw [HZ.out]
      go_wp2
      go_round
      case rel => exact ⟨i + 1, by omega, by go_num, HN⟩
      case measure => simp [intOf]; omega
    ·have HE : Hid (okB ⟨k, ints, refs⟩ = true) := okB_true HK.out h5 h6 HALL.out (fun t ht => hall2.out t (by simp only at ht; omega))
     go_wp2
     go_ret
     exact ⟨ret_bool HE.out.symm, hbW⟩
end Go.Proofs.YtoboickdkednkaaGreatDoor
namespace Go.Proofs.YtoboickdkednkaaGreatDoor
def groupsN : Nat → Nat → List Int
 | 0, m => [(m : Int)]
 | f + 1, m => if m < 128 then [(m : Int)] else ((m % 128 + 128 : Nat) : Int) :: groupsN f (m / 128)
def groups (m : Nat) : List Int := groupsN 64 m
def clampI (n : Int) : Int := if n > 1000000000000 then 1000000000000 else if n < -1000000000000 then -1000000000000 else n
def zig (n : Int) : Nat := if 0 ≤ clampI n then (2 * clampI n).toNat else (-2 * clampI n - 1).toNat
def putOf (n : Int) : List Int := groups (zig n)
end Go.Proofs.YtoboickdkednkaaGreatDoor
namespace Go.Proofs.YtoboickdkednkaaGreatDoor
open Go.RowKit
end Go.Proofs.YtoboickdkednkaaGreatDoor
namespace Go.Proofs.YtoboickdkednkaaGreatDoor
end Go.Proofs.YtoboickdkednkaaGreatDoor
namespace Go.Proofs.YtoboickdkednkaaGreatDoor
def crcBit (x : Nat) : Nat := if x % 2 = 1 then (x / 2) ^^^ 3988292384 else x / 2
def crcBits : Nat → Nat → Nat
 | 0, x => x
 | k + 1, x => crcBit (crcBits k x)
def crcByte (x : Nat) (c : Nat) : Nat := crcBits 8 (x ^^^ c)
def crcTo (zs : List Int) (k : Nat) : Nat := (zs.take k).foldl (fun x c => crcByte x c.toNat) 4294967295
def crcOf (zs : List Int) : Nat := 4294967295 ^^^ crcTo zs zs.length
end Go.Proofs.YtoboickdkednkaaGreatDoor
namespace Go.Proofs.YtoboickdkednkaaGreatDoor
open Go.RowKit
end Go.Proofs.YtoboickdkednkaaGreatDoor
namespace Go.Proofs.YtoboickdkednkaaGreatDoor
end Go.Proofs.YtoboickdkednkaaGreatDoor
namespace Go.Proofs.YtoboickdkednkaaGreatDoor
open Go.RowKit
def noO : ObjV := ⟨0, [], []⟩
def Bytes (zs : List Int) : Prop := ∀ z ∈ zs, 0 ≤ z ∧ z < 256
theorem Bytes.drop {zs : List Int} (h : Bytes zs) (p : Nat) : Bytes (zs.drop p) := fun z hz => h z (List.mem_of_mem_drop hz)
def sumByte (x k : Nat) : Int := ((x / 256 ^ k % 256 : Nat) : Int)
def fourTo (x k : Nat) : List Int := (List.range k).map (sumByte x)
def four (x : Nat) : List Int := fourTo x 4
end Go.Proofs.YtoboickdkednkaaGreatDoor
namespace Go.Proofs.YtoboickdkednkaaGreatDoor
open Go.RowKit
def frameOf (zs : List Int) : List Int := (putOf zs.length ++ zs) ++ four (crcOf zs)
end Go.Proofs.YtoboickdkednkaaGreatDoor