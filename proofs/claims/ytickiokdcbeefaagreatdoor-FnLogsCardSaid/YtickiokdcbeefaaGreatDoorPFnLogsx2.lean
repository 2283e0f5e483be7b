/- Several texts in one, in their order. -/
import Derived.Test.YtickiokdcbeefaaGreatDoorPFnLogsx1
import Derived.Deep.RegionHeld3
import Derived.Deep.QuietTactic
import Derived.BigQuiet
import Derived.WalkKit
import Derived.Test.YtickiokdcbeefaaGreatDoorProg
set_option maxHeartbeats 8000000
set_option maxRecDepth 100000
namespace Go.Proofs.YtickiokdcbeefaaGreatDoor
open Go.RowKit
structure RecV where
 lsn : Int
 tx : Int
 prev : Int
 kind : Int
 oid : Int
 bf : SlotV
 af : SlotV
 next : Int
 txs : List LiveV
structure RecA where
 lsn : Int
 tx : Int
 prev : Int
 kind : Int
 oid : Int
 bf : SlotA
 af : SlotA
 next : Int
 txs : List LiveV
 aL : Option Addr
 cL : Nat
def RecA.v (r : RecA) : RecV := ⟨r.lsn, r.tx, r.prev, r.kind, r.oid, r.bf.v, r.af.v, r.next, r.txs⟩
def RecA.cells (r : RecA) : List Value := [.int .i64 r.lsn, .int .i64 r.tx, .int .i64 r.prev, .int .i64 r.kind, .int .i64 r.oid, .bool r.bf.v.has, .int .i64 r.bf.v.o.kind, .slice r.bf.aI r.bf.v.o.ints.length r.bf.cI, .slice r.bf.aR r.bf.v.o.refs.length r.bf.cR, .bool r.af.v.has, .int .i64 r.af.v.o.kind, .slice r.af.aI r.af.v.o.ints.length r.af.cI, .slice r.af.aR r.af.v.o.refs.length r.af.cR, .int .i64 r.next, .slice r.aL r.txs.length r.cL]
structure RecA.reads (w : World) (r : RecA) : Prop where
 bf : r.bf.reads w
 af : r.af.reads w
 txs : ReadsL w r.aL r.txs
theorem RecA.reads.below {w w' : World} {r : RecA} (h : r.reads w) (hb : Below w.heap.size w w') : r.reads w' := ⟨ReadsO.below h.bf hb, ReadsO.below h.af hb, h.txs.below hb⟩
def RecA.blocks (r : RecA) : List Nat := r.bf.blocks ++ (r.af.blocks ++ (Value.slice r.aL r.txs.length r.cL).ownBlock.toList)
structure RecA.own (w : World) (lo hi : Nat) (r : RecA) : Prop where
 bf : r.bf.own w lo hi
 af : r.af.own w lo hi
 txs : OwnL w lo hi r.aL r.cL r.txs
 apart : r.blocks.Nodup
theorem RecA.own.reads {w : World} {lo hi : Nat} {r : RecA} (h : r.own w lo hi) : r.reads w := ⟨OwnO.reads h.bf, OwnO.reads h.af, h.txs.reads⟩
theorem RecA.own.below {w w' : World} {lo hi : Nat} {r : RecA} (h : r.own w lo hi) (hb : Below w.heap.size w w') : r.own w' lo hi := ⟨OwnO.below h.bf hb, OwnO.below h.af hb, h.txs.below hb, h.apart⟩
theorem RecA.own.within {w w' : World} {lo hi l u : Nat} {r : RecA} (h : r.own w lo hi) (hw : Within l u w w') (hd : hi ≤ l ∨ u ≤ lo) : r.own w' lo hi := ⟨OwnO.within h.bf hw hd, OwnO.within h.af hw hd, h.txs.within hw hd, h.apart⟩
theorem RecA.own.widen {w : World} {lo hi lo' hi' : Nat} {r : RecA} (h : r.own w lo hi) (h1 : lo' ≤ lo) (h2 : hi ≤ hi') (h3 : hi' ≤ w.heap.size) : r.own w lo' hi' := ⟨OwnO.widen h.bf h1 h2 h3, OwnO.widen h.af h1 h2 h3, h.txs.widen h1 h2 h3, h.apart⟩
theorem rec_apart {w : World} {a b c d : Nat} {s t : SlotA} {aL : Option Addr} {cL : Nat} {ls : List LiveV} (hs : s.own w a b) (ht : t.own w b c) (hl : OwnL w c d aL cL ls) (hbc : b ≤ c) :
  (s.blocks ++ (t.blocks ++ (Value.slice aL ls.length cL).ownBlock.toList)).Nodup := by
 rw [List.nodup_append, List.nodup_append]
 refine ⟨SlotA.blocks_nodup hs, ⟨SlotA.blocks_nodup ht, by cases (Value.slice aL ls.length cL).ownBlock <;> simp, ?_⟩, ?_⟩
 ·intro x hx y hy e
  have h1 := (SlotA.blocks_lt ht x hx)
  have h2 := (hl.lt y (Option.mem_toList.1 hy))
  omega
 ·intro x hx y hy e
  have h1 := (SlotA.blocks_lt hs x hx)
  rcases List.mem_append.1 hy with h | h
  ·have h2 := (SlotA.blocks_lt ht y h); omega
  ·have h2 := (hl.lt y (Option.mem_toList.1 h))
   omega
theorem oneR (r : RecA) : ∀ v ∈ r.cells, v.oneCell' = true := by
 intro v hv
 simp only [RecA.cells, List.mem_cons, List.not_mem_nil, or_false] at hv
 rcases hv with rfl | rfl | rfl | rfl | rfl | rfl | rfl | rfl | rfl | rfl | rfl | rfl | rfl | rfl | rfl <;> rfl
theorem box_quad {w : World} {B : Nat} {l : List Value} {t : TypeId} (b : Box w B l t) (i0 i1 i2 i3 : Nat) (v0 v1 v2 v3 : Value) :
  ∃ W, Hid ((((w.setCell ⟨B, i0, none⟩ v0).setCell ⟨B, i1, none⟩ v1).setCell ⟨B, i2, none⟩ v2).setCell ⟨B, i3, none⟩ v3 = W) ∧ Box W B ((((l.set i0 v0).set i1 v1).set i2 v2).set i3 v3) t ∧ Within B (B + 1) w W ∧ W.heap.size = w.heap.size := by
 refine ⟨_, rfl, (((b.set i0 v0).set i1 v1).set i2 v2).set i3 v3, ?_, ?_⟩
 ·exact (((within_set w B i0 v0 (by omega)).trans (within_set _ B i1 v1 (by omega))).trans (within_set _ B i2 v2 (by omega))).trans (within_set _ B i3 v3 (by omega))
 ·simp
structure RecA.short (r : RecA) (m : Nat) : Prop where
 bf : r.bf.v.o.ints.length ≤ m ∧ r.bf.v.o.refs.length ≤ m
 af : r.af.v.o.ints.length ≤ m ∧ r.af.v.o.refs.length ≤ m
 txs : r.txs.length ≤ m
theorem ne_at {xs ys : List Int} (j : Nat) (h : xs.getD j 0 ≠ ys.getD j 0) : decide (xs = ys) = false := by
 rw [decide_eq_false_iff_not]
 intro e
 exact h (by rw [e])
theorem ne_len {xs ys : List Int} (h : xs.length ≠ ys.length) : decide (xs = ys) = false := by
 rw [decide_eq_false_iff_not]
 intro e
 exact h (by rw [e])
theorem eq_all {xs ys : List Int} (hl : xs.length = ys.length) (h : ∀ t, t < xs.length → xs.getD t 0 = ys.getD t 0) : decide (xs = ys) = true := by
 rw [decide_eq_true_eq]
 apply List.ext_getElem hl
 intro i h1 h2
 have := h i h1
 simpa [List.getD, h1, h2] using this
theorem l2SameInts_any (a b : Option Addr) (ca cb : Nat) (xs ys : List Int) (w : World) (ha : ReadsI w a xs) (hb : ReadsI w b ys) (hl : xs.length ≤ 1099511627776) (hl2 : ys.length ≤ 1099511627776) :
  Calls Tryz.prog 116 #[.slice a xs.length ca, .slice b ys.length cb] w fun e w' => e = .returned (.bool (decide (xs = ys))) ∧ ∃ n, w' = w.drewN n := by
 by_cases hle : xs.length = ys.length
 case neg =>
  have HE : Hid (_ = _) := ne_len hle
  have hle' : ((xs.length : Int) == (ys.length : Int)) = false := by simp; omega
  go_enter Tryz.func116, Tryz.ntmps116
  go_wp2
  go_ret
  exact ⟨ret_bool HE.out.symm, 0, rfl⟩
 case pos =>
 have HL : Hid (xs.length = ys.length) := hle
 have hle' : ((xs.length : Int) == (ys.length : Int)) = true := by simp; omega
 rcases ha.cases with rfl | ⟨b1, o1, rfl, hpos, hc1⟩
 ·obtain rfl : ys = [] := List.length_eq_zero_iff.1 (by simpa using hle.symm)
  have HE : Hid (decide (([] : List Int) = []) = true) := by simp [Hid]
  clear hle hle' HL
  go_enter Tryz.func116, Tryz.ntmps116
  go_wp2
  refine wp_loop_rounds 1 ?_
  rw [rounds_succ]
  go_wp2
  go_ret
  exact ⟨ret_bool HE.out.symm, 0, rfl⟩
 ·rcases hb.cases with rfl | ⟨b2, o2, rfl, _, hc2⟩
  ·simp at hle; simp [hle] at hpos
  ·clear hle
   go_enter Tryz.func116, Tryz.ntmps116
   go_wp2
   go_loopw [5] (fun i wr => ∃ k : Nat, k ≤ xs.length ∧ i = .int .i64 k ∧ Hid (∀ t, t < k → xs.getD t 0 = ys.getD t 0) ∧ ∃ n, wr = w.drewN n) (fun i _ => xs.length - (intOf i).toNat)
   case atStart => exact ⟨0, Nat.zero_le _, rfl, fun t ht => by omega, 0, rfl⟩
   case round =>
    obtain ⟨k, hk, rfl, hall, n, rfl⟩ := hrel
    by_cases hlt : k < xs.length
    ·have h1 := hc1 k hlt
     have h2 := hc2 k (by have := HL.out; omega)
     have hlt2 : (k : Int) < (ys.length : Int) := by have := HL.out; omega
     clear hc1 hc2
     by_cases hz : xs.getD k 0 = ys.getD k 0
     ·have HN : Hid (∀ t, t < k + 1 → xs.getD t 0 = ys.getD t 0) := by
       intro t ht
       by_cases e : t = k
       ·rw [e]; exact hz
       ·exact hall.out t (by omega)
      rw [← hz] at h2
      clear hz
      generalize xs.getD k 0 = z at *
      go_wp2
      go_quiet (fail)
      go_wp2
      go_roundw
      case rel => exact ⟨k + 1, by omega, by go_num, HN, _, rfl⟩
      case measure => simp [intOf]; omega
     ·have HE : Hid (_ = _) := ne_at k hz
      have hzb : (xs.getD k 0 == ys.getD k 0) = false := by simpa using hz
      clear hz
      generalize xs.getD k 0 = z at *
      generalize ys.getD k 0 = y at *
      go_wp2
      go_quiet (fail)
      go_wp2
      go_ret
      exact ⟨ret_bool HE.out.symm, n + nq, by first | rfl | simp⟩
    ·have HE : Hid (_ = _) := eq_all HL.out (fun t ht => hall.out t (by omega))
     go_wp2
     go_ret
     exact ⟨ret_bool HE.out.symm, n, rfl⟩
def sameO (a b : ObjV) : Bool := decide (a.kind = b.kind) && (decide (a.ints = b.ints) && decide (a.refs = b.refs))
theorem specSameObj_any (o p : ObjV) (aI : Option Addr) (cI : Nat) (aR : Option Addr) (cR : Nat) (bI : Option Addr) (dI : Nat) (bR : Option Addr) (dR : Nat) (w : World) (ha : ReadsO w aI cI aR cR o) (hb : ReadsO w bI dI bR dR p) (h1 : o.ints.length ≤ 1099511627776) (h2 : o.refs.length ≤ 1099511627776) (h3 : p.ints.length ≤ 1099511627776) (h4 : p.refs.length ≤ 1099511627776) :
  Calls Tryz.prog 100 #[.agg #[.int .i64 o.kind, .slice aI o.ints.length cI, .slice aR o.refs.length cR], .agg #[.int .i64 p.kind, .slice bI p.ints.length dI, .slice bR p.refs.length dR]] w fun e w' => e = .returned (.bool (sameO o p)) ∧ Below w.heap.size w w' := by
 obtain ⟨k, ints, refs⟩ := o
 obtain ⟨k', ints', refs'⟩ := p
 obtain ⟨haI, haR, _, _⟩ := ha
 obtain ⟨hbI, hbR, _, _⟩ := hb
 simp only at *
 obtain ⟨W, hW, b0, b1, hbW, hsW⟩ := boxes2 w [.int .i64 k, .slice aI ints.length cI, .slice aR refs.length cR] [.int .i64 k', .slice bI ints'.length dI, .slice bR refs'.length dR] 37 37
 by_cases hk : k = k'
 case neg =>
  have HE : Hid (sameO ⟨k, ints, refs⟩ ⟨k', ints', refs'⟩ = false) := by simp [Hid, sameO, hk]
  have hkb : (k == k') = false := by simpa using hk
  clear hk
  go_enter Tryz.func100, Tryz.ntmps100
  go_wp2
  go_ret
  exact ⟨ret_bool HE.out.symm, by rw [hW.out]; exact hbW⟩
 case pos =>
 subst hk
 have HE : Hid (sameO ⟨k, ints, refs⟩ ⟨k, ints', refs'⟩ = (decide (ints = ints') && decide (refs = refs'))) := by simp [Hid, sameO]
 go_enter Tryz.func100, Tryz.ntmps100
 go_wp2_with fail
 rw [hW.out]
 refine (l2SameInts_any aI bI cI dI ints ints' W (haI.below hbW) (hbI.below hbW) h1 h3).mono ?_
 rintro e w1 ⟨rfl, n1, rfl⟩
 have c0 := (b0.drewN n1).cell 2 _ rfl
 have c1 := (b1.drewN n1).cell 2 _ rfl
 have hb1 : Below w.heap.size w (W.drewN n1) := below_drewN hbW n1
 cases hd : decide (ints = ints') with
 | false =>
  rw [hd] at HE
  clear hd
  go_wp2
  go_ret
  exact ⟨ret_bool (by rw [HE.out]; rfl), hb1⟩
 | true =>
  rw [hd] at HE
  clear hd
  go_wp2_with fail
  refine (l2SameInts_any aR bR cR dR refs refs' (W.drewN n1) (haR.below hb1) (hbR.below hb1) h2 h4).mono ?_
  rintro e w2 ⟨rfl, n2, rfl⟩
  generalize decide (refs = refs') = D at *
  go_wp2
  go_ret
  exact ⟨ret_bool (by rw [HE.out]; rfl), below_drewN hbW (n1 + n2)⟩
end Go.Proofs.YtickiokdcbeefaaGreatDoor
namespace Go.Proofs.YtickiokdcbeefaaGreatDoor
def inB (x l m : Int) : Bool := decide (l ≤ x ∧ x ≤ m)
end Go.Proofs.YtickiokdcbeefaaGreatDoor
namespace Go.Proofs.YtickiokdcbeefaaGreatDoor
open Go.RowKit
theorem l1In_any (x l m : Int) (w : World) : Calls Tryz.prog 27 #[.int .i64 x, .int .i64 l, .int .i64 m] w fun e w' => e = .returned (.bool (inB x l m)) ∧ w' = w := by
 by_cases h1 : l ≤ x
 ·by_cases h2 : x ≤ m
  ·have HB : Hid (inB x l m = true) := by simp [Hid, inB, h1, h2]
   go_enter Tryz.func27, Tryz.ntmps27
   go_wp2
   go_ret
   exact ⟨ret_bool HB.out.symm, rfl⟩
  ·have HB : Hid (inB x l m = false) := by simp [Hid, inB, h2]
   go_enter Tryz.func27, Tryz.ntmps27
   go_wp2
   go_ret
   exact ⟨ret_bool HB.out.symm, rfl⟩
 ·have HB : Hid (inB x l m = false) := by simp [Hid, inB, h1]
  go_enter Tryz.func27, Tryz.ntmps27
  go_wp2
  go_ret
  exact ⟨ret_bool HB.out.symm, rfl⟩
def okB (o : ObjV) : Bool := inB o.kind 1 99 && (decide (o.ints.length ≤ 5) && (decide (o.refs.length ≤ 5) && (o.ints.all (fun z => inB z (-1000000) 1000000) && o.refs.all (fun z => inB z 0 31))))
theorem okB_kind {o : ObjV} (h : inB o.kind 1 99 = false) : okB o = false := by simp [okB, h]
theorem okB_ints {o : ObjV} (h : ¬ o.ints.length ≤ 5) : okB o = false := by simp [okB, h]
theorem okB_refs {o : ObjV} (h : ¬ o.refs.length ≤ 5) : okB o = false := by simp [okB, h]
theorem okB_int {o : ObjV} (j : Nat) (hj : j < o.ints.length) (h : inB (o.ints.getD j 0) (-1000000) 1000000 = false) : okB o = false := by
 have : (o.ints.all (fun z => inB z (-1000000) 1000000)) = false := by
  rw [List.all_eq_false]
  exact ⟨o.ints.getD j 0, by simp [List.getD, hj], by rw [h]; decide⟩
 simp [okB, this]
theorem okB_ref {o : ObjV} (j : Nat) (hj : j < o.refs.length) (h : inB (o.refs.getD j 0) 0 31 = false) : okB o = false := by
 have : (o.refs.all (fun z => inB z 0 31)) = false := by
  rw [List.all_eq_false]
  exact ⟨o.refs.getD j 0, by simp [List.getD, hj], by rw [h]; decide⟩
 simp [okB, this]
theorem okB_true {o : ObjV} (h1 : inB o.kind 1 99 = true) (h2 : o.ints.length ≤ 5) (h3 : o.refs.length ≤ 5) (h4 : ∀ j, j < o.ints.length → inB (o.ints.getD j 0) (-1000000) 1000000 = true) (h5 : ∀ j, j < o.refs.length → inB (o.refs.getD j 0) 0 31 = true) : okB o = true := by
 have a4 : (o.ints.all (fun z => inB z (-1000000) 1000000)) = true := by
  rw [List.all_eq_true]
  intro z hz
  obtain ⟨j, hj, rfl⟩ := List.getElem_of_mem hz
  have := h4 j hj
  simpa [List.getD, hj] using this
 have a5 : (o.refs.all (fun z => inB z 0 31)) = true := by
  rw [List.all_eq_true]
  intro z hz
  obtain ⟨j, hj, rfl⟩ := List.getElem_of_mem hz
  have := h5 j hj
  simpa [List.getD, hj] using this
 simp [okB, h1, h2, h3, a4, a5]
theorem specObjOk_any (o : ObjV) (aI : Option Addr) (cI : Nat) (aR : Option Addr) (cR : Nat) (w : World) (hr : ReadsO w aI cI aR cR o) (hnI : o.ints.length ≤ 140737488355328) (hnR : o.refs.length ≤ 140737488355328) :
  Calls Tryz.prog 73 #[.agg #[.int .i64 o.kind, .slice aI o.ints.length cI, .slice aR o.refs.length cR]] w fun e w' => e = .returned (.bool (okB o)) ∧ Below w.heap.size w w' := by
 obtain ⟨k, ints, refs⟩ := o
 obtain ⟨hI, hR, _, _⟩ := hr
 simp only at *
 obtain ⟨W, hW, b0, hbW, hsW⟩ := boxes1 w [.int .i64 k, .slice aI ints.length cI, .slice aR refs.length cR] 37
 have hI' := hI.below hbW
 have hR' := hR.below hbW
 have x1 := b0.cell 1 _ rfl
 have x2 := b0.cell 2 _ rfl
 cases hk : inB k 1 99 with
 | false =>
  have HK : Hid (_ = _) := hk
  have HE : Hid (okB ⟨k, ints, refs⟩ = false) := okB_kind hk
  clear hk
  go_enter Tryz.func73, Tryz.ntmps73
  go_wp2_with fail
  rw [hW.out]
  refine (l1In_any _ _ _ _).mono ?_
  rintro e w' ⟨rfl, rfl⟩
  rw [HK.out]
  go_wp2
  go_ret
  exact ⟨ret_bool HE.out.symm, hbW⟩
 | true =>
 have HK : Hid (_ = _) := hk
 clear hk
 by_cases h5 : ints.length ≤ 5
 case neg =>
  have HE : Hid (okB ⟨k, ints, refs⟩ = false) := okB_ints h5
  go_enter Tryz.func73, Tryz.ntmps73
  go_wp2_with fail
  rw [hW.out]
  refine (l1In_any _ _ _ _).mono ?_
  rintro e w' ⟨rfl, rfl⟩
  rw [HK.out]
  go_wp2
  go_ret
  exact ⟨ret_bool HE.out.symm, hbW⟩
 case pos =>
 by_cases h6 : refs.length ≤ 5
 case neg =>
  have HE : Hid (okB ⟨k, ints, refs⟩ = false) := okB_refs h6
  go_enter Tryz.func73, Tryz.ntmps73
  go_wp2_with fail
  rw [hW.out]
  refine (l1In_any _ _ _ _).mono ?_
  rintro e w' ⟨rfl, rfl⟩
  rw [HK.out]
  go_wp2
  go_ret
  exact ⟨ret_bool HE.out.symm, hbW⟩
 case pos =>
 go_enter Tryz.func73, Tryz.ntmps73
 go_wp2_with fail
 rw [hW.out]
 refine (l1In_any _ _ _ _).mono ?_
 rintro e w' ⟨rfl, rfl⟩
 rw [HK.out]
 go_wp2
 go_loop [3] (fun i => ∃ j : Nat, j ≤ ints.length ∧ i = .int .i64 j ∧ Hid (∀ t, t < j → inB (ints.getD t 0) (-1000000) 1000000 = true)) (fun i => ints.length - (intOf i).toNat)
 case atStart => exact ⟨0, by omega, rfl, fun t ht => by omega⟩
 case round =>
  obtain ⟨j, hj, rfl, hall⟩ := hrel
  by_cases hlt : j < ints.length
  ·rcases hI'.cases with rfl | ⟨b, off, rfl, hpos, hcell⟩
   ·simp at hlt
   have hc := hcell j hlt
   clear hcell
   cases hz : inB (ints.getD j 0) (-1000000) 1000000 with
   | false =>
    have HE : Hid (okB ⟨k, ints, refs⟩ = false) := okB_int j hlt hz
    have HZ : Hid (_ = _) := hz
    clear hz
    generalize ints.getD j 0 = z at *
    go_wp2_with fail
    refine (l1In_any _ _ _ _).mono ?_
    rintro e w' ⟨rfl, rfl⟩
    rw [HZ.out]
    go_wp2
    go_ret
    exact ⟨ret_bool HE.out.symm, hbW⟩
   | true =>
    have HN : Hid (∀ t, t < j + 1 → inB (ints.getD t 0) (-1000000) 1000000 = true) := by
     intro t ht
     by_cases e : t = j
     ·rw [e]; exact hz
     ·exact hall.out t (by omega)
    have HZ : Hid (_ = _) := hz
    clear hz
    generalize ints.getD j 0 = z at *
    go_wp2_with fail
    refine (l1In_any _ _ _ _).mono ?_
    rintro e w' ⟨rfl, rfl⟩
    rw [HZ.out]
    go_wp2
    go_round
    case rel => exact ⟨j + 1, by omega, by go_num, HN⟩
    case measure => simp [intOf]; omega
  ·have HALL : Hid (∀ t, t < ints.length → inB (ints.getD t 0) (-1000000) 1000000 = true) := fun t ht => hall.out t (by omega)
   go_wp2
   go_loop [4] (fun i => ∃ j : Nat, j ≤ refs.length ∧ i = .int .i64 j ∧ Hid (∀ t, t < j → inB (refs.getD t 0) 0 31 = true)) (fun i => refs.length - (intOf i).toNat)
   case atStart => exact ⟨0, by omega, rfl, fun t ht => by omega⟩
   case round =>
    obtain ⟨i, hi, rfl, hall2⟩ := hrel
    by_cases hlt2 : i < refs.length
    ·rcases hR'.cases with rfl | ⟨b, off, rfl, hpos, hcell⟩
     ·simp at hlt2
     have hc := hcell i hlt2
     clear hcell
     cases hz : inB (refs.getD i 0) 0 31 with
     | false =>
      have HE : Hid (okB ⟨k, ints, refs⟩ = false) := okB_ref i hlt2 hz
      have HZ : Hid (_ = _) := hz
      clear hz
      generalize refs.getD i 0 = z at *
      go_wp2_with fail
      refine (l1In_any _ _ _ _).mono ?_
      rintro e w' ⟨rfl, rfl⟩
      rw [HZ.out]
      go_wp2
      go_ret
      exact ⟨ret_bool HE.out.symm, hbW⟩
     | true =>
      have HN : Hid (∀ t, t < i + 1 → inB (refs.getD t 0) 0 31 = true) := by
       intro t ht
       by_cases e : t = i
       ·rw [e]; exact hz
       ·exact hall2.out t (by omega)
      have HZ : Hid (_ = _) := hz
      clear hz
      generalize refs.getD i 0 = z at *
      go_wp2_with fail
      refine (l1In_any _ _ _ _).mono ?_
      rintro e w' ⟨rfl, rfl⟩
      rw [HZ.out]
      go_wp2
      go_round
      case rel => exact ⟨i + 1, by omega, by go_num, HN⟩
      case measure => simp [intOf]; omega
    ·have HE : Hid (okB ⟨k, ints, refs⟩ = true) := okB_true HK.out h5 h6 HALL.out (fun t ht => hall2.out t (by simp only at ht; omega))
     go_wp2
     go_ret
     exact ⟨ret_bool HE.out.symm, hbW⟩
end Go.Proofs.YtickiokdcbeefaaGreatDoor
namespace Go.Proofs.YtickiokdcbeefaaGreatDoor
def groupsN : Nat → Nat → List Int
 | 0, m => [(m : Int)]
 | f + 1, m => if m < 128 then [(m : Int)] else ((m % 128 + 128 : Nat) : Int) :: groupsN f (m / 128)
def groups (m : Nat) : List Int := groupsN 64 m
theorem groupsN_stable (f : Nat) : ∀ m, m < 2 ^ f → groupsN f m = groupsN (f + 1) m := by
 induction f with
 | zero =>
  intro m h
  have : m = 0 := by omega
  subst this; rfl
 | succ f ih =>
  intro m h
  unfold groupsN
  split
  ·rfl
  ·rw [ih (m / 128) (by rw [Nat.pow_succ] at h; omega)]
theorem groups_small (m : Nat) (h : m < 128) : groups m = [(m : Int)] := by
 unfold groups groupsN; rw [if_pos h]
theorem groups_big (m : Nat) (h : 128 ≤ m) (hm : m < 2 ^ 64) : groups m = ((m % 128 + 128 : Nat) : Int) :: groups (m / 128) := by
 unfold groups
 have e : groupsN 64 m = ((m % 128 + 128 : Nat) : Int) :: groupsN 63 (m / 128) := by
  show groupsN (63 + 1) m = _
  rw [groupsN, if_neg (by omega)]
 rw [e, groupsN_stable 63 (m / 128) (by omega)]
theorem groupsN_byte (f : Nat) : ∀ m, m < 128 * 2 ^ f → ∀ z ∈ groupsN f m, 0 ≤ z ∧ z < 256 := by
 induction f with
 | zero => intro m h z hz; simp [groupsN] at hz; omega
 | succ f ih =>
  intro m h z hz
  unfold groupsN at hz
  split at hz
  ·simp at hz; omega
  ·rw [List.mem_cons] at hz
   rcases hz with rfl | hz
   ·omega
   ·exact ih (m / 128) (by rw [Nat.pow_succ] at h; omega) z hz
theorem groups_byte (m : Nat) (hm : m < 2 ^ 64) : ∀ z ∈ groups m, 0 ≤ z ∧ z < 256 := groupsN_byte 64 m (by omega)
theorem groupsN_len (f : Nat) : ∀ m, 1 ≤ (groupsN f m).length ∧ (groupsN f m).length ≤ f + 1 := by
 induction f with
 | zero => intro m; simp [groupsN]
 | succ f ih =>
  intro m
  unfold groupsN
  split
  ·simp
  ·have := ih (m / 128); simp; omega
theorem groups_len (m : Nat) : 1 ≤ (groups m).length ∧ (groups m).length ≤ 65 := groupsN_len 64 m
def clampI (n : Int) : Int := if n > 1000000000000 then 1000000000000 else if n < -1000000000000 then -1000000000000 else n
def zig (n : Int) : Nat := if 0 ≤ clampI n then (2 * clampI n).toNat else (-2 * clampI n - 1).toNat
def putOf (n : Int) : List Int := groups (zig n)
theorem clampI_bd (n : Int) : -1000000000000 ≤ clampI n ∧ clampI n ≤ 1000000000000 := by unfold clampI; split <;> (try split) <;> omega
theorem zig_le (n : Int) : zig n ≤ 2000000000000 := by
 have := clampI_bd n
 unfold zig; split <;> omega
theorem zig_lt (n : Int) : zig n < 2 ^ 64 := by have := zig_le n; omega
theorem zig_pos (n c : Int) (hc : c = clampI n) (h : 0 ≤ c) : ((zig n : Nat) : Int) = 2 * c := by subst hc; unfold zig; rw [if_pos h]; omega
theorem zig_neg (n c : Int) (hc : c = clampI n) (h : ¬ 0 ≤ c) : ((zig n : Nat) : Int) = -2 * c - 1 := by subst hc; unfold zig; rw [if_neg h]; omega
theorem putOf_byte (n : Int) : ∀ z ∈ putOf n, 0 ≤ z ∧ z < 256 := groups_byte _ (zig_lt n)
theorem putOf_len (n : Int) : 1 ≤ (putOf n).length ∧ (putOf n).length ≤ 65 := groups_len _
end Go.Proofs.YtickiokdcbeefaaGreatDoor
namespace Go.Proofs.YtickiokdcbeefaaGreatDoor
open Go.RowKit
theorem step_small (xs pre ys zs : List Int) (m m0 : Nat) (h : groups m0 = pre ++ groups m) (hs : m < 128) (hy : ys = xs ++ pre) (hz : zs = ys ++ [(m : Int)]) : zs = xs ++ groups m0 := by
 rw [hz, hy, h, groups_small m hs, List.append_assoc]
theorem step_big (pre : List Int) (m m0 : Nat) (h : groups m0 = pre ++ groups m) (hs : 128 ≤ m) (hm : m < 2 ^ 64) : groups m0 = (pre ++ [((m % 128 + 128 : Nat) : Int)]) ++ groups (m / 128) := by
 rw [h, groups_big m hs hm]; simp
theorem appendGroups_any (base : Nat) (a : Option Addr) (c : Nat) (xs : List Int) (m0 : Nat) (w : World) (hown : OwnB w base a c xs) (hm0 : m0 ≤ 2000000000000) (hl : xs.length ≤ 70368744177000) (hbase : base ≤ w.heap.size) :
  Calls Tryz.prog 60 #[.slice a xs.length c, .int .i64 m0] w fun e w' => ∃ a' c' ys, e = .returned (.slice a' ys.length c') ∧ ys = xs ++ groups m0 ∧ OwnB w' base a' c' ys ∧ Below base w w' := by
 have hgl : Hid ((groups m0).length ≤ 65) := (groups_len m0).2
 go_enter Tryz.func60, Tryz.ntmps60
 go_wp2
 go_loopw [0, 1] (fun out mm wr => ∃ (a' : Option Addr) (c' : Nat) (ys pre : List Int) (m : Nat), out = .slice a' ys.length c' ∧ mm = .int .i64 m ∧ m ≤ m0 ∧ OwnB wr base a' c' ys ∧ Hid (ys = xs ++ pre) ∧ Hid (groups m0 = pre ++ groups m) ∧ Below base w wr)
  (fun _ mm _ => (intOf mm).toNat)
 case atStart => exact ⟨a, c, xs, [], m0, rfl, rfl, Nat.le_refl _, hown, by simp [Hid], by simp [Hid], Below.refl _ _⟩
 case round =>
  obtain ⟨a', c', ys, pre, m, rfl, rfl, hmm, ho, hy, hg, hnx⟩ := hrel
  have hyl : ys.length ≤ 70368744177663 := by
   have e := congrArg List.length hy.out
   have e2 := congrArg List.length hg.out
   have := (groups_len m).1
   have := hgl.out
   simp at e e2
   omega
  have hsz := hnx.size
  clear hown
  by_cases hlt : 128 ≤ m
  ·have hz : 0 ≤ ((m : Int) % 128 + 128) ∧ ((m : Int) % 128 + 128) < 256 := by omega
   have HB := step_big pre m m0 hg.out hlt (by omega)
   have HH : Hid (_ = _) := HB
   clear HB
   go_wp2_with (at_builtin; (refine append_bytes rfl _ _ rfl base a' c' ys rfl (ho.alloc _) _ _ [(m : Int) % 128 + 128] rfl (reads_lit1 wr _ _ hz) (by intro h; cases h) (by simp; omega) (by simp; omega) ?_); intro a2 c2 zs w1 hy2 ho2 hg2)
   go_roundw
   case rel => exact ⟨a2, c2, zs, pre ++ [((m % 128 + 128 : Nat) : Int)], m / 128, rfl, rfl, by omega, ho2, by rw [Hid, hy2.out, hy.out, List.append_assoc]; rfl, HH.out, (hnx.alloc (by omega) _).grown hg2 (by simp; omega) (fun k hk => (ho.2.lt k hk).1)⟩
   case measure => simp [intOf]; omega
  ·have hz : 0 ≤ (m : Int) ∧ (m : Int) < 256 := by omega
   have HH : Hid (_ = _) := step_small xs pre ys (ys ++ [(m : Int)]) m m0 hg.out (by omega) hy.out rfl
   go_wp2_with (at_builtin; (refine append_bytes rfl _ _ rfl base a' c' ys rfl (ho.alloc _) _ _ [(m : Int)] rfl (reads_lit1 wr _ _ hz) (by intro h; cases h) (by simp; omega) (by simp; omega) ?_); intro a2 c2 zs w1 hy2 ho2 hg2)
   go_ret
   exact ⟨a2, c2, zs, rfl, by rw [hy2.out]; exact HH.out, ho2, (hnx.alloc (by omega) _).grown hg2 (by simp; omega) (fun k hk => (ho.2.lt k hk).1)⟩
theorem foldSign_any (n : Int) (w : World) :
  Calls Tryz.prog 61 #[.int .i64 n] w fun e w' => e = .returned (.int .i64 (zig n : Nat)) ∧ w' = w := by
 by_cases h1 : 1000000000000 < n
 ·have HC : Hid ((1000000000000 : Int) = clampI n) := by unfold clampI; rw [Hid, if_pos h1]
  go_enter Tryz.func61, Tryz.ntmps61
  go_wp2
  go_ret
  exact ⟨ret_int (zig_pos n _ HC.out (by omega)).symm, rfl⟩
 ·by_cases h2 : n < -1000000000000
  ·have HC : Hid ((-1000000000000 : Int) = clampI n) := by unfold clampI; rw [Hid, if_neg h1, if_pos h2]
   go_enter Tryz.func61, Tryz.ntmps61
   go_wp2
   go_ret
   exact ⟨ret_int (zig_neg n _ HC.out (by omega)).symm, rfl⟩
  ·have HC : Hid (n = clampI n) := by unfold clampI; rw [Hid, if_neg h1, if_neg h2]
   by_cases h3 : 0 ≤ n
   ·go_enter Tryz.func61, Tryz.ntmps61
    go_wp2
    go_ret
    exact ⟨ret_int (zig_pos n _ HC.out (by omega)).symm, rfl⟩
   ·go_enter Tryz.func61, Tryz.ntmps61
    go_wp2
    go_ret
    exact ⟨ret_int (zig_neg n _ HC.out (by omega)).symm, rfl⟩
theorem i64_or128 (y : Int) (h0 : 0 ≤ y) (h1 : y < 128) : bits .or .i64 y 128 = y + 128 := by
 have hc : bits .or .i64 y 128 = bits .or .i64 128 y := by simp only [bits, BitVec.or_comm]
 have hw : ∀ n : Int, 0 ≤ n → n < 2 ^ 63 → IntKind.i64.wrap n = n := fun n _ _ => by rw [IntKind.wrap_i64]; omega
 rw [hc, bits_join .i64 63 (by decide) hw 7 128 y (by decide) (by decide) (by decide) h0 h1 (by omega)]
 omega
theorem group_byte (m : Nat) : bits .or .i64 (bits .and .i64 (m : Int) 127) 128 = (m : Int) % 128 + 128 := by
 rw [i64_and127, i64_or128 _ (by omega) (by omega)]
theorem specPutInt_any (a : Option Addr) (c : Nat) (zs : List Int) (n : Int) (w : World) (hr : Reads w a zs) (hc : a = none → c = 0) (hl : zs.length ≤ 70368744170000) :
  Calls Tryz.prog 36 #[.slice a zs.length c, .int .i64 n] w fun e w' => ∃ a' c' ys, e = .returned (.slice a' ys.length c') ∧ ys = zs ++ putOf n ∧ OwnB w' w.heap.size a' c' ys ∧ Below w.heap.size w w' := by
 have HC : Hid (a = none → c = 0) := hc
 clear hc
 have hzig := zig_le n
 have HGL : Hid ((groups (zig n)).length ≤ 65) := (groups_len _).2
 have HP : Hid (putOf n = groups (zig n)) := rfl
 have cs : (1000000000000 < n ∧ Hid (((zig n : Nat) : Int) = 2000000000000)) ∨ (n < -1000000000000 ∧ Hid (((zig n : Nat) : Int) = 1999999999999)) ∨
   (¬ 1000000000000 < n ∧ ¬ n < -1000000000000 ∧ 0 ≤ n ∧ Hid (((zig n : Nat) : Int) = 2 * n)) ∨ (¬ 1000000000000 < n ∧ ¬ n < -1000000000000 ∧ n < 0 ∧ Hid (((zig n : Nat) : Int) = -2 * n - 1)) := by
  by_cases h1 : 1000000000000 < n
  ·exact .inl ⟨h1, by rw [Hid, zig_pos n 1000000000000 (by unfold clampI; rw [if_pos h1]) (by omega)]; omega⟩
  ·by_cases h2 : n < -1000000000000
   ·exact .inr (.inl ⟨h2, by rw [Hid, zig_neg n (-1000000000000) (by unfold clampI; rw [if_neg h1, if_pos h2]) (by omega)]; omega⟩)
   ·by_cases h3 : 0 ≤ n
    ·exact .inr (.inr (.inl ⟨h1, h2, h3, zig_pos n n (by unfold clampI; rw [if_neg h1, if_neg h2]) h3⟩))
    ·exact .inr (.inr (.inr ⟨h1, h2, by omega, zig_neg n n (by unfold clampI; rw [if_neg h1, if_neg h2]) h3⟩))
 generalize zig n = m0 at *
 rcases cs with ⟨h1, HK⟩ | ⟨h1, HK⟩ | ⟨h1, h2, h3, HK⟩ | ⟨h1, h2, h3, HK⟩
 all_goals
  go_enter Tryz.func36, Tryz.ntmps36
  go_wp2_with (at_builtin; refine append_bytes rfl _ _ rfl w.heap.size _ _ [] rfl (own_lit0 w) a c zs rfl (hr.alloc _) HC.out (by simp; omega) (by simp) ?_; intro a1 c1 y1 w1 hy1 ho1 hg1)
  have hb1 : Below w.heap.size w w1 := ((Below.refl _ _).alloc (Nat.le_refl _) _).grown hg1 (by simp) (fun k hk => ((own_lit0 w).2.lt k hk).1)
  clear hg1 hr
  go_loopw [5, 6] (fun out mm wr => ∃ (a' : Option Addr) (c' : Nat) (ys pre : List Int) (m : Nat), out = .slice a' ys.length c' ∧ mm = .int .i64 m ∧ m ≤ m0 ∧ OwnB wr w.heap.size a' c' ys ∧ Hid (ys = zs ++ pre) ∧ Hid (groups m0 = pre ++ groups m) ∧ Below w.heap.size w wr)
   (fun _ mm _ => (intOf mm).toNat)
  case atStart => exact ⟨a1, c1, y1, [], m0, rfl, val_int HK.out.symm, Nat.le_refl _, ho1, by rw [Hid, hy1.out]; simp, by simp [Hid], hb1⟩
  case round =>
   obtain ⟨a', c', ys, pre, m, rfl, rfl, hmm, ho, hy, hg, hnx⟩ := hrel
   clear ho1 hb1 hy1 HK
   have hyl : ys.length ≤ 70368744177663 := by
    have e := congrArg List.length hy.out
    have e2 := congrArg List.length hg.out
    have := (groups_len m).1
    have := HGL.out
    simp at e e2
    omega
   have hsz := hnx.size
   by_cases hlt : 127 < m
   ·have hz : 0 ≤ ((m : Int) % 128 + 128) ∧ ((m : Int) % 128 + 128) < 256 := by omega
    have HH : Hid (_ = _) := step_big pre m m0 hg.out (by omega) (by omega)
    have hgb := group_byte m
    go_wp2_with (at_builtin; refine append_bytes rfl _ _ rfl w.heap.size a' c' ys rfl (ho.alloc _) _ _ [(m : Int) % 128 + 128] rfl (reads_lit1 wr _ _ hz) (by intro h; cases h) (by simp; omega) (by simp; omega) ?_; intro a2 c2 y2 w2 hy2 ho2 hg2)
    go_roundw
    case rel => exact ⟨a2, c2, y2, pre ++ [((m % 128 + 128 : Nat) : Int)], m / 128, rfl, rfl, by omega, ho2, by rw [Hid, hy2.out, hy.out, List.append_assoc]; rfl, HH.out, (hnx.alloc (by omega) _).grown hg2 (by simp; omega) (fun k hk => (ho.2.lt k hk).1)⟩
    case measure => simp [intOf]; omega
   ·have hz : 0 ≤ (m : Int) ∧ (m : Int) < 256 := by omega
    have HH : Hid (_ = _) := step_small zs pre ys (ys ++ [(m : Int)]) m m0 hg.out (by omega) hy.out rfl
    go_wp2_with (at_builtin; refine append_bytes rfl _ _ rfl w.heap.size a' c' ys rfl (ho.alloc _) _ _ [(m : Int)] rfl (reads_lit1 wr _ _ hz) (by intro h; cases h) (by simp; omega) (by simp; omega) ?_; intro a2 c2 y2 w2 hy2 ho2 hg2)
    go_ret
    exact ⟨a2, c2, y2, rfl, by rw [hy2.out, HP.out]; exact HH.out, ho2, (hnx.alloc (by omega) _).grown hg2 (by simp; omega) (fun k hk => (ho.2.lt k hk).1)⟩
def putList (l : List Int) : List Int := putOf l.length ++ l.flatMap putOf
def putObjOf (o : ObjV) : List Int := if okB o then (putOf o.kind ++ putList o.ints) ++ putList o.refs else []
theorem flat_len (l : List Int) : (l.flatMap putOf).length ≤ 65 * l.length := by
 induction l with
 | nil => simp
 | cons z r ih => have := (putOf_len z).2; simp only [List.flatMap_cons, List.length_append, List.length_cons]; omega
theorem putList_len (l : List Int) : (putList l).length ≤ 65 + 65 * l.length := by
 have := flat_len l
 have := (putOf_len l.length).2
 simp only [putList, List.length_append]; omega
theorem flat_take (l : List Int) (k : Nat) (h : k < l.length) : (l.take (k + 1)).flatMap putOf = (l.take k).flatMap putOf ++ putOf (l.getD k 0) := by
 rw [List.take_succ_eq_append_getElem h, List.flatMap_append]
 simp [List.getD, h]
theorem l2PutList_any (a : Option Addr) (c : Nat) (xs : List Int) (aL : Option Addr) (cL : Nat) (l : List Int) (w : World) (hr : Reads w a xs) (hc : a = none → c = 0) (hL : ReadsI w aL l) (hx : xs.length ≤ 1000000) (hl : l.length ≤ 1000) :
  Calls Tryz.prog 94 #[.slice a xs.length c, .slice aL l.length cL] w fun e w' => ∃ a' c' ys, e = .returned (.slice a' ys.length c') ∧ Hid (ys = xs ++ putList l) ∧ OwnB w' w.heap.size a' c' ys ∧ Below w.heap.size w w' := by
 go_enter Tryz.func94, Tryz.ntmps94
 go_wp2_with fail
 refine (specPutInt_any a c xs (l.length : Int) w hr hc (by omega)).mono ?_
 rintro e w1 ⟨a1, c1, y1, rfl, hy1, ho1, hb1⟩
 have HY1 : Hid (y1 = xs ++ putOf l.length) := hy1
 clear hy1
 go_wp2
 go_loopw [0, 5] (fun out i wr => ∃ (a' : Option Addr) (c' : Nat) (ys : List Int) (k : Nat), out = .slice a' ys.length c' ∧ i = .int .i64 k ∧ k ≤ l.length ∧ Hid (ys = (xs ++ putOf l.length) ++ (l.take k).flatMap putOf) ∧ OwnB wr w.heap.size a' c' ys ∧ Below w.heap.size w wr) (fun _ i _ => l.length - (intOf i).toNat)
 case atStart => exact ⟨a1, c1, y1, 0, rfl, rfl, by omega, by rw [Hid, HY1.out]; simp, ho1, hb1⟩
 case round =>
  obtain ⟨a', c', ys, k, rfl, rfl, hk, hy, ho, hb⟩ := hrel
  have hyl : ys.length ≤ 2000000 := by
   have h1 := flat_len (l.take k)
   have h2 := (putOf_len l.length).2
   rw [hy.out, List.length_append, List.length_append]
   rw [List.length_take] at h1
   omega
  by_cases hlt : k < l.length
  ·have hL' := hL.below hb
   rcases hL'.cases with rfl | ⟨b, off, rfl, hpos, hcell⟩
   ·simp at hlt
   have hcl := hcell k hlt
   have HF : Hid (_ = _) := flat_take l k hlt
   clear hcell
   generalize l.getD k 0 = z at *
   go_wp2_with fail
   refine (specPutInt_any a' c' ys z wr ho.reads ho.nocap (by omega)).mono ?_
   rintro e w2 ⟨a2, c2, y2, rfl, hy2, ho2, hb2⟩
   have HY2 : Hid (y2 = (xs ++ putOf l.length) ++ (l.take (k + 1)).flatMap putOf) := by rw [Hid, hy2, hy.out, HF.out]; simp only [List.append_assoc]
   have hbs := hb.size
   clear hy2
   go_wp2
   go_roundw
   case rel => exact ⟨a2, c2, y2, k + 1, rfl, by go_num, by omega, HY2, ho2.base hbs, hb.trans (hb2.mono hbs)⟩
   case measure => simp [intOf]; omega
  ·have HE : Hid (ys = xs ++ putList l) := by
    rw [Hid, hy.out, List.take_of_length_le (by omega)]
    simp [putList]
   go_wp2
   go_ret
   exact ⟨a', c', ys, rfl, HE, ho, hb⟩
theorem specPutObj_any (o : ObjV) (aI : Option Addr) (cI : Nat) (aR : Option Addr) (cR : Nat) (w : World) (hr : ReadsO w aI cI aR cR o) (hnI : o.ints.length ≤ 140737488355328) (hnR : o.refs.length ≤ 140737488355328) :
  Calls Tryz.prog 64 #[.agg #[.int .i64 o.kind, .slice aI o.ints.length cI, .slice aR o.refs.length cR]] w fun e w' => ∃ a' c' ys, e = .returned (.slice a' ys.length c') ∧ Hid (ys = putObjOf o) ∧ OwnB w' w.heap.size a' c' ys ∧ Below w.heap.size w w' := by
 have hok := fun w' (h : ReadsO w' aI cI aR cR o) => specObjOk_any o aI cI aR cR w' h hnI hnR
 have HPT : Hid (okB o = true → putObjOf o = (putOf o.kind ++ putList o.ints) ++ putList o.refs) := fun h => by unfold putObjOf; rw [if_pos h]
 have HPF : Hid (okB o = false → putObjOf o = []) := fun h => by unfold putObjOf; rw [if_neg (by rw [h]; decide)]
 have HLN : Hid (okB o = true → o.ints.length ≤ 5 ∧ o.refs.length ≤ 5) := fun h => by simp [okB] at h; exact ⟨h.2.1, h.2.2.1⟩
 have hcs : okB o = true ∨ okB o = false := by cases okB o <;> simp
 generalize hP : putObjOf o = P at *
 clear hP
 obtain ⟨k, ints, refs⟩ := o
 have hr' := hr
 obtain ⟨hI, hR, _, _⟩ := hr
 simp only at *
 obtain ⟨W, hW, b0, hbW, hsW⟩ := boxes1 w [.int .i64 k, .slice aI ints.length cI, .slice aR refs.length cR] 37
 go_enter Tryz.func64, Tryz.ntmps64
 go_wp2_with fail
 rw [hW.out]
 refine (hok W (hr'.below hbW)).mono ?_
 rintro e w1 ⟨rfl, hb1⟩
 have hbw1 : Below w.heap.size w w1 := hbW.trans (hb1.mono hbW.size)
 have b1 := b0.below hb1 b0.lt
 have x0 := b1.cell 0 _ rfl
 have x1 := b1.cell 1 _ rfl
 have x2 := b1.cell 2 _ rfl
 rcases hcs with hB | hB
 ·have HP : Hid (_ = _) := HPT.out hB
  obtain ⟨h5, h6⟩ := HLN.out hB
  rw [hB]
  clear hB hok
  have hL1 := (putOf_len k).2
  have HL2 : Hid (_ ≤ _) := putList_len ints
  have hlt1 := b1.lt
  have hkeep : ∀ w', Below w1.heap.size w1 w' → w'.cell? ⟨w.heap.size, 0, none⟩ = some (.int .i64 k) ∧ w'.cell? ⟨w.heap.size, 1, none⟩ = some (.slice aI ints.length cI) ∧ w'.cell? ⟨w.heap.size, 2, none⟩ = some (.slice aR refs.length cR) :=
   fun w' hh => ⟨(b1.below hh hlt1).cell 0 _ rfl, (b1.below hh hlt1).cell 1 _ rfl, (b1.below hh hlt1).cell 2 _ rfl⟩
  go_wp2_with fail
  go_region_held3 (fun w' => w'.cell? ⟨w.heap.size, 0, none⟩ = some (.int .i64 k) ∧ w'.cell? ⟨w.heap.size, 1, none⟩ = some (.slice aI ints.length cI) ∧ w'.cell? ⟨w.heap.size, 2, none⟩ = some (.slice aR refs.length cR))
   (first | exact hkeep _ ((Below.refl _ _).alloc (Nat.le_refl _) _).drew | exact hkeep _ ((Below.refl _ _).alloc (Nat.le_refl _) _) | exact hkeep _ hw4 | exact hkeep _ hw3 | exact hkeep _ hw2 | go_keep)
   (first
   | (go_at_call 36; refine (specPutInt_any _ 0 [] k _ ⟨by simp, by simp⟩ (fun h => by cases h) (by simp)).mono ?_; rintro e w2 ⟨a2, c2, y2, rfl, hy2, ho2, hb2⟩; have hw2 : Below w1.heap.size w1 w2 := ((Below.refl _ _).alloc (Nat.le_refl _) _).drew.trans (hb2.mono (by simp [World.drew])); have HY2 : Hid (y2 = [] ++ putOf k) := hy2; have hl2 : y2.length ≤ 65 := (by rw [hy2]; simp; omega); clear hy2)
   | (go_at_call_of 94 (Value.slice a2 y2.length c2); refine (l2PutList_any a2 c2 y2 aI cI ints w2 ho2.reads ho2.nocap (hI.below (hbw1.trans (hw2.mono hbw1.size))) (by omega) (by omega)).mono ?_; rintro e w3 ⟨a3, c3, y3, rfl, HY3, ho3, hb3⟩; have hw3 : Below w1.heap.size w1 w3 := hw2.trans (hb3.mono hw2.size); have hl3 : y3.length ≤ 1000 := (by have := HL2.out; rw [HY3.out, List.length_append]; omega))
   | (go_at_call_of 94 (Value.slice a3 y3.length c3); refine (l2PutList_any a3 c3 y3 aR cR refs w3 ho3.reads ho3.nocap (hR.below (hbw1.trans (hw3.mono hbw1.size))) (by omega) (by omega)).mono ?_; rintro e w4 ⟨a4, c4, y4, rfl, HY4, ho4, hb4⟩; have hw4 : Below w1.heap.size w1 w4 := hw3.trans (hb4.mono hw3.size)))
  go_wp2
  go_ret
  exact ⟨a4, c4, y4, rfl, by rw [Hid, HP.out, HY4.out, HY3.out, HY2.out]; simp, ho4.base (Nat.le_trans hbw1.size hw3.size), hbw1.trans (hw4.mono hbw1.size)⟩
 ·have HP : Hid (_ = _) := HPF.out hB
  rw [hB]
  clear hB hok
  go_wp2
  go_ret
  exact ⟨_, 0, [], rfl, HP.out.symm, (own_lit0 w1).base hbw1.size, hbw1.alloc hbw1.size _⟩
end Go.Proofs.YtickiokdcbeefaaGreatDoor
namespace Go.Proofs.YtickiokdcbeefaaGreatDoor
def lead : List Int → Nat
 | [] => 0
 | z :: r => if 128 ≤ z then lead r + 1 else 0
def valOf : List Int → Nat
 | [] => 0
 | z :: r => (z % 128).toNat + 128 * valOf r
def unzig (m : Nat) : Int := if m % 2 = 0 then ((m / 2 : Nat) : Int) else -((m / 2 : Nat) : Int) - 1
def getOf (L : List Int) : Option (Int × Nat) :=
 if lead L < L.length ∧ lead L < 6 ∧ ¬ (0 < lead L ∧ L.getD (lead L) 0 = 0) ∧ valOf (L.take (lead L + 1)) ≤ 2000000000000 then some (unzig (valOf (L.take (lead L + 1))), lead L + 1) else none
def getAt (zs : List Int) (p : Int) : Option (Int × Nat) := if 0 ≤ p then (getOf (zs.drop p.toNat)).map fun r => (r.1, p.toNat + r.2) else none
theorem lead_le (L : List Int) : lead L ≤ L.length := by
 induction L with
 | nil => simp [lead]
 | cons z r ih => unfold lead; split <;> simp <;> omega
theorem lead_ge (k : Nat) : ∀ L : List Int, k ≤ L.length → (∀ i, i < k → 128 ≤ L.getD i 0) → k ≤ lead L := by
 induction k with
 | zero => intro L _ _; omega
 | succ k ih =>
  intro L hl h
  cases L with
  | nil => simp at hl
  | cons z r =>
   have h0 := h 0 (by omega)
   simp at h0
   unfold lead
   rw [if_pos h0]
   have := ih r (by simp at hl; omega) (fun i hi => by have := h (i + 1) (by omega); simpa using this)
   omega
theorem lead_stop (k : Nat) : ∀ L : List Int, k < L.length → L.getD k 0 < 128 → lead L ≤ k := by
 induction k with
 | zero =>
  intro L hl h
  cases L with
  | nil => simp at hl
  | cons z r =>
   simp at h
   unfold lead
   rw [if_neg (by omega)]
   omega
 | succ k ih =>
  intro L hl h
  cases L with
  | nil => simp at hl
  | cons z r =>
   unfold lead
   split
   ·have := ih r (by simp at hl; omega) (by simpa using h)
    omega
   ·omega
theorem valOf_snoc (L : List Int) (z : Int) : valOf (L ++ [z]) = valOf L + (z % 128).toNat * 128 ^ L.length := by
 induction L with
 | nil => simp [valOf]
 | cons y r ih =>
  simp only [List.cons_append, valOf, ih, List.length_cons]
  rw [Nat.pow_succ, Nat.mul_add, Nat.add_assoc]
  congr 1
  rw [Nat.mul_left_comm, Nat.mul_comm 128 (128 ^ r.length)]
theorem valOf_take (L : List Int) (k : Nat) (h : k < L.length) : valOf (L.take (k + 1)) = valOf (L.take k) + (L.getD k 0 % 128).toNat * 128 ^ k := by
 rw [List.take_succ_eq_append_getElem h, valOf_snoc]
 simp [List.getD, h]
 rw [Nat.min_eq_left (by omega)]
theorem valOf_lt (L : List Int) : valOf L < 128 ^ L.length := by
 induction L with
 | nil => simp [valOf]
 | cons z r ih =>
  simp only [valOf, List.length_cons, Nat.pow_succ]
  have : (z % 128).toNat < 128 := by omega
  omega
theorem valOf_take_lt (L : List Int) (k : Nat) (h : k ≤ 6) : valOf (L.take k) < 4398046511104 ∧ valOf (L.take k) < 128 ^ k := by
 have h1 := valOf_lt (L.take k)
 have h2 : (L.take k).length ≤ k := List.length_take_le _ _
 have h3 : (128 : Nat) ^ (L.take k).length ≤ 128 ^ k := Nat.pow_le_pow_right (by omega) h2
 have h4 : (128 : Nat) ^ k ≤ 128 ^ 6 := Nat.pow_le_pow_right (by omega) h
 have h5 : (128 : Nat) ^ 6 = 4398046511104 := by decide
 omega
theorem getOf_some (L : List Int) (k : Nat) (hk : lead L = k) (h1 : k < L.length) (h2 : k < 6) (h3 : ¬ (0 < k ∧ L.getD k 0 = 0)) (h4 : valOf (L.take (k + 1)) ≤ 2000000000000) :
  getOf L = some (unzig (valOf (L.take (k + 1))), k + 1) := by
 subst hk; unfold getOf; rw [if_pos ⟨h1, h2, h3, h4⟩]
theorem getOf_none (L : List Int) (h : lead L = L.length ∨ 6 ≤ lead L ∨ (0 < lead L ∧ L.getD (lead L) 0 = 0) ∨ 2000000000000 < valOf (L.take (lead L + 1))) : getOf L = none := by
 unfold getOf
 rw [if_neg]
 rintro ⟨h1, h2, h3, h4⟩
 rcases h with h | h | h | h
 ·omega
 ·omega
 ·exact h3 h
 ·omega
theorem unzig_bd (m : Nat) : (-1000000000000 ≤ unzig m ∧ unzig m ≤ 1000000000000) ↔ m ≤ 2000000000000 := by
 unfold unzig; split <;> omega
theorem getAt_bd (zs : List Int) (p n : Int) (k : Nat) (h : getAt zs p = some (n, k)) : k ≤ zs.length ∧ -1000000000000 ≤ n ∧ n ≤ 1000000000000 := by
 unfold getAt at h
 split at h
 ·unfold getOf at h
  split at h
  ·rename_i h1 h2
   simp only [Option.map_some, Option.some.injEq, Prod.mk.injEq] at h
   obtain ⟨rfl, rfl⟩ := h
   have hb := (unzig_bd _).2 h2.2.2.2
   have hl : (zs.drop p.toNat).length = zs.length - p.toNat := List.length_drop
   refine ⟨?_, hb.1, hb.2⟩
   omega
  ·simp at h
 ·simp at h
end Go.Proofs.YtickiokdcbeefaaGreatDoor
namespace Go.Proofs.YtickiokdcbeefaaGreatDoor
def crcBit (x : Nat) : Nat := if x % 2 = 1 then (x / 2) ^^^ 3988292384 else x / 2
def crcBits : Nat → Nat → Nat
 | 0, x => x
 | k + 1, x => crcBit (crcBits k x)
def crcByte (x : Nat) (c : Nat) : Nat := crcBits 8 (x ^^^ c)
def crcTo (zs : List Int) (k : Nat) : Nat := (zs.take k).foldl (fun x c => crcByte x c.toNat) 4294967295
def crcOf (zs : List Int) : Nat := 4294967295 ^^^ crcTo zs zs.length
theorem crcBit_lt (x : Nat) (h : x < 4294967296) : crcBit x < 4294967296 := by
 unfold crcBit
 split
 ·exact Nat.xor_lt_two_pow (n := 32) (by omega) (by omega)
 ·omega
theorem crcBits_lt (k x : Nat) (h : x < 4294967296) : crcBits k x < 4294967296 := by
 induction k with
 | zero => exact h
 | succ k ih => exact crcBit_lt _ ih
theorem xor_byte_lt (x c : Nat) (h : x < 4294967296) (hc : c < 256) : x ^^^ c < 4294967296 :=
 Nat.xor_lt_two_pow (n := 32) (by omega) (by omega)
theorem crcByte_lt (x c : Nat) (h : x < 4294967296) (hc : c < 256) : crcByte x c < 4294967296 :=
 crcBits_lt 8 _ (xor_byte_lt x c h hc)
theorem crcTo_zero (zs : List Int) : crcTo zs 0 = 4294967295 := by simp [crcTo]
theorem crcTo_succ (zs : List Int) (k : Nat) (h : k < zs.length) : crcTo zs (k + 1) = crcByte (crcTo zs k) (zs.getD k 0).toNat := by
 unfold crcTo
 rw [List.take_succ_eq_append_getElem h, List.foldl_append]
 simp [h]
theorem crcTo_lt (zs : List Int) (hb : ∀ z ∈ zs, 0 ≤ z ∧ z < 256) (k : Nat) : crcTo zs k < 4294967296 := by
 induction k with
 | zero => rw [crcTo_zero]; omega
 | succ k ih =>
  by_cases h : k < zs.length
  ·rw [crcTo_succ zs k h]
   have hm : zs.getD k 0 ∈ zs := by simp [List.getD, h]
   have := hb _ hm
   exact crcByte_lt _ _ ih (by omega)
  ·have e : crcTo zs (k + 1) = crcTo zs k := by
    unfold crcTo
    rw [List.take_of_length_le (by omega), List.take_of_length_le (by omega)]
   rw [e]; exact ih
end Go.Proofs.YtickiokdcbeefaaGreatDoor
namespace Go.Proofs.YtickiokdcbeefaaGreatDoor
open Go.RowKit
def triple : Option (Int × Nat) → Value
 | some r => .tuple #[.int .i64 r.1, .int .i64 (r.2 : Nat), .bool true]
 | none => .tuple #[.int .i64 0, .int .i64 0, .bool false]
theorem getAt_neg (zs : List Int) (p : Int) (h : p < 0) : getAt zs p = none := by unfold getAt; rw [if_neg (by omega)]
theorem getAt_past (zs : List Int) (p : Int) (h : (zs.length : Int) ≤ p) : getAt zs p = none := by
 unfold getAt
 rw [if_pos (by omega), List.drop_of_length_le (by omega)]
 rfl
theorem getAt_nat (zs : List Int) (p : Nat) : getAt zs (p : Int) = (getOf (zs.drop p)).map fun r => (r.1, p + r.2) := by
 unfold getAt; rw [if_pos (by omega), Int.toNat_natCast]
def nextOf (zs : List Int) (s : Int × Bool) : Int × (Int × Bool) := match s.2, getAt zs s.1 with
 | false, some r => (r.1, ((r.2 : Int), false))
 | _, _ => (0, (s.1, true))
def numsOf (zs : List Int) : Nat → List Int → Int × Bool → List Int × (Int × Bool)
 | 0, l, s => (l, s)
 | k + 1, l, s => if s.2 then (l, s) else numsOf zs k (l ++ [(nextOf zs s).1]) (nextOf zs s).2
def badIf (b : Bool) (s : Int × Bool) : Int × Bool := (s.1, s.2 || b)
def listOf (zs : List Int) (most : Int) (s : Int × Bool) : List Int × (Int × Bool) :=
 numsOf zs (nextOf zs s).1.toNat [] (badIf (!inB (nextOf zs s).1 0 most) (nextOf zs s).2)
theorem nextOf_some (zs : List Int) (p n : Int) (k : Nat) (h : getAt zs p = some (n, k)) : nextOf zs (p, false) = (n, ((k : Int), false)) := by simp [nextOf, h]
theorem numsOf_step (zs : List Int) (k : Nat) (l : List Int) (p : Int) : numsOf zs (k + 1) l (p, false) = numsOf zs k (l ++ [(nextOf zs (p, false)).1]) (nextOf zs (p, false)).2 := by simp [numsOf]
end Go.Proofs.YtickiokdcbeefaaGreatDoor
namespace Go.Proofs.YtickiokdcbeefaaGreatDoor
theorem groups_ind (P : Nat → Prop) (small : ∀ m, m < 128 → P m) (big : ∀ m, 128 ≤ m → m < 2 ^ 64 → P (m / 128) → P m) : ∀ m, m < 2 ^ 64 → P m := by
 intro m
 induction m using Nat.strongRecOn with
 | _ m ih =>
  intro hm
  by_cases h : m < 128
  ·exact small m h
  ·exact big m (by omega) hm (ih (m / 128) (by omega) (by omega))
theorem groups_val (m : Nat) (hm : m < 2 ^ 64) : valOf (groups m) = m := by
 refine groups_ind (fun m => valOf (groups m) = m) ?_ ?_ m hm
 ·intro m h; rw [groups_small m h]; simp only [valOf]; omega
 ·intro m h1 h2 h3; rw [groups_big m h1 h2]; simp only [valOf, h3]; omega
theorem groups_lead (rest : List Int) (m : Nat) (hm : m < 2 ^ 64) : lead (groups m ++ rest) + 1 = (groups m).length := by
 refine groups_ind (fun m => lead (groups m ++ rest) + 1 = (groups m).length) ?_ ?_ m hm
 ·intro m h; rw [groups_small m h]; simp only [List.cons_append, List.nil_append, lead]; rw [if_neg (by omega)]; rfl
 ·intro m h1 h2 h3; rw [groups_big m h1 h2]; simp only [List.cons_append, lead]; rw [if_pos (by omega), h3]; rfl
theorem groups_last (m : Nat) (hm : m < 2 ^ 64) : 0 < m → (groups m).getD ((groups m).length - 1) 0 ≠ 0 := by
 refine groups_ind (fun m => 0 < m → (groups m).getD ((groups m).length - 1) 0 ≠ 0) ?_ ?_ m hm
 ·intro m h h0; rw [groups_small m h]; simp; omega
 ·intro m h1 h2 h3 _
  have hl := (groups_len (m / 128)).1
  have h4 := h3 (by omega)
  rw [groups_big m h1 h2]
  have e : (((m % 128 + 128 : Nat) : Int) :: groups (m / 128)).length - 1 = ((groups (m / 128)).length - 1) + 1 := by simp; omega
  rw [e]
  simpa using h4
theorem groups_len_le (k : Nat) : ∀ m, m < 128 ^ (k + 1) → m < 2 ^ 64 → (groups m).length ≤ k + 1 := by
 induction k with
 | zero => intro m h _; rw [groups_small m (by omega)]; simp
 | succ k ih =>
  intro m h hm
  by_cases hs : m < 128
  ·rw [groups_small m hs]; simp
  ·rw [groups_big m (by omega) hm]
   have := ih (m / 128) (by rw [Nat.pow_succ] at h; omega) (by omega)
   simp; omega
theorem getOf_groups (rest : List Int) (m : Nat) (hm : m ≤ 2000000000000) : getOf (groups m ++ rest) = some (unzig m, (groups m).length) := by
 have h64 : m < 2 ^ 64 := by omega
 have hl := groups_lead rest m h64
 have h6 := groups_len_le 5 m (by omega) h64
 have h1 := (groups_len m).1
 have htake : (groups m ++ rest).take (lead (groups m ++ rest) + 1) = groups m := by rw [hl]; simp
 rw [getOf_some (groups m ++ rest) (lead (groups m ++ rest)) rfl (by rw [List.length_append]; omega) (by omega) ?_ (by rw [htake, groups_val m h64]; exact hm)]
 ·rw [htake, groups_val m h64, hl]
 ·rintro ⟨h0, hz⟩
  have hlt : lead (groups m ++ rest) < (groups m).length := by omega
  have hpos : 0 < m := by
   by_cases e : 128 ≤ m
   ·omega
   ·have := groups_small m (by omega)
    rw [this] at hl h0
    simp only [List.length_cons, List.length_nil] at hl
    omega
  have := groups_last m h64 hpos
  apply this
  have e : (groups m).length - 1 = lead (groups m ++ rest) := by omega
  rw [e, ← hz]
  simp [List.getD, List.getElem?_append, hlt]
theorem unzig_zig (n : Int) : unzig (zig n) = clampI n := by
 unfold unzig zig
 have := clampI_bd n
 split <;> split at * <;> omega
theorem back_int (zs rest : List Int) (n : Int) : getAt (zs ++ (putOf n ++ rest)) zs.length = some (clampI n, zs.length + (putOf n).length) := by
 rw [getAt_nat, List.drop_left]
 show Option.map _ (getOf (groups (zig n) ++ rest)) = _
 rw [getOf_groups rest (zig n) (zig_le n), unzig_zig]
 rfl
end Go.Proofs.YtickiokdcbeefaaGreatDoor
namespace Go.Proofs.YtickiokdcbeefaaGreatDoor
open Go.RowKit
def readO (zs : List Int) : ObjV × Bool :=
 (⟨(nextOf zs (0, false)).1, (listOf zs 5 (nextOf zs (0, false)).2).1, (listOf zs 5 (listOf zs 5 (nextOf zs (0, false)).2).2).1⟩, (listOf zs 5 (listOf zs 5 (nextOf zs (0, false)).2).2).2.2)
theorem clampI_small (n : Int) (h : -1000000 ≤ n ∧ n ≤ 1000000) : clampI n = n := by unfold clampI; rw [if_neg (by omega), if_neg (by omega)]
theorem next_back (pre rest : List Int) (n : Int) (h : -1000000 ≤ n ∧ n ≤ 1000000) : nextOf (pre ++ putOf n ++ rest) ((pre.length : Int), false) = (n, (((pre ++ putOf n).length : Int), false)) := by
 rw [List.append_assoc, nextOf_some _ _ (clampI n) (pre.length + (putOf n).length) (back_int pre rest n), clampI_small n h]
 simp
theorem nums_back (l : List Int) : ∀ (pre rest acc : List Int), (∀ z ∈ l, -1000000 ≤ z ∧ z ≤ 1000000) → numsOf (pre ++ l.flatMap putOf ++ rest) l.length acc ((pre.length : Int), false) = (acc ++ l, (((pre ++ l.flatMap putOf).length : Int), false)) := by
 induction l with
 | nil => intro pre rest acc _; simp [numsOf]
 | cons z r ih =>
  intro pre rest acc h
  have hz := h z (by simp)
  have e : pre ++ (z :: r).flatMap putOf ++ rest = (pre ++ putOf z) ++ r.flatMap putOf ++ rest := by simp
  have e2 : pre ++ (z :: r).flatMap putOf ++ rest = pre ++ putOf z ++ (r.flatMap putOf ++ rest) := by simp
  rw [List.length_cons, numsOf_step, e2, next_back pre _ z hz, ← e2, e]
  simp only
  rw [ih (pre ++ putOf z) rest (acc ++ [z]) (fun y hy => h y (by simp [hy]))]
  simp
theorem list_back (pre rest l : List Int) (hl : l.length ≤ 5) (h : ∀ z ∈ l, -1000000 ≤ z ∧ z ≤ 1000000) : listOf (pre ++ putList l ++ rest) 5 ((pre.length : Int), false) = (l, (((pre ++ putList l).length : Int), false)) := by
 have e : pre ++ putList l ++ rest = pre ++ putOf l.length ++ (l.flatMap putOf ++ rest) := by simp [putList]
 have e2 : pre ++ putList l ++ rest = (pre ++ putOf l.length) ++ l.flatMap putOf ++ rest := by simp [putList]
 have hn := next_back pre (l.flatMap putOf ++ rest) (l.length : Int) (by omega)
 rw [← e] at hn
 unfold listOf
 rw [hn]
 have hi : inB (l.length : Int) 0 5 = true := by unfold inB; rw [decide_eq_true_eq]; omega
 simp only [hi, badIf, Bool.not_true, Bool.or_false, Int.toNat_natCast]
 rw [e2, nums_back l (pre ++ putOf l.length) rest [] h]
 simp [putList]
theorem okB_bd {o : ObjV} (h : okB o = true) : (1 ≤ o.kind ∧ o.kind ≤ 99) ∧ o.ints.length ≤ 5 ∧ o.refs.length ≤ 5 ∧ (∀ z ∈ o.ints, -1000000 ≤ z ∧ z ≤ 1000000) ∧ (∀ z ∈ o.refs, 0 ≤ z ∧ z ≤ 31) := by
 simp [okB, inB] at h
 exact ⟨h.1, h.2.1, h.2.2.1, h.2.2.2.1, h.2.2.2.2⟩
theorem put_ok {o : ObjV} (h : okB o = true) : putObjOf o = (putOf o.kind ++ putList o.ints) ++ putList o.refs := by unfold putObjOf; rw [if_pos h]
theorem read_back (o : ObjV) (h : okB o = true) : readO (putObjOf o) = (o, false) := by
 obtain ⟨hk, h5, h6, hi, hr⟩ := okB_bd h
 rw [put_ok h]
 have e0 : putOf o.kind ++ putList o.ints ++ putList o.refs = [] ++ putOf o.kind ++ (putList o.ints ++ putList o.refs) := by simp
 have e2 : putOf o.kind ++ putList o.ints ++ putList o.refs = (putOf o.kind ++ putList o.ints) ++ putList o.refs ++ [] := by simp
 have n1 := next_back [] (putList o.ints ++ putList o.refs) o.kind (by omega)
 rw [← e0] at n1
 simp only [List.nil_append, List.length_nil, Int.natCast_zero] at n1
 have l1 := list_back (putOf o.kind) (putList o.refs) o.ints h5 hi
 have l2 := list_back (putOf o.kind ++ putList o.ints) [] o.refs h6 (fun z hz => by have := hr z hz; omega)
 rw [← e2] at l2
 unfold readO
 simp only [show ((0 : Int), false) = (((0 : Nat) : Int), false) from rfl] at *
 rw [n1, l1, l2]
def getO (b : List Int) : Option ObjV := if (readO b).2 = false ∧ okB (readO b).1 = true ∧ putObjOf (readO b).1 = b then some (readO b).1 else none
theorem getO_some {b : List Int} {o : ObjV} (h1 : okB o = true) (h2 : putObjOf o = b) : getO b = some o := by
 have h := read_back o h1
 rw [h2] at h
 unfold getO
 rw [h]
 simp [h1, h2]
theorem getO_none {b : List Int} (h : ¬ ∃ o, okB o = true ∧ putObjOf o = b) : getO b = none := by
 unfold getO
 rw [if_neg]
 rintro ⟨_, h1, h2⟩
 exact h ⟨_, h1, h2⟩
theorem getO_ok {b : List Int} {o : ObjV} (h : getO b = some o) : okB o = true := by
 unfold getO at h
 split at h
 ·rename_i hh
  simp only [Option.some.injEq] at h
  rw [← h]; exact hh.2.1
 ·cases h
def noO : ObjV := ⟨0, [], []⟩
def getPair (b : List Int) : ObjV × Bool := match getO b with
 | some o => (o, true)
 | none => (noO, false)
def Bytes (zs : List Int) : Prop := ∀ z ∈ zs, 0 ≤ z ∧ z < 256
theorem Bytes.drop {zs : List Int} (h : Bytes zs) (p : Nat) : Bytes (zs.drop p) := fun z hz => h z (List.mem_of_mem_drop hz)
theorem lead_at : ∀ L : List Int, lead L < L.length → L.getD (lead L) 0 < 128 := by
 intro L
 induction L with
 | nil => intro h; simp [lead] at h
 | cons z r ih =>
  intro h
  unfold lead at h ⊢
  split
  ·rename_i hz
   rw [if_pos hz, List.length_cons] at h
   have := ih (by omega)
   simpa using this
  ·simp; omega
theorem groups_canon : ∀ L : List Int, Bytes L → lead L < L.length → lead L < 6 → ¬ (0 < lead L ∧ L.getD (lead L) 0 = 0) → groups (valOf (L.take (lead L + 1))) = L.take (lead L + 1) := by
 intro L
 induction L with
 | nil => intro _ h; simp [lead] at h
 | cons z r ih =>
  intro hb hl h6 h0
  have hz := hb z (by simp)
  by_cases hbig : 128 ≤ z
  ·have hle : lead (z :: r) = lead r + 1 := by simp [lead, hbig]
   rw [hle] at hl h6 h0 ⊢
   simp only [List.length_cons] at hl
   have hr : Bytes r := fun y hy => hb y (by simp [hy])
   have hlast : r.getD (lead r) 0 ≠ 0 := by
    intro e
    exact h0 ⟨by omega, by simpa using e⟩
   have ihr := ih hr (by omega) (by omega) (fun h => hlast h.2)
   have hlt := lead_at r (by omega)
   have hge := bytes_at hr (lead r)
   have hvt := valOf_take r (lead r) (by omega)
   have hvb := (valOf_take_lt r (lead r + 1) (by omega)).1
   have hpow : 1 ≤ (128 : Nat) ^ lead r := by
    have := Nat.pow_le_pow_right (n := 128) (by omega) (Nat.zero_le (lead r))
    simpa using this
   have hm1 : 1 ≤ (r.getD (lead r) 0 % 128).toNat := by omega
   have hV : 1 ≤ valOf (r.take (lead r + 1)) := by
    rw [hvt]
    have : 1 * 1 ≤ (r.getD (lead r) 0 % 128).toNat * 128 ^ lead r := Nat.mul_le_mul hm1 hpow
    omega
   rw [List.take_succ_cons, valOf]
   generalize valOf (r.take (lead r + 1)) = V at *
   rw [groups_big _ (by omega) (by omega)]
   have e1 : ((z % 128).toNat + 128 * V) / 128 = V := by omega
   have e2 : ((((z % 128).toNat + 128 * V) % 128 + 128 : Nat) : Int) = z := by omega
   rw [e1, e2, ihr]
  ·have hle : lead (z :: r) = 0 := by simp [lead]; omega
   rw [hle]
   simp only [Nat.zero_add, List.take_succ_cons, List.take_zero, valOf]
   rw [groups_small _ (by omega)]
   simp; omega
theorem zig_unzig (m : Nat) (h : m ≤ 2000000000000) : zig (unzig m) = m ∧ clampI (unzig m) = unzig m := by
 have hb := (unzig_bd m).2 h
 have hc : clampI (unzig m) = unzig m := by unfold clampI; rw [if_neg (by omega), if_neg (by omega)]
 refine ⟨?_, hc⟩
 unfold zig
 rw [hc]
 unfold unzig
 split <;> split <;> omega
theorem getOf_canon (L : List Int) (hb : Bytes L) (n : Int) (k : Nat) (h : getOf L = some (n, k)) : k = (putOf n).length ∧ L.take k = putOf n ∧ 1 ≤ k ∧ k ≤ L.length := by
 unfold getOf at h
 split at h
 ·rename_i hh
  simp only [Option.some.injEq, Prod.mk.injEq] at h
  obtain ⟨rfl, rfl⟩ := h
  have hg := groups_canon L hb hh.1 hh.2.1 hh.2.2.1
  have hz := (zig_unzig _ hh.2.2.2).1
  have hp : putOf (unzig (valOf (L.take (lead L + 1)))) = L.take (lead L + 1) := by unfold putOf; rw [hz, hg]
  refine ⟨?_, hp.symm, by omega, by omega⟩
  rw [hp, List.length_take]; omega
 ·cases h
theorem getAt_canon (zs : List Int) (hb : Bytes zs) (p : Nat) (n : Int) (q : Nat) (h : getAt zs (p : Int) = some (n, q)) : zs.drop p = putOf n ++ zs.drop q ∧ p < q ∧ q ≤ zs.length := by
 rw [getAt_nat] at h
 cases hg : getOf (zs.drop p) with
 | none => rw [hg] at h; cases h
 | some r =>
  obtain ⟨m, k⟩ := r
  rw [hg] at h
  simp only [Option.map_some, Option.some.injEq, Prod.mk.injEq] at h
  obtain ⟨rfl, rfl⟩ := h
  obtain ⟨hk, ht, h1, h2⟩ := getOf_canon _ (hb.drop p) m k hg
  rw [List.length_drop] at h2
  refine ⟨?_, by omega, by omega⟩
  rw [← ht, ← List.drop_drop, List.take_append_drop]
def numsAt (zs : List Int) : Nat → Nat → Option (List Int × Nat)
 | 0, p => some ([], p)
 | n + 1, p => match getAt zs (p : Int) with
  | none => none
  | some (x, q) => match numsAt zs n q with
   | none => none
   | some (l, r) => some (x :: l, r)
def partsAt (zs : List Int) (p : Nat) : Option (List Int × Nat) := match getAt zs (p : Int) with
 | none => none
 | some (n, q) => if 0 ≤ n ∧ n ≤ 5 then numsAt zs n.toNat q else none
def readAll (zs : List Int) : Option ObjV := match getAt zs 0 with
 | none => none
 | some (k, p) => match partsAt zs p with
  | none => none
  | some (is, q) => match partsAt zs q with
   | none => none
   | some (rs, r) => if r = zs.length then some ⟨k, is, rs⟩ else none
theorem numsAt_canon (zs : List Int) (hb : Bytes zs) (n : Nat) : ∀ (p : Nat) (l : List Int) (q : Nat), numsAt zs n p = some (l, q) → p ≤ zs.length → l.length = n ∧ zs.drop p = l.flatMap putOf ++ zs.drop q ∧ q ≤ zs.length := by
 induction n with
 | zero =>
  intro p l q h hp
  simp only [numsAt, Option.some.injEq, Prod.mk.injEq] at h
  obtain ⟨rfl, rfl⟩ := h
  exact ⟨rfl, by simp, hp⟩
 | succ n ih =>
  intro p l q h hp
  unfold numsAt at h
  cases hg : getAt zs (p : Int) with
  | none => rw [hg] at h; cases h
  | some r =>
   obtain ⟨x, q1⟩ := r
   rw [hg] at h
   simp only at h
   obtain ⟨hd, h1, h2⟩ := getAt_canon zs hb p x q1 hg
   cases hn : numsAt zs n q1 with
   | none => rw [hn] at h; cases h
   | some t =>
    obtain ⟨l1, q2⟩ := t
    rw [hn] at h
    simp only [Option.some.injEq, Prod.mk.injEq] at h
    obtain ⟨rfl, rfl⟩ := h
    obtain ⟨hl, hd2, h3⟩ := ih q1 l1 q2 hn h2
    refine ⟨by simp [hl], ?_, h3⟩
    rw [hd, hd2]; simp
theorem partsAt_canon (zs : List Int) (hb : Bytes zs) (p : Nat) (l : List Int) (q : Nat) (h : partsAt zs p = some (l, q)) : l.length ≤ 5 ∧ zs.drop p = putList l ++ zs.drop q ∧ q ≤ zs.length := by
 unfold partsAt at h
 cases hg : getAt zs (p : Int) with
 | none => rw [hg] at h; cases h
 | some r =>
  obtain ⟨n, q1⟩ := r
  rw [hg] at h
  simp only at h
  obtain ⟨hd, h1, h2⟩ := getAt_canon zs hb p n q1 hg
  split at h
  ·rename_i h5
   obtain ⟨hl, hd2, h3⟩ := numsAt_canon zs hb _ q1 l q h h2
   refine ⟨by omega, ?_, h3⟩
   have e : (l.length : Int) = n := by omega
   rw [hd, hd2]; simp [putList, e]
  ·cases h
theorem readAll_canon (zs : List Int) (hb : Bytes zs) (o : ObjV) (h : readAll zs = some o) : zs = (putOf o.kind ++ putList o.ints) ++ putList o.refs ∧ o.ints.length ≤ 5 ∧ o.refs.length ≤ 5 := by
 unfold readAll at h
 cases hg : getAt zs 0 with
 | none => rw [hg] at h; cases h
 | some r =>
  obtain ⟨k, p⟩ := r
  rw [hg] at h
  simp only at h
  obtain ⟨hd, h1, h2⟩ := getAt_canon zs hb 0 k p hg
  cases hp : partsAt zs p with
  | none => rw [hp] at h; cases h
  | some t =>
   obtain ⟨is, q⟩ := t
   rw [hp] at h
   simp only at h
   obtain ⟨hl1, hd1, h3⟩ := partsAt_canon zs hb p is q hp
   cases hq : partsAt zs q with
   | none => rw [hq] at h; cases h
   | some t =>
    obtain ⟨rs, r⟩ := t
    rw [hq] at h
    simp only at h
    obtain ⟨hl2, hd2, h4⟩ := partsAt_canon zs hb q rs r hq
    split at h
    ·rename_i hr
     simp only [Option.some.injEq] at h
     subst h
     refine ⟨?_, hl1, hl2⟩
     simp only [List.drop_zero] at hd
     rw [hd, hd1, hd2, hr, List.drop_length]; simp
    ·cases h
theorem getAt_back (pre rest : List Int) (n : Int) (h : -1000000 ≤ n ∧ n ≤ 1000000) : getAt (pre ++ putOf n ++ rest) (pre.length : Int) = some (n, (pre ++ putOf n).length) := by
 rw [List.append_assoc, back_int pre rest n, clampI_small n h]; simp
theorem numsAt_back (l : List Int) : ∀ (pre rest : List Int), (∀ z ∈ l, -1000000 ≤ z ∧ z ≤ 1000000) → numsAt (pre ++ l.flatMap putOf ++ rest) l.length pre.length = some (l, (pre ++ l.flatMap putOf).length) := by
 induction l with
 | nil => intro pre rest _; simp [numsAt]
 | cons z r ih =>
  intro pre rest h
  have hz := h z (by simp)
  have e : pre ++ (z :: r).flatMap putOf ++ rest = (pre ++ putOf z) ++ r.flatMap putOf ++ rest := by simp
  have e2 : pre ++ (z :: r).flatMap putOf ++ rest = pre ++ putOf z ++ (r.flatMap putOf ++ rest) := by simp
  rw [List.length_cons, numsAt, e2, getAt_back pre _ z hz]
  simp only
  rw [← e2, e, ih (pre ++ putOf z) rest (fun y hy => h y (by simp [hy]))]
  simp
theorem partsAt_back (pre rest l : List Int) (hl : l.length ≤ 5) (h : ∀ z ∈ l, -1000000 ≤ z ∧ z ≤ 1000000) : partsAt (pre ++ putList l ++ rest) pre.length = some (l, (pre ++ putList l).length) := by
 have e : pre ++ putList l ++ rest = pre ++ putOf l.length ++ (l.flatMap putOf ++ rest) := by simp [putList]
 have e2 : pre ++ putList l ++ rest = (pre ++ putOf l.length) ++ l.flatMap putOf ++ rest := by simp [putList]
 have hn := getAt_back pre (l.flatMap putOf ++ rest) (l.length : Int) (by omega)
 rw [← e] at hn
 unfold partsAt
 rw [hn]
 simp only
 rw [if_pos (by omega), Int.toNat_natCast, e2, numsAt_back l (pre ++ putOf l.length) rest h]
 simp [putList]
theorem readAll_back (o : ObjV) (h : okB o = true) : readAll (putObjOf o) = some o := by
 obtain ⟨hk, h5, h6, hi, hr⟩ := okB_bd h
 rw [put_ok h]
 have e0 : putOf o.kind ++ putList o.ints ++ putList o.refs = [] ++ putOf o.kind ++ (putList o.ints ++ putList o.refs) := by simp
 have e2 : putOf o.kind ++ putList o.ints ++ putList o.refs = (putOf o.kind ++ putList o.ints) ++ putList o.refs ++ [] := by simp
 have n1 := getAt_back [] (putList o.ints ++ putList o.refs) o.kind (by omega)
 rw [← e0] at n1
 simp only [List.nil_append, List.length_nil, Int.natCast_zero] at n1
 have l1 := partsAt_back (putOf o.kind) (putList o.refs) o.ints h5 hi
 have l2 := partsAt_back (putOf o.kind ++ putList o.ints) [] o.refs h6 (fun z hz => by have := hr z hz; omega)
 rw [← e2] at l2
 unfold readAll
 rw [n1]
 simp only
 rw [l1]
 simp only
 rw [l2]
 simp
theorem getPair_some (zs : List Int) (hb : Bytes zs) (o : ObjV) (h : readAll zs = some o) (hok : okB o = true) : getPair zs = (o, true) := by
 have e := (readAll_canon zs hb o h).1
 have : getO zs = some o := getO_some hok (by rw [put_ok hok]; exact e.symm)
 unfold getPair; rw [this]
theorem getPair_bad (zs : List Int) (o : ObjV) (h : readAll zs = some o) (hok : okB o = false) : getPair zs = (noO, false) := by
 have : getO zs = none := getO_none (by
  rintro ⟨p, hp, e⟩
  have := readAll_back p hp
  rw [e, h] at this
  simp only [Option.some.injEq] at this
  rw [this, hp] at hok
  cases hok)
 unfold getPair; rw [this]
theorem getPair_none (zs : List Int) (h : readAll zs = none) : getPair zs = (noO, false) := by
 have : getO zs = none := getO_none (by
  rintro ⟨p, hp, e⟩
  have := readAll_back p hp
  rw [e, h] at this
  cases this)
 unfold getPair; rw [this]
def rowI (L : List Int) (n : Nat) : List Int := L ++ List.replicate (n - L.length) 0
theorem rowI_nil (n : Nat) : rowI [] n = List.replicate n 0 := by simp [rowI]
theorem rowI_all (L : List Int) : rowI L L.length = L := by simp [rowI]
theorem rowI_set (L : List Int) (n : Nat) (z : Int) (h : L.length < n) : (rowI L n).set L.length z = rowI (L ++ [z]) n := by
 unfold rowI
 rw [List.set_append, if_neg (by omega)]
 have e : n - L.length = (n - (L ++ [z]).length) + 1 := by simp; omega
 rw [e, List.replicate_succ, Nat.sub_self, List.set_cons_zero]
 simp
theorem rowI_set_map (L : List Int) (n : Nat) (z : Int) (h : L.length < n) : ((rowI L n).map (Value.int .i64)).set L.length (.int .i64 z) = (rowI (L ++ [z]) n).map (Value.int .i64) := by
 rw [← rowI_set L n z h, List.map_set]
def onTo (L : List Int) : Option (List Int × Nat) → Option (List Int × Nat)
 | none => none
 | some (l, r) => some (L ++ l, r)
theorem onTo_nil (x : Option (List Int × Nat)) : onTo [] x = x := by cases x <;> rfl
theorem onTo_step (zs L : List Int) (n p q : Nat) (z : Int) (h : getAt zs (p : Int) = some (z, q)) : onTo L (numsAt zs (n + 1) p) = onTo (L ++ [z]) (numsAt zs n q) := by
 rw [numsAt, h]
 simp only
 cases numsAt zs n q with
 | none => rfl
 | some t => simp [onTo]
theorem onTo_stop (zs L : List Int) (n p : Nat) (h : getAt zs (p : Int) = none) : onTo L (numsAt zs (n + 1) p) = none := by
 rw [numsAt, h]; rfl
theorem crcBit_odd (x : Nat) (h : (x : Int) % 2 = 1) : crcBit x = x / 2 ^^^ 3988292384 := by
 unfold crcBit; rw [if_pos (by omega)]
theorem crcBit_even (x : Nat) (h : ¬ (x : Int) % 2 = 1) : crcBit x = x / 2 := by
 unfold crcBit; rw [if_neg (by omega)]
theorem crc_odd (x y : Nat) (hx : x < 4294967296) (h : (x : Int) % 2 = 1) (hy : y = crcBit x) : bits .xor .u32 ((x : Int) / 2) 3988292384 = (y : Int) := by
 rw [hy, crcBit_odd x h]
 have := u32_xor_nat (x / 2) 3988292384 (by omega) (by omega)
 rw [← this]
 rfl
theorem crc_even (x y : Nat) (h : ¬ (x : Int) % 2 = 1) (hy : y = crcBit x) : (x : Int) / 2 = (y : Int) := by
 rw [hy, crcBit_even x h]
 omega
theorem crcByte_any (s c : Nat) (w : World) (hs : s < 4294967296) (hc : c < 256) :
  Calls Tryz.prog 72 #[.int .u32 s, .int .u8 c] w fun e w' => e = .returned (.int .u32 (crcByte s c : Nat)) ∧ w' = w := by
 go_enter Tryz.func72, Tryz.ntmps72
 go_wp2
 go_loop [0, 10] (fun x i => ∃ k : Nat, k ≤ 8 ∧ i = .int .i64 k ∧ x = .int .u32 (crcBits k (s ^^^ c) : Nat)) (fun _ i => 8 - (intOf i).toNat)
 case atStart => exact ⟨0, by omega, rfl, by rw [u32_xor_nat s c hs (by omega)]; rfl⟩
 case round =>
  obtain ⟨k, hk, rfl, rfl⟩ := hrel
  have hx := crcBits_lt k (s ^^^ c) (xor_byte_lt s c hs hc)
  have HS : Hid (crcBits (k + 1) (s ^^^ c) = crcBit (crcBits k (s ^^^ c))) := rfl
  have HC : Hid (crcByte s c = crcBits 8 (s ^^^ c)) := rfl
  generalize hgx : crcBits k (s ^^^ c) = x at *
  have HG : Hid (crcBits k (s ^^^ c) = x) := hgx
  clear hgx
  by_cases hlt : k < 8
  ·by_cases ho : (x : Int) % 2 = 1
   all_goals
    go_wp2
    go_round
    case rel => exact ⟨k + 1, by omega, by go_num, val_int (by first | exact crc_odd x _ hx ho HS.out | exact crc_even x _ ho HS.out)⟩
    case measure => simp [intOf]; omega
  ·have e8 : k = 8 := by omega
   have HX : Hid (crcByte s c = x) := by rw [Hid, HC.out, ← e8]; exact HG.out
   clear e8
   go_wp2
   go_ret
   exact ⟨ret_int (by rw [HX.out]), rfl⟩
theorem u32_max : IntKind.u32.max = ((4294967295 : Nat) : Int) := by simp [IntKind.max, IntKind.signed, IntKind.bits]
theorem crc_end (x y : Nat) (hx : x < 4294967296) (hy : y = 4294967295 ^^^ x) : wrap64 (bits .xor .u32 IntKind.u32.max (x : Int)) = (y : Int) := by
 rw [u32_max, u32_xor_nat _ _ (by omega) hx, hy]
 have : 4294967295 ^^^ x < 4294967296 := Nat.xor_lt_two_pow (n := 32) (by omega) (by omega)
 unfold wrap64
 omega
theorem crcOf_nil : crcOf [] = 4294967295 ^^^ 4294967295 := by simp [crcOf, crcTo]
theorem implCrc_any (a : Option Addr) (cap : Nat) (zs : List Int) (w : World) (hr : Reads w a zs) (hl : zs.length ≤ 140737488351232) :
  Calls Tryz.prog 50 #[.slice a zs.length cap] w fun e w' => e = .returned (.int .i64 (crcOf zs : Nat)) ∧ w' = w := by
 have hb := hr.byte
 rcases hr.cases with rfl | ⟨b, off, rfl, hpos, hcell⟩
 ·go_enter Tryz.func50, Tryz.ntmps50
  go_wp2
  refine wp_loop_rounds 1 ?_
  rw [rounds_succ]
  go_wp2
  go_ret
  exact ⟨ret_int (crc_end 4294967295 _ (by omega) crcOf_nil), rfl⟩
 ·go_enter Tryz.func50, Tryz.ntmps50
  go_wp2
  go_loop [3, 8] (fun x i => ∃ k : Nat, k ≤ zs.length ∧ i = .int .i64 k ∧ x = .int .u32 (crcTo zs k : Nat)) (fun _ i => zs.length - (intOf i).toNat)
  case atStart => exact ⟨0, by omega, rfl, by rw [crcTo_zero]; rfl⟩
  case round =>
   obtain ⟨k, hk, rfl, rfl⟩ := hrel
   have hx := crcTo_lt zs hb k
   by_cases hlt : k < zs.length
   ·have hc := hcell k hlt
    obtain ⟨hn, hn2⟩ := bytes_nat hb k
    have HS : Hid (crcTo zs (k + 1) = _) := crcTo_succ zs k hlt
    rw [hn] at hc
    clear hn hcell
    generalize (zs.getD k 0).toNat = c at *
    generalize crcTo zs k = x at *
    go_wp2_with (go_at_call 72; refine (crcByte_any _ _ _ hx hn2).mono ?_; rintro e w' ⟨rfl, rfl⟩)
    go_round
    case rel => exact ⟨k + 1, by omega, by go_num, by rw [HS.out]⟩
    case measure => simp [intOf]; omega
   ·have HE : Hid (crcOf zs = 4294967295 ^^^ crcTo zs k) := by
     have e : k = zs.length := by omega
     rw [e]; rfl
    go_wp2
    go_ret
    exact ⟨ret_int (crc_end _ _ hx HE.out), rfl⟩
def sumByte (x k : Nat) : Int := ((x / 256 ^ k % 256 : Nat) : Int)
def fourTo (x k : Nat) : List Int := (List.range k).map (sumByte x)
def four (x : Nat) : List Int := fourTo x 4
theorem four_eq (x : Nat) : four x = [((x % 256 : Nat) : Int), ((x / 256 % 256 : Nat) : Int), ((x / 65536 % 256 : Nat) : Int), ((x / 16777216 % 256 : Nat) : Int)] := by
 simp [four, fourTo, List.range_succ, sumByte]
theorem fourTo_succ (x k : Nat) : fourTo x (k + 1) = fourTo x k ++ [sumByte x k] := by simp [fourTo, List.range_succ]
theorem fourTo_len (x k : Nat) : (fourTo x k).length = k := by simp [fourTo]
theorem sumByte_byte (x k : Nat) : 0 ≤ sumByte x k ∧ sumByte x k < 256 := by unfold sumByte; omega
theorem sumByte_eq (x k : Nat) : (x : Int) / 2 ^ (8 * k) % 256 = sumByte x k := by
 unfold sumByte
 rw [show (256 : Nat) ^ k = 2 ^ (8 * k) from by rw [Nat.pow_mul]]
 simp
theorem appendSum_any (base : Nat) (a : Option Addr) (c : Nat) (xs : List Int) (x : Nat) (w : World) (hown : OwnB w base a c xs) (hl : xs.length ≤ 70368744177000) (hbase : base ≤ w.heap.size) :
  Calls Tryz.prog 49 #[.slice a xs.length c, .int .i64 x] w fun e w' => ∃ a' c' ys, e = .returned (.slice a' ys.length c') ∧ ys = xs ++ four x ∧ OwnB w' base a' c' ys ∧ Below base w w' := by
 go_enter Tryz.func49, Tryz.ntmps49
 go_wp2
 go_loopw [0, 6] (fun out i wr => ∃ (a' : Option Addr) (c' : Nat) (ys : List Int) (k : Nat), out = .slice a' ys.length c' ∧ i = .int .i64 k ∧ k ≤ 4 ∧ OwnB wr base a' c' ys ∧ Hid (ys = xs ++ fourTo x k) ∧ Below base w wr)
  (fun _ i _ => 4 - (intOf i).toNat)
 case atStart => exact ⟨a, c, xs, 0, rfl, rfl, by omega, hown, by simp [Hid, fourTo], Below.refl _ _⟩
 case round =>
  obtain ⟨a', c', ys, k, rfl, rfl, hk, ho, hy, hnx⟩ := hrel
  have hsz := hnx.size
  have hyl : ys.length ≤ 70368744177600 := by
   have e := congrArg List.length hy.out
   rw [List.length_append, fourTo_len] at e
   omega
  clear hown
  by_cases hlt : k < 4
  ·have hb := sumByte_byte x k
   have HS : Hid (_ = _) := fourTo_succ x k
   have hz : 0 ≤ (x : Int) / 2 ^ (8 * k) % 256 ∧ (x : Int) / 2 ^ (8 * k) % 256 < 256 := by omega
   have HX : Hid (_ = _) := sumByte_eq x k
   clear hb
   go_wp2_with (at_builtin; refine append_bytes rfl _ _ rfl base a' c' ys rfl (ho.alloc _) _ _ [(x : Int) / 2 ^ (8 * k) % 256] rfl (reads_lit1 wr _ _ hz) (by intro h; cases h) (by simp; omega) (by simp; omega) ?_; intro a2 c2 y2 w2 hy2 ho2 hg2)
   go_roundw
   case rel => exact ⟨a2, c2, y2, k + 1, rfl, by go_num, by omega, ho2, by rw [Hid, hy2.out, hy.out, HX.out, HS.out, List.append_assoc], (hnx.alloc (by omega) _).grown hg2 (by simp; omega) (fun j hj => (ho.2.lt j hj).1)⟩
   case measure => simp [intOf]; omega
  ·go_wp2
   go_ret
   exact ⟨a', c', ys, rfl, by rw [hy.out, show k = 4 from by omega]; rfl, ho, hnx⟩
def putTo (ns : List Int) (k : Nat) : List Int := (ns.take k).flatMap putOf
theorem putTo_succ (ns : List Int) (k : Nat) (h : k < ns.length) : putTo ns (k + 1) = putTo ns k ++ putOf (ns.getD k 0) := by
 unfold putTo
 rw [List.take_succ_eq_append_getElem h, List.flatMap_append]
 simp [List.getD, h]
theorem putTo_all (ns : List Int) (k : Nat) (h : ns.length ≤ k) : putTo ns k = ns.flatMap putOf := by
 unfold putTo; rw [List.take_of_length_le h]
theorem putTo_len (ns : List Int) (k : Nat) : (putTo ns k).length ≤ 65 * k := by
 induction k with
 | zero => simp [putTo]
 | succ k ih =>
  by_cases h : k < ns.length
  ·rw [putTo_succ ns k h, List.length_append]
   have := (putOf_len (ns.getD k 0)).2
   omega
  ·rw [putTo_all ns _ (by omega), ← putTo_all ns k (by omega)]
   omega
theorem putInts_any (a : Option Addr) (c : Nat) (zs : List Int) (na : Option Addr) (nc : Nat) (ns : List Int) (w : World) (hr : Reads w a zs) (hc : a = none → c = 0) (hn : ReadsI w na ns)
  (hl : zs.length + 65 * ns.length ≤ 70368744170000) :
  Calls Tryz.prog 33 #[.slice a zs.length c, .slice na ns.length nc] w fun e w' => ∃ a' c' ys, e = .returned (.slice a' ys.length c') ∧ ys = zs ++ ns.flatMap putOf ∧ OwnB w' w.heap.size a' c' ys ∧ Below w.heap.size w w' := by
 obtain ⟨i0, hi, hz0, hz1, hz2⟩ := info_parts Tryz.infoU8
 have fin : ns = [] ∨ ∃ b off, na = some ⟨b, off, none⟩ ∧ 0 < ns.length ∧ b < w.heap.size ∧ ∀ i, i < ns.length → w.cell? ⟨b, off + i, none⟩ = some (.int .i64 (ns.getD i 0)) := by
  by_cases e : ns = []
  ·exact .inl e
  ·obtain ⟨b, off, h1, h2⟩ := hn e
   have hp := List.length_pos_iff.2 e
   exact .inr ⟨b, off, h1, hp, block_lt (h2 0 hp), h2⟩
 have HC : Hid (a = none → c = 0) := hc
 clear hc
 rcases fin with rfl | ⟨b, off, rfl, hpos, hbB, hcell⟩
 ·go_enter Tryz.func33, Tryz.ntmps33
  go_wp2_with (first | (at_make; refine wpList_make_own _ rfl _ _ 22 rfl w.heap.size 5 i0 (.int .u8 0) 1 Tryz.underlying22 hi hz0 hz1 _ _ _ zs.length rfl rfl (by simp) (by rw [hz2]; omega) (by simp only [maxLen]; omega) (Nat.le_refl _) ?_) | fail)
  intro w0 hown0 hgrow0
  have hb0 : Below w.heap.size w w0 := (Below.refl _ _).grown hgrow0 (Nat.le_refl _) (fun k h => by cases h)
  have ho0 : OwnB w0 w.heap.size (some ⟨w.heap.size, 0, none⟩) zs.length [] := ⟨by simp, hown0⟩
  have hr0 := hr.below hb0
  have hs0 := hb0.size
  clear hown0 hgrow0 hr
  go_wp2_with (at_builtin; refine append_bytes rfl _ _ rfl w.heap.size _ _ [] rfl ho0 a c zs rfl hr0 HC.out (by simp; omega) hs0 ?_; intro a1 c1 y1 w1 hy1 ho1 hg1)
  have hb1 := hb0.grown hg1 hs0 (fun k hk => (ho0.2.lt k hk).1)
  refine wp_loop_rounds 1 ?_
  rw [rounds_succ]
  go_wp2
  go_ret
  exact ⟨a1, c1, y1, rfl, by rw [hy1.out]; simp, ho1, hb1⟩
 ·go_enter Tryz.func33, Tryz.ntmps33
  go_wp2_with (first | (at_make; refine wpList_make_own _ rfl _ _ 22 rfl w.heap.size 5 i0 (.int .u8 0) 1 Tryz.underlying22 hi hz0 hz1 _ _ _ (zs.length + 6 * ns.length) rfl rfl (by omega) (by rw [hz2]; omega) (by simp only [maxLen]; omega) (Nat.le_refl _) ?_) | fail)
  intro w0 hown0 hgrow0
  have hb0 : Below w.heap.size w w0 := (Below.refl _ _).grown hgrow0 (Nat.le_refl _) (fun k h => by cases h)
  have ho0 : OwnB w0 w.heap.size (some ⟨w.heap.size, 0, none⟩) (zs.length + 6 * ns.length) [] := ⟨by simp, hown0⟩
  have hr0 := hr.below hb0
  have hs0 := hb0.size
  clear hown0 hgrow0 hr
  go_wp2_with (at_builtin; refine append_bytes rfl _ _ rfl w.heap.size _ _ [] rfl ho0 a c zs rfl hr0 HC.out (by simp; omega) hs0 ?_; intro a1 c1 y1 w1 hy1 ho1 hg1)
  have hb1 := hb0.grown hg1 hs0 (fun k hk => (ho0.2.lt k hk).1)
  clear ho0 hr0 hg1 hb0 hs0
  go_loopw [5, 20] (fun out i wr => ∃ (a' : Option Addr) (c' : Nat) (ys : List Int) (k : Nat), out = .slice a' ys.length c' ∧ i = .int .i64 k ∧ k ≤ ns.length ∧ OwnB wr w.heap.size a' c' ys ∧ Hid (ys = zs ++ putTo ns k) ∧ Below w.heap.size w wr)
   (fun _ i _ => ns.length - (intOf i).toNat)
  case atStart => exact ⟨a1, c1, y1, 0, rfl, rfl, Nat.zero_le _, ho1, by rw [Hid, hy1.out]; simp [putTo], hb1⟩
  case round =>
   obtain ⟨a', c', ys, k, rfl, rfl, hk, ho, hy, hnx⟩ := hrel
   clear ho1 hb1 hy1
   have hsz := hnx.size
   have hyl : ys.length ≤ 70368744177000 := by
    have e := congrArg List.length hy.out
    have := putTo_len ns k
    rw [List.length_append] at e
    omega
   by_cases hlt : k < ns.length
   ·have hcx : wr.cell? ⟨b, off + k, none⟩ = some (.int .i64 (ns.getD k 0)) := (hnx.cell (by exact hbB)).trans (hcell k hlt)
    have HS : Hid (putTo ns (k + 1) = _) := putTo_succ ns k hlt
    have HZ := zig_le (ns.getD k 0)
    have HP : Hid (putOf (ns.getD k 0) = groups (zig (ns.getD k 0))) := rfl
    clear hcell
    generalize ns.getD k 0 = n at *
    go_wp2_with fail
    refine (foldSign_any n wr).mono ?_
    rintro e w2 ⟨rfl, rfl⟩
    go_wp2_with fail
    refine (appendGroups_any w.heap.size a' c' ys (zig n) w2 ho HZ hyl hsz).mono ?_
    rintro e w3 ⟨a3, c3, y3, rfl, hy3, ho3, hb3⟩
    have HY : Hid (y3 = zs ++ putTo ns (k + 1)) := by rw [Hid, hy3, hy.out, HS.out, HP.out, List.append_assoc]
    clear hy3
    go_wp2
    go_roundw
    case rel => exact ⟨a3, c3, y3, k + 1, rfl, by go_num, by omega, ho3, HY, hnx.trans hb3⟩
    case measure => simp [intOf]; omega
   ·have HE : Hid (ys = zs ++ ns.flatMap putOf) := by rw [Hid, hy.out, putTo_all ns k (by omega)]
    go_wp2
    go_ret
    exact ⟨a', c', ys, rfl, HE.out, ho, hnx⟩
end Go.Proofs.YtickiokdcbeefaaGreatDoor
namespace Go.Proofs.YtickiokdcbeefaaGreatDoor
open Go.RowKit
def frameOf (zs : List Int) : List Int := (putOf zs.length ++ zs) ++ four (crcOf zs)
theorem crcOf_lt (zs : List Int) (h : ∀ z ∈ zs, 0 ≤ z ∧ z < 256) : crcOf zs < 4294967296 := by
 have := crcTo_lt zs h zs.length
 exact Nat.xor_lt_two_pow (n := 32) (by omega) (by omega)
theorem readsI_lit1 (w : World) (n : Int) (e : TypeId) : ReadsI (w.alloc (.cells #[.int .i64 n] e)) (some ⟨w.heap.size, 0, none⟩) [n] := by
 intro _
 refine ⟨_, _, rfl, fun i hi => ?_⟩
 simp at hi
 subst hi
 simp
theorem reads_nil (w : World) (a : Option Addr) : Reads w a [] := ⟨by simp, by simp⟩
theorem implFrame_any (a : Option Addr) (c : Nat) (zs : List Int) (w : World) (hr : Reads w a zs) (hc : a = none → c = 0) (hl : zs.length ≤ 70368744100000) :
  Calls Tryz.prog 26 #[.slice a zs.length c] w fun e w' => ∃ a' c' ys, e = .returned (.slice a' ys.length c') ∧ ys = frameOf zs ∧ OwnB w' w.heap.size a' c' ys ∧ Below w.heap.size w w' := by
 have HC : Hid (a = none → c = 0) := hc
 have HB : Hid (∀ z ∈ zs, 0 ≤ z ∧ z < 256) := hr.byte
 have HL : Hid ((putOf (zs.length : Int)).length ≤ 65) := (putOf_len _).2
 clear hc
 go_enter Tryz.func26, Tryz.ntmps26
 go_wp2_with fail
 refine (putInts_any none 0 [] _ _ [(zs.length : Int)] _ (reads_nil _ _) (fun _ => rfl) (readsI_lit1 w _ _) (by simp)).mono ?_
 rintro e w1 ⟨a1, c1, y1, rfl, hy1, ho1, hb1⟩
 have hbw : Below w.heap.size w w1 := ((Below.refl _ _).alloc (Nat.le_refl _) _).trans (hb1.mono (by simp))
 have hr1 := hr.below hbw
 have HY1 : Hid (y1 = putOf zs.length) := by rw [Hid, hy1]; simp
 have hl1 : y1.length ≤ 65 := by rw [HY1.out]; exact HL.out
 have ho1' : OwnB w1 w.heap.size a1 c1 y1 := ho1.base (by simp)
 have hs1 := hbw.size
 clear hy1 hb1 ho1
 go_wp2_with (at_builtin; refine append_bytes rfl _ _ rfl w.heap.size a1 c1 y1 rfl ho1' a c zs rfl hr1 HC.out (by omega) hs1 ?_; intro a2 c2 y2 w2 hy2 ho2 hg2)
 have hbw2 := hbw.grown hg2 hs1 (fun j hj => (ho1'.2.lt j hj).1)
 have hr2 := hr.below hbw2
 have HY2 : Hid (y2 = putOf zs.length ++ zs) := by rw [Hid, hy2.out, HY1.out]
 have hl2 : y2.length ≤ 70368744177000 := by
  have e := congrArg List.length HY2.out
  have := HL.out
  rw [List.length_append] at e
  omega
 clear hr hr1 hbw ho1' hg2 hs1 hl1
 refine (implCrc_any a c zs w2 hr2 (by omega)).mono ?_
 rintro e w3 ⟨rfl, rfl⟩
 go_wp2_with fail
 refine (appendSum_any w.heap.size a2 c2 y2 (crcOf zs) w3 ho2 hl2 hbw2.size).mono ?_
 rintro e w4 ⟨a4, c4, y4, rfl, hy4, ho4, hb4⟩
 have HY4 : Hid (y4 = frameOf zs) := by rw [Hid, hy4, HY2.out]; rfl
 clear hy4
 go_wp2
 go_ret
 exact ⟨a4, c4, y4, rfl, HY4.out, ho4, hbw2.trans hb4⟩
end Go.Proofs.YtickiokdcbeefaaGreatDoor