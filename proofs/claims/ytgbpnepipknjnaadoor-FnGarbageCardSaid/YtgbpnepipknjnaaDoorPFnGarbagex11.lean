/- Several texts in one, in their order. -/
import Derived.Test.YtgbpnepipknjnaaDoorPFnGarbagex8
import Derived.Test.YtgbpnepipknjnaaDoorPFnGarbagex10
import Derived.Test.YtgbpnepipknjnaaDoorPFnGarbagex5
import Derived.Test.YtgbpnepipknjnaaDoorPFnGarbagex9
import Derived.Maps.RangeWalk
import Derived.Test.YtgbpnepipknjnaaDoorPFnGarbagex1
import Derived.Deep.QuietTactic
import Derived.BigQuiet
import Derived.Test.YtgbpnepipknjnaaDoorPFnGarbagex3
import Derived.Deep.RegionHeld3
/- The walk of spec.ViewOk. -/
namespace Go.Proofs.YtgbpnepipknjnaaDoor
open Go.RowKit

end Go.Proofs.YtgbpnepipknjnaaDoor

/- The walks of spec.l11Call, l11Lacks, Mark. -/
namespace Go.Proofs.YtgbpnepipknjnaaDoor
open Go.RowKit

/-- Marks in a row at g and a stack at a, made since w0. -/
structure SpI (w0 w : World) (g : Nat) (a : Option Addr) (c : Nat) (S : List Bool) (T : List Int) : Prop where
  met : OwnBl w w0.heap.size w.heap.size (some ⟨g, 0, none⟩) 32 S
  stk : OwnI w w0.heap.size w.heap.size a c T
  ne : ∀ k, (Value.slice a T.length c).ownBlock = some k → k ≠ g
  bel : Below w0.heap.size w0 w
theorem SpI.cell {w0 w : World} {g : Nat} {a : Option Addr} {c : Nat} {S : List Bool} {T : List Int} (h : SpI w0 w g a c S T) (hS : S.length = 32) (k : Nat) (hk : k < 32) : w.cell? ⟨g, k, none⟩ = some (.bool (S.getD k false)) := by
  obtain ⟨b, off, e, hc⟩ := h.met.reads (by intro e; rw [e] at hS; simp at hS)
  simp only [Option.some.injEq, Addr.mk.injEq, and_true] at e
  obtain ⟨rfl, rfl⟩ := e
  have := hc k (by omega)
  rwa [Nat.zero_add] at this
theorem SpI.set {w0 w : World} {g : Nat} {a : Option Addr} {c : Nat} {S : List Bool} {T : List Int} (h : SpI w0 w g a c S T) (y : Nat) : ∃ W, Hid (w.setCell ⟨g, y, none⟩ (.bool true) = W) ∧ SpI w0 W g a c (S.set y true) T := by
  obtain ⟨W, hW, h1, h2, h3⟩ := h.met.stored y true
  have hlo : w0.heap.size ≤ g := (h.met.1.lt _ rfl).1
  refine ⟨W, hW, by rw [h3]; exact h1, ⟨ownsRow_block h.stk.1 (fun k hk => h2.block k (h.stk.2.2 k hk) (fun e => h.ne k hk (Option.some.inj e))), Nat.le_refl _, fun k hk => Nat.lt_of_lt_of_le (h.stk.2.2 k hk) h2.size⟩, h.ne, h.bel.grown h2 h.bel.size (fun j hj => by cases hj; exact hlo)⟩
theorem SpI.push {w0 w w4 : World} {o : Obj} {g : Nat} {a a4 : Option Addr} {c c4 : Nat} {S : List Bool} {T y4 : List Int} (h : SpI w0 w g a c S T) (ho : OwnI w4 w0.heap.size w4.heap.size a4 c4 y4) (hg : (w.alloc o).grownBy w4 (Value.slice a T.length c).ownBlock) (hk : ∀ k, (Value.slice a4 y4.length c4).ownBlock = some k → (Value.slice a T.length c).ownBlock = some k ∨ k = (w.alloc o).heap.size) : SpI w0 w4 g a4 c4 S y4 := by
  have ha := (Below.refl w.heap.size w).alloc (Nat.le_refl _) o
  have hglt : g < w.heap.size := h.met.2.2 g rfl
  have hm := h.met.below ha
  refine ⟨⟨ownsRow_block hm.1 (fun k hk2 => hg.block k (hm.1.lt k hk2).2 (fun e => by cases hk2; exact h.ne g e.symm rfl)), Nat.le_refl _, fun k hk2 => Nat.lt_of_lt_of_le (hm.1.lt k hk2).2 hg.size⟩, ho, fun k hk2 => ?_, (h.bel.trans (ha.mono h.bel.size)).grown hg (Nat.le_trans h.bel.size ha.size) (fun j hj => (h.stk.1.lt j hj).1)⟩
  rcases hk k hk2 with h2 | h2
  · exact h.ne k h2
  · simp at h2; omega
theorem SpI.cut {w0 w : World} {g bt offt : Nat} {c : Nat} {S : List Bool} {T : List Int} {x : Int} (h : SpI w0 w g (some ⟨bt, offt, none⟩) c S (T ++ [x])) : SpI w0 w g (some ⟨bt, offt, none⟩) c S T := by
  have := h.stk.cut T.length (by simp)
  rw [List.take_left] at this
  exact ⟨h.met, this, fun k hk => h.ne k (by simpa [Value.ownBlock] using hk), h.bel⟩

end Go.Proofs.YtgbpnepipknjnaaDoor

/- A range over a set: which keys have come. -/
namespace Go.Proofs.YtgbpnepipknjnaaDoor
open Go.RowKit Go.Maps Go.MapKept
open Go.ChangeMaps (setBlock)

/-- Block B is a map whose keys are ks, block r goes through it: done have come, n are left. -/
def RangeK (w : World) (B r : Nat) (ks dn : List Int) (n : Nat) : Prop := ∃ es clock seen, w.heap[B]? = some (.map es clock) ∧ w.heap[r]? = some (.mapIter (some B) clock seen clock) ∧ es.toList.map (fun e => (e.key, e.val)) = ks.map entK ∧ BornK es clock ∧ (leftOf es seen).size = n ∧ ∀ k : Int, k ∈ dn ↔ ∃ e ∈ es.toList, e.key = .int .i64 k ∧ seen.contains e.born = true
theorem RangeK.lt {w : World} {B r : Nat} {ks dn : List Int} {n : Nat} (h : RangeK w B r ks dn n) : B < w.heap.size ∧ r < w.heap.size := by
  obtain ⟨es, clock, seen, h1, h2, _⟩ := h
  constructor
  · rcases Nat.lt_or_ge B w.heap.size with h | h
    · exact h
    · rw [Array.getElem?_eq_none h] at h1; cases h1
  · rcases Nat.lt_or_ge r w.heap.size with h | h
    · exact h
    · rw [Array.getElem?_eq_none h] at h2; cases h2
theorem RangeK.keep {w w' : World} {B r : Nat} {ks dn : List Int} {n : Nat} (h : RangeK w B r ks dn n) (hb : w'.heap[B]? = w.heap[B]?) (hr : w'.heap[r]? = w.heap[r]?) : RangeK w' B r ks dn n := by
  obtain ⟨es, clock, seen, h1, h2, h3⟩ := h
  exact ⟨es, clock, seen, by rw [hb]; exact h1, by rw [hr]; exact h2, h3⟩
/-- The keys of the entries are the set's. -/
theorem key_mem {es : Array MapEntry} {ks : List Int} (he : es.toList.map (fun e => (e.key, e.val)) = ks.map entK) : (∀ e ∈ es.toList, ∃ k ∈ ks, e.key = .int .i64 k ∧ e.val = .agg #[]) ∧ ∀ k ∈ ks, ∃ e ∈ es.toList, e.key = .int .i64 k := by
  constructor
  · intro e hm
    have : (e.key, e.val) ∈ es.toList.map (fun e => (e.key, e.val)) := List.mem_map.2 ⟨e, hm, rfl⟩
    rw [he] at this
    obtain ⟨k, hk, h⟩ := List.mem_map.1 this
    simp only [entK, Prod.mk.injEq] at h
    exact ⟨k, hk, h.1.symm, h.2.symm⟩
  · intro k hk
    have : entK k ∈ ks.map entK := List.mem_map.2 ⟨k, hk, rfl⟩
    rw [← he] at this
    obtain ⟨e, hm, h⟩ := List.mem_map.1 this
    simp only [entK, Prod.mk.injEq] at h
    exact ⟨e, hm, h.1⟩
end Go.Proofs.YtgbpnepipknjnaaDoor

/- The walks of spec.l2SameInts, spec.l2Same and spec.SameObj. -/
namespace Go.Proofs.YtgbpnepipknjnaaDoor
open Go.RowKit

theorem ne_at {xs ys : List Int} (j : Nat) (h : xs.getD j 0 ≠ ys.getD j 0) : decide (xs = ys) = false := by
  rw [decide_eq_false_iff_not]
  intro e
  exact h (by rw [e])
theorem ne_len {xs ys : List Int} (h : xs.length ≠ ys.length) : decide (xs = ys) = false := by
  rw [decide_eq_false_iff_not]
  intro e
  exact h (by rw [e])
theorem eq_all {xs ys : List Int} (hl : xs.length = ys.length) (h : ∀ t, t < xs.length → xs.getD t 0 = ys.getD t 0) : decide (xs = ys) = true := by
  rw [decide_eq_true_eq]
  apply List.ext_getElem hl
  intro i h1 h2
  have := h i h1
  simpa [List.getD, h1, h2] using this

def sameO (a b : ObjV) : Bool := decide (a.kind = b.kind) && (decide (a.ints = b.ints) && decide (a.refs = b.refs))

end Go.Proofs.YtgbpnepipknjnaaDoor

/- The walk of impl.SameObj. -/
namespace Go.Proofs.YtgbpnepipknjnaaDoor
open Go.RowKit

set_option maxHeartbeats 400000 in
theorem equalInts_any (a b : Option Addr) (ca cb : Nat) (xs ys : List Int) (w : World) (ha : ReadsI w a xs) (hb : ReadsI w b ys) (hl : xs.length ≤ 1099511627776) (hl2 : ys.length ≤ 1099511627776) :
    Calls Tryd.prog 82 #[.slice a xs.length ca, .slice b ys.length cb] w fun e w' => e = .returned (.bool (decide (xs = ys))) ∧ ∃ n, w' = w.drewN n := by
  by_cases hle : xs.length = ys.length
  case neg =>
    have HE : Hid (_ = _) := ne_len hle
    have hle' : ((xs.length : Int) == (ys.length : Int)) = false := by simp; omega
    go_enter Tryd.func82, Tryd.ntmps82
    go_wp2
    go_ret
    exact ⟨ret_bool HE.out.symm, 0, rfl⟩
  case pos =>
  have HL : Hid (xs.length = ys.length) := hle
  have hle' : ((xs.length : Int) == (ys.length : Int)) = true := by simp; omega
  rcases ha.cases with rfl | ⟨b1, o1, rfl, hpos, hc1⟩
  · obtain rfl : ys = [] := List.length_eq_zero_iff.1 (by simpa using hle.symm)
    have HE : Hid (decide (([] : List Int) = []) = true) := by simp [Hid]
    clear hle hle' HL
    go_enter Tryd.func82, Tryd.ntmps82
    go_wp2
    refine wp_loop_rounds 1 ?_
    rw [rounds_succ]
    go_wp2
    go_ret
    exact ⟨ret_bool HE.out.symm, 0, rfl⟩
  · rcases hb.cases with rfl | ⟨b2, o2, rfl, _, hc2⟩
    · simp at hle; simp [hle] at hpos
    · clear hle
      go_enter Tryd.func82, Tryd.ntmps82
      go_wp2
      go_loopw [13] (fun i wr => ∃ k : Nat, k ≤ xs.length ∧ i = .int .i64 k ∧ Hid (∀ t, t < k → xs.getD t 0 = ys.getD t 0) ∧ ∃ n, wr = w.drewN n) (fun i _ => xs.length - (intOf i).toNat)
      case atStart => exact ⟨0, Nat.zero_le _, rfl, fun t ht => by omega, 0, rfl⟩
      case round =>
        obtain ⟨k, hk, rfl, hall, n, rfl⟩ := hrel
        by_cases hlt : k < xs.length
        · have h1 := hc1 k hlt
          have h2 := hc2 k (by have := HL.out; omega)
          have hlt2 : (k : Int) < (ys.length : Int) := by have := HL.out; omega
          clear hc1 hc2
          by_cases hz : xs.getD k 0 = ys.getD k 0
          · have HN : Hid (∀ t, t < k + 1 → xs.getD t 0 = ys.getD t 0) := by
              intro t ht
              by_cases e : t = k
              · rw [e]; exact hz
              · exact hall.out t (by omega)
            rw [← hz] at h2
            clear hz
            generalize xs.getD k 0 = z at *
            go_wp2
            go_quiet (fail)
            go_wp2
            go_roundw
            case rel => exact ⟨k + 1, by omega, by go_num, HN, _, rfl⟩
            case measure => simp [intOf]; omega
          · have HE : Hid (_ = _) := ne_at k hz
            have hzb : (xs.getD k 0 == ys.getD k 0) = false := by simpa using hz
            clear hz
            generalize xs.getD k 0 = z at *
            generalize ys.getD k 0 = y at *
            go_wp2
            go_quiet (fail)
            go_wp2
            go_ret
            exact ⟨ret_bool HE.out.symm, n + nq, by first | rfl | simp⟩
        · have HE : Hid (_ = _) := eq_all HL.out (fun t ht => hall.out t (by omega))
          go_wp2
          go_ret
          exact ⟨ret_bool HE.out.symm, n, rfl⟩

set_option maxHeartbeats 1000000 in
set_option maxRecDepth 100000 in
theorem implSameObj_any (o p : ObjV) (aI : Option Addr) (cI : Nat) (aR : Option Addr) (cR : Nat) (bI : Option Addr) (dI : Nat) (bR : Option Addr) (dR : Nat) (w : World) (ha : ReadsO w aI cI aR cR o) (hb : ReadsO w bI dI bR dR p) (h1 : o.ints.length ≤ 1099511627776) (h2 : o.refs.length ≤ 1099511627776) (h3 : p.ints.length ≤ 1099511627776) (h4 : p.refs.length ≤ 1099511627776) :
    Calls Tryd.prog 73 #[.agg #[.int .i64 o.kind, .slice aI o.ints.length cI, .slice aR o.refs.length cR], .agg #[.int .i64 p.kind, .slice bI p.ints.length dI, .slice bR p.refs.length dR]] w fun e w' => e = .returned (.bool (sameO o p)) ∧ Below w.heap.size w w' := by
  obtain ⟨k, ints, refs⟩ := o
  obtain ⟨k', ints', refs'⟩ := p
  obtain ⟨haI, haR, _, _⟩ := ha
  obtain ⟨hbI, hbR, _, _⟩ := hb
  simp only at *
  obtain ⟨W, hW, b0, b1, hbW, hsW⟩ := boxes2 w [.int .i64 k, .slice aI ints.length cI, .slice aR refs.length cR] [.int .i64 k', .slice bI ints'.length dI, .slice bR refs'.length dR] 35 35
  by_cases hk : k = k'
  case neg =>
    have HE : Hid (sameO ⟨k, ints, refs⟩ ⟨k', ints', refs'⟩ = false) := by simp [Hid, sameO, hk]
    have hkb : (k == k') = false := by simpa using hk
    clear hk
    go_enter Tryd.func73, Tryd.ntmps73
    go_wp2
    go_ret
    exact ⟨ret_bool HE.out.symm, by rw [hW.out]; exact hbW⟩
  case pos =>
  subst hk
  have HE : Hid (sameO ⟨k, ints, refs⟩ ⟨k, ints', refs'⟩ = (decide (ints = ints') && decide (refs = refs'))) := by simp [Hid, sameO]
  go_enter Tryd.func73, Tryd.ntmps73
  go_wp2_with fail
  rw [hW.out]
  refine (equalInts_any aI bI cI dI ints ints' W (haI.below hbW) (hbI.below hbW) h1 h3).mono ?_
  rintro e w1 ⟨rfl, n1, rfl⟩
  have c0 := (b0.drewN n1).cell 2 _ rfl
  have c1 := (b1.drewN n1).cell 2 _ rfl
  have hb1 : Below w.heap.size w (W.drewN n1) := below_drewN hbW n1
  cases hd : decide (ints = ints') with
  | false =>
    rw [hd] at HE
    clear hd
    go_wp2
    go_ret
    exact ⟨ret_bool (by rw [HE.out]; rfl), hb1⟩
  | true =>
    rw [hd] at HE
    clear hd
    go_wp2_with fail
    refine (equalInts_any aR bR cR dR refs refs' (W.drewN n1) (haR.below hb1) (hbR.below hb1) h2 h4).mono ?_
    rintro e w2 ⟨rfl, n2, rfl⟩
    generalize decide (refs = refs') = D at *
    go_wp2
    go_ret
    exact ⟨ret_bool (by rw [HE.out]; rfl), below_drewN hbW (n1 + n2)⟩
end Go.Proofs.YtgbpnepipknjnaaDoor

/- The walks of slices.Index, slices.Contains at numbers. -/
namespace Go.Proofs.YtgbpnepipknjnaaDoor
open Go.RowKit

set_option maxHeartbeats 1000000 in
set_option maxRecDepth 100000 in
theorem indexInt_any (a : Option Addr) (c : Nat) (zs : List Int) (x : Int) (w : World) (hr : ReadsI w a zs) (hl : zs.length ≤ 1099511627776) :
    Calls Tryd.prog 59 #[.slice a zs.length c, .int .i64 x] w fun e w' => e = .returned (.int .i64 (placeZ (fun z => x == z) zs)) ∧ w' = w := by
  have HC : Hid (∀ k, k < zs.length → ∃ b off, a = some ⟨b, off, none⟩ ∧ w.cell? ⟨b, off + k, none⟩ = some (.int .i64 (zs.getD k 0))) := fun k hk => by
    obtain ⟨b, off, ha, hc⟩ := hr (by intro e; rw [e] at hk; simp at hk)
    exact ⟨b, off, ha, hc k hk⟩
  have HHIT : Hid (∀ k, k < zs.length → (zs.take k).any (fun z => x == z) = false → x = zs.getD k 0 → placeZ (fun z => x == z) zs = k) := fun k hk h1 h => placeZ_hit (z := 0) hk h1 (beq_iff_eq.2 h)
  have HSTEP : Hid (∀ k, k < zs.length → (zs.take k).any (fun z => x == z) = false → ¬ x = zs.getD k 0 → (zs.take (k + 1)).any (fun z => x == z) = false) := fun k hk h h1 => any_step (z := 0) hk h (beq_eq_false_iff_ne.2 h1)
  have HEND : Hid (∀ k, ¬ k < zs.length → (zs.take k).any (fun z => x == z) = false → placeZ (fun z => x == z) zs = -1) := fun k hk h => placeZ_end hk h
  clear hr
  generalize placeZ (fun z => x == z) zs = R at *
  go_enter Tryd.func59, Tryd.ntmps59
  go_wp2_with fail
  go_loopw [8] (fun i wr => ∃ k : Nat, k ≤ zs.length ∧ i = .int .i64 k ∧ Hid ((zs.take k).any (fun z => x == z) = false) ∧ wr = w) (fun i _ => zs.length - (intOf i).toNat)
  case atStart => exact ⟨0, Nat.zero_le _, rfl, (show (zs.take 0).any (fun z => x == z) = false by simp), rfl⟩
  case round =>
    obtain ⟨k, hk, rfl, hany, rfl⟩ := hrel
    by_cases hlt : k < zs.length
    · obtain ⟨b, off, rfl, c0⟩ := HC.out k hlt
      have HH1 : Hid (x = zs.getD k 0 → R = k) := fun h => HHIT.out k hlt hany.out h
      have HH2 : Hid (¬ x = zs.getD k 0 → (zs.take (k + 1)).any (fun z => x == z) = false) := fun h => HSTEP.out k hlt hany.out h
      clear HC HHIT HSTEP HEND
      generalize zs.getD k 0 = z at *
      by_cases hz : x = z
      · have HR : Hid (R = k) := HH1.out hz
        subst hz
        clear HH1 HH2
        go_wp2
        go_ret
        exact ⟨by rw [HR.out]; rfl, rfl⟩
      · have HN : Hid ((zs.take (k + 1)).any (fun z => x == z) = false) := HH2.out hz
        have hzb : (x == z) = false := by simpa using hz
        clear HH1 HH2 hz
        go_wp2_with fail
        go_roundw
        case rel => exact ⟨k + 1, by omega, by go_num, HN, trivial⟩
        case measure => simp [intOf]; omega
    · have HR : Hid (R = -1) := HEND.out k hlt hany.out
      clear HC HHIT HSTEP HEND
      go_wp2
      go_ret
      exact ⟨by rw [HR.out]; rfl, rfl⟩
theorem placeZ_anyI {α : Type} (p : α → Bool) (ls : List α) : decide (0 ≤ placeZ p ls) = ls.any p := by
  cases h : ls.any p
  · rw [placeZ_none h]; rfl
  · exact decide_eq_true ((placeZ_neg p ls).2 h)
set_option maxHeartbeats 1000000 in
set_option maxRecDepth 100000 in
theorem containsInt_any (a : Option Addr) (c : Nat) (zs : List Int) (x : Int) (w : World) (hr : ReadsI w a zs) (hl : zs.length ≤ 1099511627776) :
    Calls Tryd.prog 40 #[.slice a zs.length c, .int .i64 x] w fun e w' => e = .returned (.bool (zs.any (fun z => x == z))) ∧ w' = w := by
  have C := indexInt_any a c zs x w hr hl
  have HA : Hid (_ = _) := placeZ_anyI (fun z => x == z) zs
  generalize placeZ (fun z => x == z) zs = P at *
  clear hr
  go_enter Tryd.func40, Tryd.ntmps40
  go_wp2_with fail
  refine C.mono ?_
  rintro e w1 ⟨rfl, rfl⟩
  go_wp2
  go_ret
  exact ⟨ret_bool HA.out, rfl⟩
end Go.Proofs.YtgbpnepipknjnaaDoor

/- Rows of pairs of numbers. -/
namespace Go.Proofs.YtgbpnepipknjnaaDoor
open Go.RowKit

structure PairV where
  px : Int
  py : Int
def PairV.cells (l : PairV) : List Value := [.int .i64 l.px, .int .i64 l.py]
def zeroD2 : PairV := ⟨0, 0⟩
def cellsD2 (ls : List PairV) : List Value := ls.flatMap PairV.cells
theorem cellsD2_len (ls : List PairV) : (cellsD2 ls).length = ls.length * 2 := by
  induction ls with
  | nil => rfl
  | cons s r ih => simp only [cellsD2, List.flatMap_cons, List.length_append, PairV.cells, List.length_cons, List.length_nil] at *; omega
theorem cellsD2_app (a b : List PairV) : cellsD2 (a ++ b) = cellsD2 a ++ cellsD2 b := by simp [cellsD2]
theorem cellsD2_at (ls : List PairV) (k j : Nat) (hk : k < ls.length) (hj : j < 2) : (cellsD2 ls)[k * 2 + j]? = (ls.getD k zeroD2).cells[j]? := by
  induction ls generalizing k with
  | nil => simp at hk
  | cons s r ih =>
    have e : cellsD2 (s :: r) = s.cells ++ cellsD2 r := by simp [cellsD2]
    have l3 : s.cells.length = 2 := rfl
    rw [e]
    cases k with
    | zero => rw [List.getElem?_append_left (by rw [l3]; omega)]; simp
    | succ k =>
      rw [List.getElem?_append_right (by rw [l3]; omega), l3]
      have := ih k (by simpa using hk)
      rw [show (k + 1) * 2 + j - 2 = k * 2 + j by omega, this]
      simp
/-- The slice at a reads these. -/
def ReadsD2 (w : World) (a : Option Addr) (ls : List PairV) : Prop := ls ≠ [] → ∃ b off, a = some ⟨b, off, none⟩ ∧ ∀ k, k < ls.length → w.cell? ⟨b, off + k * 2, none⟩ = some (.int .i64 (ls.getD k zeroD2).px) ∧ w.cell? ⟨b, off + k * 2 + 1, none⟩ = some (.int .i64 (ls.getD k zeroD2).py)
theorem ReadsD2.nil (w : World) (a : Option Addr) : ReadsD2 w a [] := fun h => absurd rfl h
theorem ReadsD2.below {w w' : World} {a : Option Addr} {ls : List PairV} (h : ReadsD2 w a ls) (hb : Below w.heap.size w w') : ReadsD2 w' a ls := by
  intro hne
  obtain ⟨b, off, ha, hc⟩ := h hne
  refine ⟨b, off, ha, fun k hk => ?_⟩
  obtain ⟨h0, h1⟩ := hc k hk
  have hlt := block_lt h0
  exact ⟨by rw [hb.cell (p := ⟨b, off + k * 2, none⟩) hlt]; exact h0, by rw [hb.cell (p := ⟨b, off + k * 2 + 1, none⟩) hlt]; exact h1⟩
theorem ReadsD2.cases {w : World} {a : Option Addr} {ls : List PairV} (h : ReadsD2 w a ls) : ls = [] ∨ ∃ b off, a = some ⟨b, off, none⟩ ∧ 0 < ls.length ∧ ∀ k, k < ls.length → w.cell? ⟨b, off + k * 2, none⟩ = some (.int .i64 (ls.getD k zeroD2).px) ∧ w.cell? ⟨b, off + k * 2 + 1, none⟩ = some (.int .i64 (ls.getD k zeroD2).py) := by
  by_cases e : ls = []
  · exact .inl e
  · obtain ⟨b, off, ha, hc⟩ := h e
    exact .inr ⟨b, off, ha, List.length_pos_iff.2 e, hc⟩

/-- The slice at a, of capacity c, owns these; its row lies from lo up to hi. -/
def OwnD2 (w : World) (lo hi : Nat) (a : Option Addr) (c : Nat) (ls : List PairV) : Prop :=
  w.ownsRow lo 64 2 (.slice a ls.length c) ls.length (cellsD2 ls) ∧ hi ≤ w.heap.size ∧ ∀ k, (Value.slice a ls.length c).ownBlock = some k → k < hi
theorem OwnD2.lt {w : World} {lo hi : Nat} {a : Option Addr} {c : Nat} {ls : List PairV} (h : OwnD2 w lo hi a c ls) : ∀ k, (Value.slice a ls.length c).ownBlock = some k → lo ≤ k ∧ k < hi := fun k hk => ⟨(h.1.lt k hk).1, h.2.2 k hk⟩
theorem OwnD2.touch {w w' : World} {lo hi : Nat} {a : Option Addr} {c : Nat} {ls : List PairV} {bl : List Nat} (h : OwnD2 w lo hi a c ls) (ht : Touch bl w w') (hd : ∀ k, (Value.slice a ls.length c).ownBlock = some k → k ∉ bl) : OwnD2 w' lo hi a c ls :=
  ⟨ownsRow_block h.1 (fun k hk => ht.block k (h.1.lt k hk).2 (hd k hk)), Nat.le_trans h.2.1 ht.size, h.2.2⟩
theorem OwnD2.within {w w' : World} {lo hi l r : Nat} {a : Option Addr} {c : Nat} {ls : List PairV} (h : OwnD2 w lo hi a c ls) (hw : Within l r w w') (hd : hi ≤ l ∨ r ≤ lo) : OwnD2 w' lo hi a c ls :=
  ⟨ownsRow_block h.1 (fun k hk => hw.block k (by have := h.2.2 k hk; have := h.2.1; omega) (by have := h.lt k hk; omega)), Nat.le_trans h.2.1 hw.size, h.2.2⟩
theorem OwnD2.below {w w' : World} {lo hi : Nat} {a : Option Addr} {c : Nat} {ls : List PairV} (h : OwnD2 w lo hi a c ls) (hb : Below w.heap.size w w') : OwnD2 w' lo hi a c ls :=
  h.within (Within.of_below (lo := w.heap.size) (hi := w.heap.size) hb) (.inl h.2.1)
theorem OwnD2.widen {w : World} {lo hi lo' hi' : Nat} {a : Option Addr} {c : Nat} {ls : List PairV} (h : OwnD2 w lo hi a c ls) (h1 : lo' ≤ lo) (h2 : hi ≤ hi') (h3 : hi' ≤ w.heap.size) : OwnD2 w lo' hi' a c ls :=
  ⟨ownsRow_base h.1 (fun k hk => by have := h.lt k hk; omega), h3, fun k hk => by have := h.lt k hk; omega⟩
theorem OwnD2.nocap {w : World} {lo hi : Nat} {a : Option Addr} {c : Nat} {ls : List PairV} (h : OwnD2 w lo hi a c ls) : a = none → c = 0 := by
  intro ha
  rcases h.1.2 with ⟨hv, _⟩ | ⟨g, cap, cur, hv, _⟩
  · simp only [Value.slice.injEq] at hv; exact hv.2.2
  · simp [ha] at hv
/-- The two cells of one of a row that lies in block g. -/
theorem row_pair {w : World} {base g n cap : Nat} {ls : List PairV} (h : w.ownsRow base 64 2 (.slice (some ⟨g, 0, none⟩) n cap) n (cellsD2 ls)) (hn : ls.length = n) (k : Nat) (hk : k < n) :
    w.cell? ⟨g, k * 2, none⟩ = some (.int .i64 (ls.getD k zeroD2).px) ∧ w.cell? ⟨g, k * 2 + 1, none⟩ = some (.int .i64 (ls.getD k zeroD2).py) ∧ (∀ i, w.frozen? ⟨g, i, none⟩ = false) := by
  have a0 := cellsD2_at ls k 0 (by omega) (by omega)
  have a1 := cellsD2_at ls k 1 (by omega) (by omega)
  simp only [PairV.cells, Nat.add_zero, List.getElem?_cons_zero, List.getElem?_cons_succ] at a0 a1
  exact ⟨by rw [h.cellAt (k * 2) (by omega)]; exact a0, by rw [h.cellAt (k * 2 + 1) (by omega)]; exact a1, fun i => h.frozenAt i⟩
theorem OwnD2.reads {w : World} {lo hi : Nat} {a : Option Addr} {c : Nat} {ls : List PairV} (h : OwnD2 w lo hi a c ls) : ReadsD2 w a ls := by
  intro hne
  rcases h.1.2 with ⟨_, h0⟩ | ⟨g, cap', cur, hv, hb, hg, hr⟩
  · exact absurd (List.length_eq_zero_iff.1 h0) hne
  · simp only [Value.slice.injEq] at hv
    obtain ⟨rfl, _, rfl⟩ := hv
    refine ⟨g, 0, rfl, fun k hk => ?_⟩
    obtain ⟨a0, a1, _⟩ := row_pair h.1 rfl k hk
    rw [Nat.zero_add]
    exact ⟨a0, a1⟩
theorem Tryd.infoPair : (Tryd.prog.info? 64).map (fun i => (i.zero, i.size, i.bytes)) = some (some (.agg #[.int .i64 0, .int .i64 0]), 2, 16) := by kernel_rfl
theorem pairs_oneCell (zs : List PairV) : ∀ v ∈ cellsD2 zs, v.oneCell' = true := by
  intro v hv
  obtain ⟨s, _, hs⟩ := List.mem_flatMap.1 hv
  simp only [PairV.cells, List.mem_cons, List.not_mem_nil, or_false] at hs
  rcases hs with rfl | rfl <;> rfl

theorem readsD2_one (w : World) (z : PairV) (t : TypeId) : ReadsD2 (w.alloc (.cells #[.int .i64 z.px, .int .i64 z.py] t)) (some ⟨w.heap.size, 0, none⟩) [z] := by
  intro _
  refine ⟨w.heap.size, 0, rfl, fun k hk => ?_⟩
  obtain rfl : k = 0 := by simpa using hk
  have b : Box (w.alloc (.cells #[.int .i64 z.px, .int .i64 z.py] t)) w.heap.size [.int .i64 z.px, .int .i64 z.py] t := box_new _ _ _
  exact ⟨b.cell 0 _ rfl, b.cell 1 _ rfl⟩
theorem run_append_pairs {w : World} (ty : TypeId) (lo hi : Nat) (a : Option Addr) (c : Nat) (xs : List PairV) (hown : OwnD2 w lo hi a c xs)
    (sa : Option Addr) (sc : Nat) (zs : List PairV) (hr : ReadsD2 w sa zs) (hc : sa = none → sc = 0) (hb : xs.length + zs.length ≤ 1099511627776) (hlo : lo ≤ w.heap.size) :
    ∃ a' c' ys w', (Builtin.append_ #[39, 39] ty #[.slice a xs.length c, .slice sa zs.length sc]).run Tryd.prog w = .ok (.slice a' ys.length c') w' ∧ Hid (ys = xs ++ zs) ∧ OwnD2 w' lo w'.heap.size a' c' ys ∧ w.grownBy w' (Value.slice a xs.length c).ownBlock ∧
      (∀ k, (Value.slice a' ys.length c').ownBlock = some k → (Value.slice a xs.length c).ownBlock = some k ∨ k = w.heap.size) := by
  obtain ⟨i0, hi0, hz0, hz1, hz2⟩ := info_parts Tryd.infoPair
  cases sa with
  | none =>
    have hz : zs = [] := by
      by_cases e : zs = []
      · exact e
      · obtain ⟨b, off, hh, _⟩ := hr e
        cases hh
    subst hz
    have := hc rfl
    subst this
    refine ⟨a, c, xs, w, run_append_owned_none (P := Tryd.prog) (w := w) lo 39 ty 64 i0 2 Tryd.underlying39 hi0 _ _ _ hown.1, (by simp [Hid]), ⟨hown.1, Nat.le_refl _, fun k hk => (hown.1.lt k hk).2⟩, World.grownBy.refl _ _, fun k hk => .inl hk⟩
  | some ad =>
    obtain ⟨v', w', h1, h2, h3, _, h5⟩ := run_append_own_at (P := Tryd.prog) w lo 39 ty 64 i0 (.agg #[.int .i64 0, .int .i64 0]) 2 16 Tryd.underlying39 hi0 hz0 hz1 hz2 rfl (by decide) _ _ _ hown.1 ad zs.length sc (cellsD2 zs) (by rw [cellsD2_len]) (by
      intro j u hj
      have hjl : j < zs.length * 2 := by rw [← cellsD2_len]; exact (List.getElem?_eq_some_iff.1 hj).1
      have hne : zs ≠ [] := by intro e; simp [e] at hjl
      obtain ⟨b, off, hh, hcell⟩ := hr hne
      cases hh
      have hat := cellsD2_at zs (j / 2) (j % 2) (by omega) (Nat.mod_lt _ (by omega))
      rw [show j / 2 * 2 + j % 2 = j by omega, hj] at hat
      obtain ⟨k0, k1⟩ := hcell (j / 2) (by omega)
      rw [Addr_add]
      rcases (by omega : j % 2 = 0 ∨ j % 2 = 1) with h' | h' <;> rw [h'] at hat <;> simp only [PairV.cells, List.getElem?_cons_zero, List.getElem?_cons_succ, Option.some.injEq] at hat
      · rw [show off + j = off + j / 2 * 2 by omega, k0, hat]
      · rw [show off + j = off + j / 2 * 2 + 1 by omega, k1, hat]) (pairs_oneCell _) (by simp only [maxLen]; omega) (by omega) hlo
    rw [← cellsD2_app, ← List.length_append] at h2
    have sh : ∃ a' c', v' = .slice a' (xs ++ zs).length c' := by
      rcases h2.2 with ⟨rfl, h0⟩ | ⟨g, cap, cur, rfl, _⟩
      · exact ⟨none, 0, by rw [h0]⟩
      · exact ⟨_, _, rfl⟩
    obtain ⟨a', c', rfl⟩ := sh
    refine ⟨a', c', xs ++ zs, w', h1, rfl, ⟨h2, Nat.le_refl _, fun k hk => (h2.lt k hk).2⟩, h3, fun k hk => ?_⟩
    rcases h5 with h5 | h5
    · exact .inl (by rw [← h5]; exact hk)
    · rw [h5] at hk
      exact .inr (Option.some.inj hk).symm

theorem append_pairsF {w : World} {ops : Array Oper} {rest : List Oper} {o : Oper} {act : Act} {Q : Exit → Act → World → Prop} (hgd : o.guard = none) (s x : Operand)
    (ho : o.op = .call { callee := .builtin .append, args := #[s, x], argTypes := #[39, 39] })
    (lo hi : Nat) (a : Option Addr) (c : Nat) (xs : List PairV) (hs : act.eval s = .slice a xs.length c) (hown : OwnD2 w lo hi a c xs)
    (sa : Option Addr) (sc : Nat) (zs : List PairV) (hx : act.eval x = .slice sa zs.length sc) (hr : ReadsD2 w sa zs) (hc : sa = none → sc = 0)
    (hb : xs.length + zs.length ≤ 1099511627776) (hlo : lo ≤ w.heap.size)
    (h : ∀ a' c' ys w', Hid (ys = xs ++ zs) → OwnD2 w' lo w'.heap.size a' c' ys → w.grownBy w' (Value.slice a xs.length c).ownBlock → (∀ k, (Value.slice a' ys.length c').ownBlock = some k → (Value.slice a xs.length c).ownBlock = some k ∨ k = w.heap.size) → wpList Tryd.prog ops Q rest (act.put o.dst (.slice a' ys.length c')) w') :
    wpList Tryd.prog ops Q (o :: rest) act w := by
  obtain ⟨a', c', ys, w', hrun, h1, h2, h3, h4⟩ := run_append_pairs (w := w) o.type lo hi a c xs hown sa sc zs hr hc hb hlo
  refine wpList_plain hgd fun K hK => ?_
  unfold Oper.wp execOp
  simp only [ho, resolve, invoke, builtin, Sem.run_bind, Sem.run_pure, Result.andThen_ok, List.map_toArray, List.map_cons, List.map_nil, hs, hx, hrun]
  exact hK _ _ (h a' c' ys w' h1 h2 h3 h4)
end Go.Proofs.YtgbpnepipknjnaaDoor
