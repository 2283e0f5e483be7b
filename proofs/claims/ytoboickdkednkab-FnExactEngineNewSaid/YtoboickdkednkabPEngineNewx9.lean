/- Several texts in one, in their order. -/
import Derived.Test.YtoboickdkednkabPEngineNewx8
import Derived.Test.YtoboickdkednkabPEngineNewx1
import Derived.Deep.AppendLies
import Derived.Laws.AppendOwnNone
import Derived.Deep.RegionHeld3
import Derived.Test.YtoboickdkednkabPEngineNewx7
import Derived.Laws.CopyOwn
import Derived.Test.YtoboickdkednkabPEngineNewx3
/- Appending numbers as a step of a region that draws its order; an object in a box of the call. -/
namespace Go.Proofs.Ytoboickdkednkab
open Go.RowKit

/-- An object lies in block Bo; its lists lie from lo on, and the call owns them. -/
structure ObjAt (w : World) (lo Bo : Nat) (o : ObjV) (aI : Option Addr) (cI : Nat) (aR : Option Addr) (cR : Nat) : Prop where
  box : Box w Bo [.int .i64 o.kind, .slice aI o.ints.length cI, .slice aR o.refs.length cR] 24
  own : OwnO w lo w.heap.size aI cI aR cR o
  lt : Bo < lo

theorem OwnO.kept {w w' : World} {lo hi : Nat} {aI : Option Addr} {cI : Nat} {aR : Option Addr} {cR : Nat} {o : ObjV} {B : Nat} (h : OwnO w lo hi aI cI aR cR o) (hg : w.grownBy w' (some B)) (hB : B < lo) : OwnO w' lo w'.heap.size aI cI aR cR o := by
  have h1 := h.ints.kept hg (fun k hk e => by have := (h.ints.lt k hk).1; cases e; omega)
  have h2 := h.refs.kept hg (fun k hk e => by have := (h.refs.lt k hk).1; cases e; omega)
  exact ⟨h1.widen (Nat.le_refl _) h1.2.1 (Nat.le_refl _), h2.widen (Nat.le_refl _) h2.2.1 (Nat.le_refl _), h.apart⟩

theorem ObjAt.kept {w w' : World} {lo Bo : Nat} {aI : Option Addr} {cI : Nat} {aR : Option Addr} {cR : Nat} {o : ObjV} {B : Nat} (h : ObjAt w lo Bo o aI cI aR cR) (hg : w.grownBy w' (some B)) (hB : B < Bo) : ObjAt w' lo Bo o aI cI aR cR :=
  ⟨h.box.block (hg.block Bo h.box.lt (fun e => by cases e; omega)), h.own.kept hg (by have := h.lt; omega), h.lt⟩
theorem ObjAt.alloc {w : World} {lo Bo : Nat} {aI : Option Addr} {cI : Nat} {aR : Option Addr} {cR : Nat} {o : ObjV} (h : ObjAt w lo Bo o aI cI aR cR) (ob : Obj) : ObjAt (w.alloc ob) lo Bo o aI cI aR cR :=
  ⟨h.box.alloc ob, (h.own.below ((Below.refl _ _).alloc (Nat.le_refl _) ob)).widen (Nat.le_refl _) (by simp) (Nat.le_refl _), h.lt⟩
theorem ObjAt.drew {w : World} {lo Bo : Nat} {aI : Option Addr} {cI : Nat} {aR : Option Addr} {cR : Nat} {o : ObjV} (h : ObjAt w lo Bo o aI cI aR cR) : ObjAt w.drew lo Bo o aI cI aR cR :=
  ⟨h.box, h.own.below (Below.refl _ _).drew, h.lt⟩
theorem ObjAt.three {w : World} {lo Bo : Nat} {aI : Option Addr} {cI : Nat} {aR : Option Addr} {cR : Nat} {o : ObjV} (h : ObjAt w lo Bo o aI cI aR cR) :
    w.cell? ⟨Bo, 0, none⟩ = some (.int .i64 o.kind) ∧ w.cell? ⟨Bo, 1, none⟩ = some (.slice aI o.ints.length cI) ∧ w.cell? ⟨Bo, 2, none⟩ = some (.slice aR o.refs.length cR) ∧ w.frozen? ⟨Bo, 0, none⟩ = false ∧ w.frozen? ⟨Bo, 1, none⟩ = false ∧ w.frozen? ⟨Bo, 2, none⟩ = false := h.box.three

end Go.Proofs.Ytoboickdkednkab

/- The walk of spec.l2Copy. -/
namespace Go.Proofs.Ytoboickdkednkab
open Go.RowKit

end Go.Proofs.Ytoboickdkednkab

/- A slot of a page stored. -/
namespace Go.Proofs.Ytoboickdkednkab
open Go.RowKit

/-- One of them is another, which lies behind them all. -/
theorem OwnS.set {w : World} {lo mid mid' hi : Nat} {ss : List SlotA} {t : SlotA} (h : OwnS w lo mid ss) (k : Nat) (ht : t.own w mid' hi) (h1 : lo ≤ mid') (h2 : mid ≤ mid') (h3 : mid' ≤ hi) : OwnS w lo hi (ss.set k t) := by
  have hhi : hi ≤ w.heap.size := ht.ints.2.1
  refine ⟨fun s hs => ?_, ?_⟩
  · rcases List.mem_or_eq_of_mem_set hs with h' | rfl
    · exact OwnO.widen (h.each s h') (Nat.le_refl _) (by omega) hhi
    · exact OwnO.widen ht h1 (Nat.le_refl _) hhi
  · have hb := SlotA.blocks_lt ht
    have hn := SlotA.blocks_nodup ht
    have hl := h.blocks_lt
    have ha := h.apart
    clear h ht
    induction ss generalizing k with
    | nil => exact ha
    | cons s r ih =>
      rw [List.flatMap_cons, List.nodup_append] at ha
      cases k with
      | zero =>
        rw [List.set_cons_zero, List.flatMap_cons, List.nodup_append]
        refine ⟨hn, ha.2.1, fun a ha' b hb' e => ?_⟩
        have h5 := (hb a ha').1
        have h6 := (hl b (by rw [List.flatMap_cons]; exact List.mem_append.2 (.inr hb'))).2
        omega
      | succ k =>
        rw [List.set_cons_succ, List.flatMap_cons, List.nodup_append]
        refine ⟨ha.1, ih k (fun x hx => hl x (by rw [List.flatMap_cons]; exact List.mem_append.2 (.inr hx))) ha.2.1, fun a ha' b hb' e => ?_⟩
        subst e
        obtain ⟨x, hx, hbx⟩ := List.mem_flatMap.1 hb'
        rcases List.mem_or_eq_of_mem_set hx with h' | rfl
        · exact ha.2.2 a ha' a (List.mem_flatMap.2 ⟨x, h', hbx⟩) rfl
        · have h5 := (hb a hbx).1
          have h6 := (hl a (by rw [List.flatMap_cons]; exact List.mem_append.2 (.inl ha'))).2
          omega
end Go.Proofs.Ytoboickdkednkab

/- The walks of spec.l3CopySlot and spec.l3Copy. -/
namespace Go.Proofs.Ytoboickdkednkab
open Go.RowKit

end Go.Proofs.Ytoboickdkednkab

/- The walk of impl.copyInts. -/
namespace Go.Proofs.Ytoboickdkednkab
open Go.RowKit

end Go.Proofs.Ytoboickdkednkab

/- The walk of impl.copySlot. -/
namespace Go.Proofs.Ytoboickdkednkab
open Go.RowKit

end Go.Proofs.Ytoboickdkednkab

/- The walks of laws.markSlotA4, markPage, heldSlotA4, heldPage. -/
namespace Go.Proofs.Ytoboickdkednkab
open Go.RowKit

theorem fit_at {ss : List SlotA} (h : Fit ss) {k : Nat} (hk : k < ss.length) : (ss.getD k zeroS).v.o.ints.length ≤ 1099511627776 ∧ (ss.getD k zeroS).v.o.refs.length ≤ 1099511627776 := h _ (getD_mem hk)

set_option maxHeartbeats 1000000 in
set_option maxRecDepth 100000 in
theorem markSlotA4_touch (ss : List SlotA) (h4 : ss.length = 4) (lo hi : Nat) (k0 : Int) (w : World) (ho : OwnS w lo hi ss) (hl : Fit ss) (h0 : 0 ≤ k0) (hk : k0 ≤ 10995116277760) (hhi : hi ≤ w.heap.size) :
    Calls Try.prog 38 #[.agg (cellsS ss).toArray, .int .i64 k0] w fun e w' => e = .returned (.int .i64 (k0 + countS ss)) ∧ OwnS w' lo hi (markSs ss k0) ∧ Touch (ss.flatMap SlotA.blocks) w w' := by
  obtain ⟨W, hW, b0, hbW, hsW⟩ := boxes1 w (cellsS ss) 27
  have H4 : Hid (ss.length = 4) := h4
  have HB : Hid (w.heap.size ∉ ss.flatMap SlotA.blocks) := fun hh => by have := (ho.blocks_lt _ hh).2; omega
  clear hsW h4
  go_enter Try.func38, Try.ntmps38
  go_wp2_with fail
  rw [hW.out]
  clear hW
  go_loopw [1, 5] (fun kk i wr => ∃ (j : Nat) (c : Nat), i = .int .i64 j ∧ kk = .int .i64 (k0 + c) ∧ j ≤ 4 ∧ Hid (c = countS (ss.take j)) ∧ OwnS wr lo hi (markSs (ss.take j) k0 ++ ss.drop j) ∧ Touch (ss.flatMap SlotA.blocks) W wr)
    (fun _ i _ => 4 - (intOf i).toNat)
  case atStart => exact ⟨0, 0, rfl, by simp, by omega, rfl, by simpa [markSs] using ho.below hbW, Touch.refl _ _⟩
  case round =>
    obtain ⟨j, c, rfl, rfl, hj, hcj, hown, htr⟩ := hrel
    have b0r := b0.touch htr HB.out
    have hc0 : c ≤ 8796093022208 := by
      have h1 := countS_le (ss.take j) 1099511627776 (fun s hs => hl s (List.mem_of_mem_take hs))
      rw [List.length_take] at h1
      have h2 : min j ss.length * (2 * 1099511627776) ≤ 4 * (2 * 1099511627776) := Nat.mul_le_mul_right _ (by omega)
      rw [hcj.out]; omega
    by_cases hlt : j < 4
    · have hkl : j < ss.length := by rw [H4.out]; exact hlt
      obtain ⟨c0, c1, c2, c3, _⟩ := b0r.slot j hkl
      obtain ⟨hd, htk⟩ := take_split ss j hkl
      have hlk := fit_at hl hkl
      rw [hd] at hown
      have HC : Hid (countS (ss.take (j + 1)) = countS (ss.take j) + (ss.getD j zeroS).count) := by rw [Hid, htk, countS_snoc]
      have HM : Hid (markSs (ss.take (j + 1)) k0 ++ ss.drop (j + 1) = markSs (ss.take j) k0 ++ (ss.getD j zeroS).mark (k0 + countS (ss.take j)) :: ss.drop (j + 1)) := by rw [Hid, htk, markSs_snoc]; simp
      have HS : Hid (∀ k ∈ (ss.getD j zeroS).blocks, k ∈ ss.flatMap SlotA.blocks) := fun k hk => List.mem_flatMap.2 ⟨_, getD_mem hkl, hk⟩
      have hos : (ss.getD j zeroS).own wr lo hi := hown.each _ (by simp)
      clear hd htk
      generalize ss.getD j zeroS = s at *
      have C := markSlot_touch s lo hi (k0 + c) wr hos (by omega) hlk.1 hlk.2 (by omega)
      simp only [SlotA.cells] at C
      have hi0 : (0 : Int) ≤ (j : Int) := by omega
      have hi4 : (j : Int) < 4 := by omega
      go_wp2_with fail
      refine C.mono ?_
      clear C c0 c1 c2 c3
      rintro e w1 ⟨rfl, ho1, ht1⟩
      have HO : OwnS w1 lo hi (markSs (ss.take (j + 1)) k0 ++ ss.drop (j + 1)) := by
        rw [HM.out, ← hcj.out]
        exact hown.replace ht1 ho1 (mark_blocks _ _)
      have HT : Touch (ss.flatMap SlotA.blocks) W w1 := htr.trans (ht1.mono HS.out)
      have HCC : Hid (c + s.count = countS (ss.take (j + 1))) := by rw [Hid, HC.out, hcj.out]
      clear hown ho1 ht1 hos
      go_wp2_with fail
      go_roundw
      case rel => exact ⟨j + 1, c + s.count, by go_num, by congr 1; omega, by omega, HCC, HO, HT⟩
      case measure => simp [intOf]; omega
    · obtain rfl : j = 4 := by omega
      have hkk : ¬ ((4 : Nat) : Int) < 4 := by omega
      have HE : Hid (ss.take 4 = ss ∧ ss.drop 4 = []) := ⟨List.take_of_length_le (by rw [H4.out]; omega), List.drop_eq_nil_of_le (by rw [H4.out]; omega)⟩
      go_wp2
      go_ret
      refine ⟨ret_int (by rw [hcj.out, HE.out.1]), ?_, (Touch.of_below hbW).trans htr⟩
      rw [HE.out.1, HE.out.2, List.append_nil] at hown
      exact hown

set_option maxHeartbeats 1000000 in
set_option maxRecDepth 100000 in
theorem heldSlotA4_any (ss : List SlotA) (h4 : ss.length = 4) (lo hi : Nat) (k0 : Int) (w : World) (ho : OwnS w lo hi (markSs ss k0)) (hl : Fit ss) (h0 : 0 ≤ k0) (hk : k0 ≤ 10995116277760) :
    Calls Try.prog 40 #[.agg (cellsS ss).toArray, .int .i64 k0] w fun e w' => e = .returned (.int .i64 (k0 + countS ss)) ∧ Below w.heap.size w w' := by
  obtain ⟨W, hW, b0, hbW, hsW⟩ := boxes1 w (cellsS ss) 27
  have H4 : Hid (ss.length = 4) := h4
  clear hsW h4
  go_enter Try.func40, Try.ntmps40
  go_wp2_with fail
  rw [hW.out]
  clear hW
  go_loopw [1, 5] (fun kk i wr => ∃ (j : Nat) (c : Nat), i = .int .i64 j ∧ kk = .int .i64 (k0 + c) ∧ j ≤ 4 ∧ Hid (c = countS (ss.take j)) ∧ Below W.heap.size W wr)
    (fun _ i _ => 4 - (intOf i).toNat)
  case atStart => exact ⟨0, 0, rfl, by simp, by omega, rfl, Below.refl _ _⟩
  case round =>
    obtain ⟨j, c, rfl, rfl, hj, hcj, hbl⟩ := hrel
    have b0r := b0.below hbl b0.lt
    have hbT : Below w.heap.size w wr := hbW.trans (hbl.mono hbW.size)
    have hc0 : c ≤ 8796093022208 := by
      have h1 := countS_le (ss.take j) 1099511627776 (fun s hs => hl s (List.mem_of_mem_take hs))
      rw [List.length_take] at h1
      have h2 : min j ss.length * (2 * 1099511627776) ≤ 4 * (2 * 1099511627776) := Nat.mul_le_mul_right _ (by omega)
      rw [hcj.out]; omega
    by_cases hlt : j < 4
    · have hkl : j < ss.length := by rw [H4.out]; exact hlt
      obtain ⟨c0, c1, c2, c3, _⟩ := b0r.slot j hkl
      obtain ⟨hd, htk⟩ := take_split ss j hkl
      have hlk := fit_at hl hkl
      have HC : Hid (countS (ss.take (j + 1)) = countS (ss.take j) + (ss.getD j zeroS).count) := by rw [Hid, htk, countS_snoc]
      have hos : ((ss.getD j zeroS).mark (k0 + c)).own wr lo hi := by
        have := ho.each _ (markSs_at ss k0 j hkl)
        rw [← hcj.out] at this
        exact OwnO.below this hbT
      clear hd htk
      generalize ss.getD j zeroS = s at *
      have C := heldSlot_any s lo hi (k0 + c) wr hos (by omega) hlk.1 hlk.2 (by omega)
      simp only [SlotA.cells] at C
      have hi0 : (0 : Int) ≤ (j : Int) := by omega
      have hi4 : (j : Int) < 4 := by omega
      go_wp2_with fail
      refine C.mono ?_
      clear C c0 c1 c2 c3
      rintro e w1 ⟨rfl, hb1⟩
      have hnn : ¬ (k0 + (c : Int) + (s.count : Int)) < 0 := by omega
      have HCC : Hid (c + s.count = countS (ss.take (j + 1))) := by rw [Hid, HC.out, hcj.out]
      clear hos
      go_wp2_with fail
      go_roundw
      case rel => exact ⟨j + 1, c + s.count, by go_num, by congr 1; omega, by omega, HCC, hbl.trans (hb1.mono hbl.size)⟩
      case measure => simp [intOf]; omega
    · obtain rfl : j = 4 := by omega
      have hkk : ¬ ((4 : Nat) : Int) < 4 := by omega
      have HE : Hid (ss.take 4 = ss) := List.take_of_length_le (by rw [H4.out]; omega)
      go_wp2
      go_ret
      exact ⟨ret_int (by rw [hcj.out, HE.out]), hbT⟩

set_option maxHeartbeats 400000 in
set_option maxRecDepth 100000 in
theorem markPage_touch (p : PageA) (h4 : p.ss.length = 4) (lo hi : Nat) (k0 : Int) (w : World) (ho : OwnS w lo hi p.ss) (hl : Fit p.ss) (h0 : 0 ≤ k0) (hk : k0 ≤ 10995116277760) (hhi : hi ≤ w.heap.size) :
    Calls Try.prog 29 #[.agg p.cells.toArray, .int .i64 k0] w fun e w' => e = .returned (.int .i64 (k0 + countS p.ss)) ∧ OwnS w' lo hi (markSs p.ss k0) ∧ Touch (p.ss.flatMap SlotA.blocks) w w' := by
  obtain ⟨n, ss⟩ := p
  simp only [PageA.cells] at *
  obtain ⟨W, hW, b0, hbW, hsW⟩ := boxes1 w (.int .i64 n :: cellsS ss) 29
  have hrg0 : W.rangeAt w.heap.size 1 (cellsS ss) := Box.range [.int .i64 n] (cellsS ss) [] (by simpa using b0)
  have hi0 : (Try.prog.info? 27).map (·.size) = some (cellsS ss).length := by rw [cellsS_len, h4]; kernel_rfl
  have hs0 := hbW.size
  go_enter Try.func29, Try.ntmps29
  go_wp2_with (first | (guard_target = wpList _ _ _ (Oper.mk (some 6) _ _ _ _ _ :: _) _ _; refine wpList_load_mid rfl 27 (.tmp 5) rfl w.heap.size 1 rfl (cellsS ss) _ (by rw [hW.out]; exact hrg0) Try.underlying27 rfl hi0 ?_) | fail)
  rw [hW.out]
  clear hW hrg0 hi0 hsW
  refine (markSlotA4_touch ss h4 lo hi k0 W (ho.below hbW) hl h0 hk (by omega)).mono ?_
  rintro e w1 ⟨rfl, ho1, ht1⟩
  go_wp2
  go_ret
  exact ⟨rfl, ho1, (Touch.of_below hbW).trans ht1⟩

set_option maxHeartbeats 400000 in
set_option maxRecDepth 100000 in
theorem heldPage_any (p : PageA) (h4 : p.ss.length = 4) (lo hi : Nat) (k0 : Int) (w : World) (ho : OwnS w lo hi (markSs p.ss k0)) (hl : Fit p.ss) (h0 : 0 ≤ k0) (hk : k0 ≤ 10995116277760) :
    Calls Try.prog 32 #[.agg p.cells.toArray, .int .i64 k0] w fun e w' => e = .returned (.int .i64 (k0 + countS p.ss)) ∧ Below w.heap.size w w' := by
  obtain ⟨n, ss⟩ := p
  simp only [PageA.cells] at *
  obtain ⟨W, hW, b0, hbW, hsW⟩ := boxes1 w (.int .i64 n :: cellsS ss) 29
  have hrg0 : W.rangeAt w.heap.size 1 (cellsS ss) := Box.range [.int .i64 n] (cellsS ss) [] (by simpa using b0)
  have hi0 : (Try.prog.info? 27).map (·.size) = some (cellsS ss).length := by rw [cellsS_len, h4]; kernel_rfl
  go_enter Try.func32, Try.ntmps32
  go_wp2_with (first | (guard_target = wpList _ _ _ (Oper.mk (some 6) _ _ _ _ _ :: _) _ _; refine wpList_load_mid rfl 27 (.tmp 5) rfl w.heap.size 1 rfl (cellsS ss) _ (by rw [hW.out]; exact hrg0) Try.underlying27 rfl hi0 ?_) | fail)
  rw [hW.out]
  clear hW hrg0 hi0 hsW
  refine (heldSlotA4_any ss h4 lo hi k0 W (ho.below hbW) hl h0 hk).mono ?_
  rintro e w1 ⟨rfl, hb1⟩
  have hnn : ¬ (k0 + (countS ss : Int)) < 0 := by omega
  go_wp2
  go_ret
  exact ⟨rfl, hbW.trans (hb1.mono hbW.size)⟩
end Go.Proofs.Ytoboickdkednkab

/- The walks of laws.toHold, toHoldS, eqHold, eqHoldS, szHoldS. -/
namespace Go.Proofs.Ytoboickdkednkab
open Go.RowKit

set_option maxHeartbeats 400000 in
set_option maxRecDepth 100000 in
theorem eqHold_same (l : HoldV) (w : World) :
    Calls Try.prog 28 #[.agg l.cells.toArray, .agg l.cells.toArray] w fun e w' => e = .returned (.bool true) ∧ Below w.heap.size w w' := by
  obtain ⟨x, y⟩ := l
  simp only [HoldV.cells]
  obtain ⟨W, hW, b0, b1, hbW, hsW⟩ := boxes2 w [.int .i64 x, .int .i64 y] [.int .i64 x, .int .i64 y] 63 63
  clear b0 b1 hsW
  go_enter Try.func28, Try.ntmps28
  go_wp2
  rw [hW.out]
  go_ret
  exact ⟨rfl, hbW⟩

set_option maxHeartbeats 1000000 in
set_option maxRecDepth 100000 in
theorem eqHoldS_same (a b : Option Addr) (ca cb : Nat) (ls : List HoldV) (w : World) (ha : ReadsH w a ls) (hb : ReadsH w b ls) (hl : ls.length ≤ 1099511627776) :
    Calls Try.prog 13 #[.slice a ls.length ca, .slice b ls.length cb] w fun e w' => e = .returned (.bool true) ∧ Below w.heap.size w w' := by
  rcases ha.cases with rfl | ⟨b1, o1, rfl, hpos, hc1⟩
  · go_enter Try.func13, Try.ntmps13
    go_wp2
    refine wp_loop_rounds 1 ?_
    rw [rounds_succ]
    go_wp2
    go_ret
    exact ⟨rfl, Below.refl _ _⟩
  · rcases hb.cases with rfl | ⟨b2, o2, rfl, _, hc2⟩
    · simp at hpos
    · go_enter Try.func13, Try.ntmps13
      go_wp2
      go_loopw [5] (fun i wr => ∃ k : Nat, k ≤ ls.length ∧ i = .int .i64 k ∧ Below w.heap.size w wr) (fun i _ => ls.length - (intOf i).toNat)
      case atStart => exact ⟨0, Nat.zero_le _, rfl, Below.refl _ _⟩
      case round =>
        obtain ⟨k, hk, rfl, hbl⟩ := hrel
        by_cases hlt : k < ls.length
        · have h1 := hc1 k hlt
          have h2 := hc2 k hlt
          clear hc1 hc2
          generalize ls.getD k zeroH = z at *
          have HS : Hid (∀ w1, Below w.heap.size w w1 → (w1.cell? ⟨b1, o1 + k * 2, none⟩ = some (.int .i64 z.tx) ∧ w1.cell? ⟨b1, o1 + k * 2 + 1, none⟩ = some (.int .i64 z.oid)) ∧ (w1.cell? ⟨b2, o2 + k * 2, none⟩ = some (.int .i64 z.tx) ∧ w1.cell? ⟨b2, o2 + k * 2 + 1, none⟩ = some (.int .i64 z.oid))) := fun w1 hh =>
            ⟨⟨(hh.cell (block_lt h1.1)).trans h1.1, (hh.cell (block_lt h1.2)).trans h1.2⟩, (hh.cell (block_lt h2.1)).trans h2.1, (hh.cell (block_lt h2.2)).trans h2.2⟩
          have hh := HS.out wr hbl
          clear h1 h2
          go_wp2_with fail
          go_region_held3 (fun w1 => (w1.cell? ⟨b1, o1 + k * 2, none⟩ = some (.int .i64 z.tx) ∧ w1.cell? ⟨b1, o1 + k * 2 + 1, none⟩ = some (.int .i64 z.oid)) ∧ (w1.cell? ⟨b2, o2 + k * 2, none⟩ = some (.int .i64 z.tx) ∧ w1.cell? ⟨b2, o2 + k * 2 + 1, none⟩ = some (.int .i64 z.oid)))
            (first | exact HS.out _ hw2 | go_keep | fail)
            ((first | (go_at_call 28; refine (eqHold_same z _).mono ?_; rintro e w2 ⟨rfl, hb2⟩; have hw2 : Below w.heap.size w w2 := (hbl.drew).trans (hb2.mono hbl.size)) | fail))
          all_goals
            go_wp2_with fail
            go_roundw
            case rel => exact ⟨k + 1, by omega, by go_num, hw2⟩
            case measure => simp [intOf]; omega
        · go_wp2
          go_ret
          exact ⟨rfl, hbl⟩
end Go.Proofs.Ytoboickdkednkab

/- The walks of laws.markHoldS and laws.heldHoldS. -/
namespace Go.Proofs.Ytoboickdkednkab
open Go.RowKit

def markH1 (k0 : Int) (i : Nat) : HoldV := ⟨k0 + 2 * i, k0 + 2 * i + 1⟩
def marksH (k0 : Int) (n : Nat) : List HoldV := (List.range n).map fun i : Nat => markH1 k0 i
theorem marksH_len (k0 : Int) (n : Nat) : (marksH k0 n).length = n := by simp [marksH]
theorem marksH_at (k0 : Int) (n i : Nat) (h : i < n) : (marksH k0 n).getD i zeroH = markH1 k0 i := by simp [marksH, List.getD, h]
theorem marksH_succ (k0 : Int) (n : Nat) : marksH k0 (n + 1) = marksH k0 n ++ [markH1 k0 n] := by simp [marksH, List.range_succ]
def markedH (k0 : Int) (xs : List HoldV) (k : Nat) : List HoldV := marksH k0 k ++ xs.drop k
theorem markedH_len (k0 : Int) (xs : List HoldV) (k : Nat) (h : k ≤ xs.length) : (markedH k0 xs k).length = xs.length := by simp [markedH, marksH_len]; omega
theorem markedH_set (k0 : Int) (xs : List HoldV) (k : Nat) (h : k < xs.length) : (markedH k0 xs k).set k (markH1 k0 k) = markedH k0 xs (k + 1) := by
  unfold markedH
  rw [List.set_append, if_neg (by rw [marksH_len]; omega), marksH_len, Nat.sub_self, marksH_succ, List.drop_eq_getElem_cons h, List.set_cons_zero]
  simp
theorem markedH_all (k0 : Int) (xs : List HoldV) : markedH k0 xs xs.length = marksH k0 xs.length := by simp [markedH]

set_option maxHeartbeats 1000000 in
set_option maxRecDepth 100000 in
theorem markHoldS_any (base : Nat) (a : Option Addr) (cap : Nat) (k0 : Int) (xs : List HoldV) (w : World)
    (hown : w.ownsRow base 63 2 (.slice a xs.length cap) xs.length (cellsH xs)) (h0 : 0 ≤ k0) (hl : k0 + 2 * xs.length ≤ 4611686018427387904) :
    Calls Try.prog 18 #[.slice a xs.length cap, .int .i64 k0] w fun e w' => e = .returned (.int .i64 (k0 + 2 * xs.length)) ∧
      w'.ownsRow base 63 2 (.slice a xs.length cap) xs.length (cellsH (marksH k0 xs.length)) ∧ w.grownBy w' (Value.slice a xs.length cap).ownBlock := by
  have hlen := hown.1
  rcases hown.2 with ⟨hv, h00⟩ | ⟨g, cap', cur, hv, hg, hgg, hr⟩
  · simp only [Value.slice.injEq] at hv
    obtain ⟨rfl, h00', rfl⟩ := hv
    obtain rfl := List.length_eq_zero_iff.1 h00
    go_enter Try.func18, Try.ntmps18
    go_wp2
    refine wp_loop_rounds 1 ?_
    rw [rounds_succ]
    go_wp2
    go_ret
    exact ⟨by simp, hown, World.grownBy.refl _ _⟩
  · simp only [Value.slice.injEq] at hv
    obtain ⟨rfl, _, rfl⟩ := hv
    clear hgg hr hlen
    have hM : w.ownsRow base 63 2 (.slice (some ⟨g, 0, none⟩) xs.length cap) xs.length (cellsH (markedH k0 xs 0)) := by simpa [markedH, marksH] using hown
    clear hown
    go_enter Try.func18, Try.ntmps18
    go_wp2
    go_loopw [1, 5] (fun kk i wr => ∃ k : Nat, k ≤ xs.length ∧ i = .int .i64 k ∧ kk = .int .i64 (k0 + 2 * k) ∧ wr.ownsRow base 63 2 (.slice (some ⟨g, 0, none⟩) xs.length cap) xs.length (cellsH (markedH k0 xs k)) ∧ w.grownBy wr (some g))
      (fun _ i _ => xs.length - (intOf i).toNat)
    case atStart => exact ⟨0, Nat.zero_le _, rfl, by simp, hM, World.grownBy.refl _ _⟩
    case round =>
      obtain ⟨k, hk, rfl, rfl, hown, hgr⟩ := hrel
      clear hM
      by_cases hlt : k < xs.length
      · have hp := markedH_len k0 xs k hk
        obtain ⟨x0, x1, hfz⟩ := row_hold hown hp k hlt
        have f0 := hfz (k * 2)
        have f1 := hfz (k * 2 + 1)
        obtain ⟨W2, hW2, ho2, hg2⟩ := row_storeH hown hp k hlt (markH1 k0 k)
        rw [markedH_set k0 xs k hlt] at ho2
        have HH : Hid (_ ∧ _) := ⟨ho2, grownBy_trans hgr hg2⟩
        clear ho2 hg2 hfz hown hgr
        generalize (markedH k0 xs k).getD k zeroH = old at *
        simp only [markH1] at hW2
        go_wp2
        rw [hW2.out]
        go_roundw
        case rel => exact ⟨k + 1, by omega, by go_num, by go_num, HH.out.1, HH.out.2⟩
        case measure => simp [intOf]; omega
      · have HE : Hid (wr.ownsRow base 63 2 (.slice (some ⟨g, 0, none⟩) xs.length cap) xs.length (cellsH (marksH k0 xs.length)) ∧ k = xs.length) := by
          have e : k = xs.length := by omega
          rw [e, markedH_all] at hown
          exact ⟨hown, e⟩
        go_wp2
        go_ret
        exact ⟨ret_int (by have := HE.out.2; omega), HE.out.1, hgr⟩

theorem markHoldS_own (lo hi : Nat) (a : Option Addr) (cap : Nat) (k0 : Int) (xs : List HoldV) (w : World) (ho : OwnH w lo hi a cap xs) (h0 : 0 ≤ k0) (hl : k0 + 2 * xs.length ≤ 4611686018427387904) :
    Calls Try.prog 18 #[.slice a xs.length cap, .int .i64 k0] w fun e w' => e = .returned (.int .i64 (k0 + 2 * xs.length)) ∧
      OwnH w' lo hi a cap (marksH k0 xs.length) ∧ Touch (Value.slice a xs.length cap).ownBlock.toList w w' := by
  refine (markHoldS_any lo a cap k0 xs w ho.1 h0 hl).mono ?_
  rintro e w' ⟨rfl, h1, h2⟩
  refine ⟨rfl, ⟨by rw [marksH_len]; exact h1, Nat.le_trans ho.2.1 h2.size, by rw [marksH_len]; exact ho.2.2⟩, Touch.of_grown h2 (fun j hj => Option.mem_toList.2 hj)⟩

set_option maxHeartbeats 1000000 in
set_option maxRecDepth 100000 in
theorem heldHoldS_any (a : Option Addr) (cap : Nat) (k0 : Int) (n : Nat) (w : World) (hr : ReadsH w a (marksH k0 n)) (h0 : 0 ≤ k0) (hl : k0 + 2 * n ≤ 4611686018427387904) :
    Calls Try.prog 23 #[.slice a n cap, .int .i64 k0] w fun e w' => e = .returned (.int .i64 (k0 + 2 * n)) ∧ w' = w := by
  rcases hr.cases with h | ⟨b, off, rfl, hpos, hcell⟩
  · have h' := congrArg List.length h
    rw [marksH_len] at h'
    simp at h'
    subst h'
    go_enter Try.func23, Try.ntmps23
    go_wp2
    refine wp_loop_rounds 1 ?_
    rw [rounds_succ]
    go_wp2
    go_ret
    exact ⟨by simp, rfl⟩
  · rw [marksH_len] at hpos hcell
    go_enter Try.func23, Try.ntmps23
    go_wp2
    go_loop [1, 5] (fun kk i => ∃ k : Nat, k ≤ n ∧ i = .int .i64 k ∧ kk = .int .i64 (k0 + 2 * k)) (fun _ i => n - (intOf i).toNat)
    case atStart => exact ⟨0, Nat.zero_le _, rfl, by simp⟩
    case round =>
      obtain ⟨k, hk, rfl, rfl⟩ := hrel
      by_cases hlt : k < n
      · obtain ⟨c0, c1⟩ := hcell k hlt
        rw [marksH_at k0 n k hlt] at c0 c1
        simp only [markH1] at c0 c1
        clear hcell
        go_wp2
        go_round
        case rel => exact ⟨k + 1, by omega, by go_num, by go_num⟩
        case measure => simp [intOf]; omega
      · have HE : Hid (k = n) := by show k = n; omega
        go_wp2
        go_ret
        exact ⟨ret_int (by have := HE.out; omega), rfl⟩
end Go.Proofs.Ytoboickdkednkab
