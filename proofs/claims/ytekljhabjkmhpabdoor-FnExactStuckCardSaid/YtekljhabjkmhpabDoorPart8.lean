/- Several texts in one, in their order. -/
import Derived.Test.YtekljhabjkmhpabDoorPart3
import Derived.ProofKit
import Derived.OpenShut
import Derived.ChangeOld
import Derived.Test.YtekljhabjkmhpabDoorPart5
import Derived.Test.YtekljhabjkmhpabDoorPart7
import Derived.Deep.RegionHeld3
import Derived.LaidLaws
import Derived.LaidHandle
import Derived.Lib.LaidTab
import Derived.Test.YtekljhabjkmhpabDoorRows
import Derived.Lay
import Derived.MakeChecks
import Derived.Carry
import Derived.ChangeVars
/- The walks of laws.toLocks, szGrantS, szLocks, eqLocks; locks that came in. -/
namespace Go.Proofs.YtekljhabjkmhpabDoor
open Go.RowKit

set_option maxHeartbeats 400000 in
set_option maxRecDepth 100000 in
theorem toLocks_own (l : LocksA) (w : World) (hG : ReadsG w l.aG l.given) (hV : ReadsG w l.aW l.waits) (hl : l.short 1099511627776) :
    Calls Tryd.prog 8 #[.agg #[.slice l.aG l.given.length l.cG, .slice l.aW l.waits.length l.cW]] w fun e w' => ∃ a1 c1 a2 c2, e = .returned (.agg #[.slice a1 l.given.length c1, .slice a2 l.waits.length c2]) ∧
      LocksA.own w' w.heap.size w'.heap.size ⟨l.given, l.waits, a1, c1, a2, c2⟩ ∧ Below w.heap.size w w' := by
  obtain ⟨G, V, aG, cG, aW, cW⟩ := l
  obtain ⟨hlG, hlV⟩ := hl
  simp only at *
  go_enter Tryd.func8, Tryd.ntmps8
  go_wp2_with fail
  obtain ⟨W, hW, b0, b1, b2, hbW, hsW⟩ := boxes3 w [.slice aG G.length cG, .slice aW V.length cW] [.slice none 0 0, .slice none 0 0] [.slice none 0 0, .slice none 0 0] 24 28 28
  rw [hW.out]
  clear hW
  refine (toGrantS_any aG cG G W (hG.below hbW) hlG).mono ?_
  rintro e w1 ⟨a1, c1, rfl, ho1, hb1⟩
  have b0' := b0.below hb1 b0.lt
  have b1' := b1.below hb1 b1.lt
  have b2' := b2.below hb1 b2.lt
  have h02 := b0'.cell 1 _ rfl
  have h21 := b2'.cell 0 _ rfl
  have f21 := b2'.frozen 0
  go_wp2_with fail
  obtain ⟨W2, hW2, b2s, hw2, hs2⟩ := box_set b2' 0 (.slice a1 G.length c1)
  rw [hW2.out]
  clear hW2
  have hWb : Below w.heap.size w W2 := (hbW.trans (hb1.mono (by omega))).trans (hw2.below (by omega) (by have := hb1.size; omega))
  have ho1' : OwnG W2 W.heap.size w1.heap.size a1 c1 G := ho1.within hw2 (.inr (by omega))
  refine (toGrantS_any aW cW V W2 (hV.below hWb) hlV).mono ?_
  rintro e w3 ⟨a3, c3, rfl, ho3, hb3⟩
  have ho13 := ho1'.below hb3
  have b23 := b2s.below hb3 b2s.lt
  have b13 := (b1'.within hw2 (by omega)).below hb3 (by have := (b1'.within hw2 (by omega)).lt; exact this)
  simp only [List.set] at b23
  have g22 := b23.cell 1 _ rfl
  have e22 := b23.frozen 1
  have bS := b23.set 1 (.slice a3 V.length c3)
  have bT := b13.other (C := w.heap.size + 1 + 1) (i := 1) (v := .slice a3 V.length c3) (by omega)
  simp only [List.set] at bS
  have s0 := bS.cell 0 _ rfl
  have s1 := bS.cell 1 _ rfl
  have t0 := bT.cell 0 _ rfl
  have t1 := bT.cell 1 _ rfl
  have u0 := bT.frozen 0
  have u1 := bT.frozen 1
  have bF := (bT.set 0 (.slice a1 G.length c1)).set 1 (.slice a3 V.length c3)
  simp only [List.set] at bF
  have hwF : Within (w.heap.size + 1) (w.heap.size + 3) w3 _ := ((within_set w3 (w.heap.size + 1 + 1) 1 (.slice a3 V.length c3) (by omega)).trans (within_set _ (w.heap.size + 1) 0 (.slice a1 G.length c1) (by omega))).trans (within_set _ (w.heap.size + 1) 1 (.slice a3 V.length c3) (by omega))
  have HF : Hid (_ ∧ _ ∧ _) := ⟨bF.cell 0 _ rfl, bF.cell 1 _ rfl, hwF⟩
  clear bF hwF
  go_wp2
  obtain ⟨f0, f1, hwF⟩ := HF.out
  generalize ((w3.setCell ⟨w.heap.size + 1 + 1, 1, none⟩ (.slice a3 V.length c3)).setCell ⟨w.heap.size + 1, 0, none⟩ (.slice a1 G.length c1)).setCell ⟨w.heap.size + 1, 1, none⟩ (.slice a3 V.length c3) = WF at *
  have hs3 := hb3.size
  have hs1 := hb1.size
  have hsF := hwF.size
  refine bodyPost_ret (v := .agg #[.slice a1 G.length c1, .slice a3 V.length c3]) (by simp [results, Tryd.results8, go_sem, f0, f1]) rfl ⟨a1, c1, a3, c3, rfl, ⟨(ho13.within hwF (.inr (by omega))).widen (by omega) (by omega) (Nat.le_refl _), (ho3.within hwF (.inr (by omega))).widen (by omega) (by omega) (Nat.le_refl _), fun j hj hj' => by have := (ho1.lt j hj).2; have := (ho3.lt j hj').1; omega⟩, (hWb.trans (hb3.mono (by omega))).trans (hwF.below (by omega) (by omega))⟩

def szG (n : Nat) (left : Int) : Int := if left - n < 0 then -1 else left - n

set_option maxHeartbeats 400000 in
theorem szGrantS_any (a : Option Addr) (c n : Nat) (left : Int) (w : World) (hn : n ≤ 9223372036854775807) (h0 : 0 ≤ left ∧ left ≤ 1048576) :
    Calls Tryd.prog 20 #[.slice a n c, .int .i64 left] w fun e w' => e = .returned (.int .i64 (szG n left)) ∧ w' = w := by
  by_cases h : left - n < 0
  · have HS : Hid (szG n left = -1) := by unfold szG; rw [Hid, if_pos h]
    go_enter Tryd.func20, Tryd.ntmps20
    go_wp2
    go_ret
    exact ⟨ret_int HS.out.symm, rfl⟩
  · have HS : Hid (szG n left = left - n) := by unfold szG; rw [Hid, if_neg h]
    go_enter Tryd.func20, Tryd.ntmps20
    go_wp2
    go_ret
    exact ⟨ret_int HS.out.symm, rfl⟩

set_option maxHeartbeats 400000 in
set_option maxRecDepth 100000 in
/-- Too great, and less than 0 is told; or both lists are short. -/
theorem szLocks_any (l : LocksA) (w : World) (hn : l.short 9223372036854775807) :
    Calls Tryd.prog 6 #[.agg #[.slice l.aG l.given.length l.cG, .slice l.aW l.waits.length l.cW], .int .i64 1048576] w fun e w' => ∃ left : Int, e = .returned (.int .i64 left) ∧ (left < 0 ∨ (0 ≤ left ∧ l.short 1048576)) ∧ Below w.heap.size w w' := by
  obtain ⟨G, V, aG, cG, aW, cW⟩ := l
  obtain ⟨hlG, hlV⟩ := hn
  simp only [LocksA.short] at *
  obtain ⟨W, hW, b0, hbW, hsW⟩ := boxes1 w [.slice aG G.length cG, .slice aW V.length cW] 24
  have c1 := b0.cell 1 _ rfl
  by_cases h : (1048576 : Int) - G.length < 0
  · have HZ : Hid (szG G.length 1048576 = -1) := by unfold szG; rw [Hid, if_pos h]
    go_enter Tryd.func6, Tryd.ntmps6
    go_wp2_with fail
    rw [hW.out]
    refine (szGrantS_any aG cG G.length 1048576 W hlG (by omega)).mono ?_
    rintro e w' ⟨rfl, rfl⟩
    rw [HZ.out]
    go_wp2
    go_ret
    exact ⟨-1, rfl, .inl (by omega), hbW⟩
  · have HZ : Hid (szG G.length 1048576 = 1048576 - G.length) := by unfold szG; rw [Hid, if_neg h]
    by_cases h2 : (1048576 : Int) - G.length - V.length < 0
    · have HZ2 : Hid (szG V.length (1048576 - G.length) = -1) := by unfold szG; rw [Hid, if_pos h2]
      go_enter Tryd.func6, Tryd.ntmps6
      go_wp2_with fail
      rw [hW.out]
      refine (szGrantS_any aG cG G.length 1048576 W hlG (by omega)).mono ?_
      rintro e w' ⟨rfl, rfl⟩
      rw [HZ.out]
      go_wp2_with fail
      refine (szGrantS_any aW cW V.length (1048576 - G.length) _ hlV (by omega)).mono ?_
      rintro e w' ⟨rfl, rfl⟩
      rw [HZ2.out]
      go_wp2
      go_ret
      exact ⟨-1, rfl, .inl (by omega), hbW⟩
    · have HZ2 : Hid (szG V.length (1048576 - G.length) = 1048576 - G.length - V.length) := by unfold szG; rw [Hid, if_neg h2]
      have HO : Hid (0 ≤ (1048576 : Int) - G.length - V.length ∧ G.length ≤ 1048576 ∧ V.length ≤ 1048576) := by constructor <;> omega
      go_enter Tryd.func6, Tryd.ntmps6
      go_wp2_with fail
      rw [hW.out]
      refine (szGrantS_any aG cG G.length 1048576 W hlG (by omega)).mono ?_
      rintro e w' ⟨rfl, rfl⟩
      rw [HZ.out]
      go_wp2_with fail
      refine (szGrantS_any aW cW V.length (1048576 - G.length) _ hlV (by omega)).mono ?_
      rintro e w' ⟨rfl, rfl⟩
      rw [HZ2.out]
      go_wp2
      go_ret
      exact ⟨_, rfl, .inr ⟨HO.out.1, HO.out.2⟩, hbW⟩

set_option maxHeartbeats 400000 in
set_option maxRecDepth 100000 in
theorem eqLocks_same (G V : List GrantV) (a1 a2 a3 a4 : Option Addr) (c1 c2 c3 c4 : Nat) (w : World) (h1 : ReadsG w a1 G) (h2 : ReadsG w a2 V) (h3 : ReadsG w a3 G) (h4 : ReadsG w a4 V) (hlG : G.length ≤ 1099511627776) (hlV : V.length ≤ 1099511627776) :
    Calls Tryd.prog 10 #[.agg #[.slice a1 G.length c1, .slice a2 V.length c2], .agg #[.slice a3 G.length c3, .slice a4 V.length c4]] w fun e w' => e = .returned (.bool true) ∧ Below w.heap.size w w' := by
  obtain ⟨W, hW, b0, b1, hbW, hsW⟩ := boxes2 w [.slice a1 G.length c1, .slice a2 V.length c2] [.slice a3 G.length c3, .slice a4 V.length c4] 28 28
  go_enter Tryd.func10, Tryd.ntmps10
  go_wp2_with fail
  rw [hW.out]
  refine (eqGrantS_same a1 a3 c1 c3 G W (h1.below hbW) (h3.below hbW) hlG).mono ?_
  rintro e w1 ⟨rfl, hb1⟩
  have x0 := (b0.below hb1 b0.lt).cell 1 _ rfl
  have x1 := (b1.below hb1 b1.lt).cell 1 _ rfl
  have hB : Below w.heap.size w w1 := hbW.trans (hb1.mono hbW.size)
  go_wp2_with fail
  refine (eqGrantS_same a2 a4 c2 c4 V w1 (h2.below hB) (h4.below hB) hlV).mono ?_
  rintro e w2 ⟨rfl, hb2⟩
  go_wp2
  go_ret
  exact ⟨rfl, hB.trans (hb2.mono hB.size)⟩

section
open Go.ChangeShapes Go.WideShapes Go.ChangeAt
variable {H : Type} {enc : TypeId × Value → H} {w : World} {base : Nat} {spare : Nat → Bool} {held : Bool}

theorem Tryd.cellsGr : Tryd.prog.cellsOf 70 = 3 := by kernel_rfl
theorem Tryd.cellsGrs : Tryd.prog.cellsOf 22 = 1 := by kernel_rfl
theorem Tryd.cellsLk : Tryd.prog.cellsOf 24 = 2 := by kernel_rfl
theorem Tryd.cellsIg : Tryd.prog.cellsOf 3 = 1 := by kernel_rfl
theorem some_atG {α : Type} (xs : List α) (i : Nat) (h : i < xs.length) : ∃ y, xs[i]? = some y := ⟨_, List.getElem?_eq_getElem h⟩
theorem trod_numG {fuel : Nat} {cs : List Value} {x : DataW H × List MemPlace} (h : DataW.trod enc Tryd.prog w base spare held fuel 3 cs = some x) : ∃ n : Int, cs = [.int .i64 n] := by
  obtain ⟨n, rfl, _, hw⟩ := DataW.trod_int Tryd.underlying3 h
  exact ⟨n, rfl⟩

set_option maxRecDepth 100000 in
theorem trod_grant {fuel : Nat} {cs : List Value} {x : DataW H × List MemPlace} (h : DataW.trod enc Tryd.prog w base spare held fuel 70 cs = some x) : ∃ t : GrantV, cs = t.cells := by
  obtain ⟨xs, n, _, _, hlen, hxl, hf⟩ := DataW.trod_struct Tryd.underlying70 h
  rw [Tryd.cellsGr] at hlen
  match cs, hlen with
  | [v0, v1, v2], _ =>
    have f0 := hf 0 _ rfl
    have f1 := hf 1 _ rfl
    have f2 := hf 2 _ rfl
    obtain ⟨y0, hx0⟩ := some_atG xs 0 (by rw [hxl]; decide)
    obtain ⟨y1, hx1⟩ := some_atG xs 1 (by rw [hxl]; decide)
    obtain ⟨y2, hx2⟩ := some_atG xs 2 (by rw [hxl]; decide)
    rw [hx0] at f0
    rw [hx1] at f1
    rw [hx2] at f2
    simp only [List.getElem_toArray, List.getElem_cons_zero, List.getElem_cons_succ, Tryd.cellsIg, List.drop, List.take] at f0 f1 f2
    obtain ⟨a, e0⟩ := trod_numG f0
    obtain ⟨b, e1⟩ := trod_numG f1
    obtain ⟨c, e2⟩ := trod_numG f2
    simp only [List.cons.injEq, and_true] at e0 e1 e2
    subst e0 e1 e2
    exact ⟨⟨a, b, c⟩, rfl⟩

set_option maxRecDepth 100000 in
theorem trod_grants {fuel : Nat} {cs : List Value} {x : DataW H × List MemPlace} (h : DataW.trod enc Tryd.prog w base spare held fuel 22 cs = some x) :
    ∃ (a : Option Addr) (c : Nat) (ls : List GrantV), cs = [.slice a ls.length c] ∧ ReadsG w a ls ∧ ls.length ≤ maxLen := by
  rcases DataW.trod_slice Tryd.underlying22 h with ⟨rfl, _⟩ | ⟨a, len, cap, elems, rest, n, _, rfl, _, _, hl, hm, hlen, hel, _, _⟩
  · exact ⟨none, 0, [], rfl, ReadsG.nil _ _, by simp⟩
  rw [Tryd.cellsGr] at hel
  have each : ∀ i, i < len → ∃ t : GrantV, w.cells? base (a.add (i * 3)) 3 = some t.cells := by
    intro i hi
    have hy := hel i hi
    rw [List.getElem?_eq_getElem (by omega : i < elems.length), Option.bind_eq_some_iff] at hy
    obtain ⟨cs', hcs, hy'⟩ := hy
    obtain ⟨t, e⟩ := trod_grant hy'
    exact ⟨t, by rw [hcs, e]⟩
  obtain ⟨f, hf⟩ : ∃ f : Nat → GrantV, ∀ i, i < len → w.cells? base (a.add (i * 3)) 3 = some (f i).cells := by
    refine ⟨fun i => if h : i < len then (each i h).choose else zeroG, fun i hi => ?_⟩
    simp only [dif_pos hi]
    exact (each i hi).choose_spec
  refine ⟨some a, cap, (List.range len).map f, by simp, ?_, by simp; omega⟩
  intro hne
  have hpos := List.length_pos_iff.2 hne
  simp only [List.length_map, List.length_range] at hpos ⊢
  obtain ⟨b, off, spot⟩ := a
  have c0 := (World.cells?_some (hf 0 hpos)).2.2 0 (by decide)
  have hspot : spot = none := by simpa [Addr.add] using World.cell?_spot c0
  subst hspot
  refine ⟨b, off, rfl, fun k hk => ?_⟩
  have e : ((List.range len).map f).getD k zeroG = f k := by simp [List.getD, hk]
  rw [e]
  have hc := (World.cells?_some (hf k hk)).2.2
  have d0 := hc 0 (by decide)
  have d1 := hc 1 (by decide)
  have d2 := hc 2 (by decide)
  simp only [Addr_add, GrantV.cells] at d0 d1 d2
  exact ⟨by simpa using d0, by simpa using d1, by simpa using d2⟩

/-- Locks as they came in. -/
structure InLocks (w : World) (l : LocksA) : Prop where
  given : ReadsG w l.aG l.given
  waits : ReadsG w l.aW l.waits
  len : l.short maxLen

set_option maxRecDepth 100000 in
theorem trod_locks {fuel : Nat} {cs : List Value} {x : DataW H × List MemPlace} (h : DataW.trod enc Tryd.prog w base spare held fuel 24 cs = some x) :
    ∃ l : LocksA, cs = [.slice l.aG l.given.length l.cG, .slice l.aW l.waits.length l.cW] ∧ InLocks w l := by
  obtain ⟨xs, n, _, _, hlen, hxl, hf⟩ := DataW.trod_struct Tryd.underlying24 h
  rw [Tryd.cellsLk] at hlen
  match cs, hlen with
  | [v0, v1], _ =>
    have f0 := hf 0 _ rfl
    have f1 := hf 1 _ rfl
    obtain ⟨y0, hx0⟩ := some_atG xs 0 (by rw [hxl]; decide)
    obtain ⟨y1, hx1⟩ := some_atG xs 1 (by rw [hxl]; decide)
    rw [hx0] at f0
    rw [hx1] at f1
    simp only [List.getElem_toArray, List.getElem_cons_zero, List.getElem_cons_succ, Tryd.cellsGrs, List.drop, List.take] at f0 f1
    obtain ⟨aG, cG, G, e0, hG, lG⟩ := trod_grants f0
    obtain ⟨aW, cW, V, e1, hV, lV⟩ := trod_grants f1
    simp only [List.cons.injEq, and_true] at e0 e1
    subst e0 e1
    exact ⟨⟨G, V, aG, cG, aW, cW⟩, rfl, hG, hV, lG, lV⟩

set_option maxRecDepth 100000 in
theorem open_locks {b0 : Nat} {v : Value} {d : DataW H} {ps : List MemPlace} (hval : Value.okWide Tryd.prog w .any b0 24 v) (h : DataW.Trod enc Tryd.prog w base spare held 24 v d ps) :
    ∃ l : LocksA, v = .agg #[.slice l.aG l.given.length l.cG, .slice l.aW l.waits.length l.cW] ∧ InLocks w l := by
  obtain ⟨cs, rfl, hcs⟩ := okWide_struct Tryd.underlying24 hval
  obtain ⟨fuel, hf⟩ := h
  have e : (Value.agg cs).cells.toList = cs.toList := rfl
  rw [e] at hf
  obtain ⟨l, hc, hin⟩ := trod_locks hf
  refine ⟨l, ?_, hin⟩
  congr 1
  apply Array.toList_inj.1
  rw [hc]
end
end Go.Proofs.YtekljhabjkmhpabDoor

/- The walk of laws.FnExactStuck. -/
namespace Go.Proofs.YtekljhabjkmhpabDoor
open Go.RowKit

set_option maxHeartbeats 1000000 in
set_option maxRecDepth 100000 in
theorem lawStuck_walk (l : LocksA) (w : World) (hT : TabGo w) (hTB : TabBoth w) (hin : InLocks w l) :
    Calls Tryd.prog 5 #[.agg #[.slice l.aG l.given.length l.cG, .slice l.aW l.waits.length l.cW]] w fun e w' => e = .returned (.bool true) ∧ Below w.heap.size w w' := by
  obtain ⟨G, V, aG, cG, aW, cW⟩ := l
  obtain ⟨hG, hV, hlen⟩ := hin
  have hsz : LocksA.short ⟨G, V, aG, cG, aW, cW⟩ 9223372036854775807 := by
    have h1 := hlen.1
    have h2 := hlen.2
    simp only [maxLen] at h1 h2
    exact ⟨by omega, by omega⟩
  simp only at *
  obtain ⟨W, hW, b0, hbW, hsW⟩ := boxes1 w [.slice aG G.length cG, .slice aW V.length cW] 24
  go_enter Tryd.func5, Tryd.ntmps5
  go_wp2_with fail
  rw [hW.out]
  refine (szLocks_any ⟨G, V, aG, cG, aW, cW⟩ W hsz).mono ?_
  rintro e w1 ⟨left, rfl, hcase, hb1⟩
  have B1 : Below w.heap.size w w1 := hbW.trans (hb1.mono hbW.size)
  have b1 := b0.below hb1 b0.lt
  rcases hcase with hs | ⟨hs, hsh⟩
  · go_wp2
    go_ret
    exact ⟨rfl, B1⟩
  have hsh2 : LocksA.short ⟨G, V, aG, cG, aW, cW⟩ 1099511627776 := ⟨Nat.le_trans hsh.1 (by decide), Nat.le_trans hsh.2 (by decide)⟩
  have hlG : G.length ≤ 1099511627776 := hsh2.1
  have hlV : V.length ≤ 1099511627776 := hsh2.2
  clear hsh hlen hsz
  have hlt : w.heap.size < w1.heap.size := b1.lt
  have hkeep : ∀ w', Below (w.heap.size + 1) w1 w' → w'.cell? ⟨w.heap.size, 0, none⟩ = some (.slice aG G.length cG) ∧ w'.cell? ⟨w.heap.size, 1, none⟩ = some (.slice aW V.length cW) :=
    fun w' hh => ⟨(b1.below hh (by omega)).cell 0 _ rfl, (b1.below hh (by omega)).cell 1 _ rfl⟩
  obtain ⟨x0, x1⟩ := hkeep w1 (Below.refl _ _)
  have hG1 := hG.below B1
  have hV1 := hV.below B1
  go_wp2_with fail
  refine (toLocks_own ⟨G, V, aG, cG, aW, cW⟩ w1 hG1 hV1 hsh2).mono ?_
  rintro e w2 ⟨p1, d1, p2, d2, rfl, ho2, hb2⟩
  have B2 : Below w.heap.size w w2 := B1.trans (hb2.mono B1.size)
  go_wp2_with fail
  refine (specStuck_any ⟨G, V, p1, d1, p2, d2⟩ w2 ho2.reads hsh2).mono ?_
  rintro e w3 ⟨s1, rfl, hs1, hb3⟩
  have K3 : Below w1.heap.size w1 w3 := hb2.trans (hb3.mono hb2.size)
  obtain ⟨y0, y1⟩ := hkeep w3 (K3.mono (by omega))
  go_wp2_with fail
  refine (toLocks_own ⟨G, V, aG, cG, aW, cW⟩ w3 (hG1.below K3) (hV1.below K3) hsh2).mono ?_
  rintro e w4 ⟨q1, e1, q2, e2, rfl, ho4, hb4⟩
  have K4 : Below w1.heap.size w1 w4 := K3.trans (hb4.mono K3.size)
  go_wp2_with fail
  obtain ⟨W5, hW5, bX, hbW5, hsW5⟩ := boxes1 w4 [.slice q1 G.length e1, .slice q2 V.length e2] 28
  rw [hW5.out]
  clear hW5
  have hTW : TabGo W5 := hT.keep (B1.trans ((K4.trans (hbW5.mono K4.size)).mono B1.size))
  have hTBW : TabBoth W5 := hTB.keep (B1.trans ((K4.trans (hbW5.mono K4.size)).mono B1.size))
  refine (implStuck_any ⟨G, V, q1, e1, q2, e2⟩ W5 hTW hTBW (ho4.reads.below hbW5) hsh2).mono ?_
  rintro e w6 ⟨s2, rfl, hs2, hb6⟩
  obtain rfl := stuckAns_one hs1.out hs2.out
  have K6 : Below w4.heap.size w4 w6 := hbW5.trans (hb6.mono hbW5.size)
  have K16 : Below w1.heap.size w1 w6 := K4.trans (K6.mono K4.size)
  have bX6 := bX.below hb6 bX.lt
  have hX6 := bX6.lt
  have hkX : ∀ w', Below (w4.heap.size + 1) w6 w' → w'.cell? ⟨w4.heap.size, 0, none⟩ = some (.slice q1 G.length e1) ∧ w'.cell? ⟨w4.heap.size, 1, none⟩ = some (.slice q2 V.length e2) :=
    fun w' hh => ⟨(bX6.below hh (by omega)).cell 0 _ rfl, (bX6.below hh (by omega)).cell 1 _ rfl⟩
  have hkA : ∀ w', Below w6.heap.size w6 w' → w'.cell? ⟨w.heap.size, 0, none⟩ = some (.slice aG G.length cG) ∧ w'.cell? ⟨w.heap.size, 1, none⟩ = some (.slice aW V.length cW) :=
    fun w' hh => hkeep w' ((K16.mono (by omega)).trans (hh.mono (by have := K16.size; omega)))
  have hk : ∀ w', Below w6.heap.size w6 w' → (w'.cell? ⟨w.heap.size, 0, none⟩ = some (.slice aG G.length cG) ∧ w'.cell? ⟨w.heap.size, 1, none⟩ = some (.slice aW V.length cW)) ∧ (w'.cell? ⟨w4.heap.size, 0, none⟩ = some (.slice q1 G.length e1) ∧ w'.cell? ⟨w4.heap.size, 1, none⟩ = some (.slice q2 V.length e2)) :=
    fun w' hh => ⟨hkA w' hh, hkX w' (hh.mono (by omega))⟩
  have hG6 := hG1.below K16
  have hV6 := hV1.below K16
  have ho46 := ho4.below K6
  clear hkeep hkX hkA
  simp only at *
  clear hs2
  go_wp2_with fail
  have hh := hk w6 (Below.refl _ _)
  go_region_held3 (fun w' => (w'.cell? ⟨w.heap.size, 0, none⟩ = some (.slice aG G.length cG) ∧ w'.cell? ⟨w.heap.size, 1, none⟩ = some (.slice aW V.length cW)) ∧ (w'.cell? ⟨w4.heap.size, 0, none⟩ = some (.slice q1 G.length e1) ∧ w'.cell? ⟨w4.heap.size, 1, none⟩ = some (.slice q2 V.length e2)))
    (first | exact hk _ hw8 | exact hk _ hw7 | go_keep)
    (first
    | (go_at_call 8; refine (toLocks_own ⟨G, V, aG, cG, aW, cW⟩ _ (hG6.below (Below.refl _ _).drew) (hV6.below (Below.refl _ _).drew) hsh2).mono ?_; rintro e w7 ⟨z1, f1, z2, f2, rfl, ho7, hb7⟩; have hw7 : Below w6.heap.size w6 w7 := (Below.refl _ _).drew.trans hb7)
    | (go_at_call 10; refine (eqLocks_same G V q1 q2 z1 z2 e1 e2 f1 f2 w7 (ho46.below hw7).given.reads (ho46.below hw7).waits.reads ho7.given.reads ho7.waits.reads hlG hlV).mono ?_; rintro e w8 ⟨rfl, hb8⟩; have hw8 : Below w6.heap.size w6 w8 := hw7.trans (hb8.mono hw7.size)))
  go_wp2
  go_ret
  exact ⟨rfl, B1.trans ((K16.trans (hw8.mono K16.size)).mono B1.size)⟩
end Go.Proofs.YtekljhabjkmhpabDoor

/- What a row's condition on its listed variables gives: each of them reads as its datum. -/
namespace Go.Proofs.YtekljhabjkmhpabDoor

theorem laidVars_mem {P : Program} {w : World} : ∀ (l : List (String × DataW Unit)) (ps : List MemPlace), DataW.LaidVars P w l ps → ∀ n d, (n, d) ∈ l →
    ∃ g t cs fuel p, P.globalNamed n = some g ∧ (P.globals[g]?).map (·.type) = some t ∧ w.var? P n = some cs ∧ DataW.trod (fun _ => ()) P w 0 (fun _ => true) false fuel t cs.toList = some (d, p) := by
  intro l
  induction l with
  | nil => intro _ _ n d hm; cases hm
  | cons x r ih =>
    intro ps h n d hm
    obtain ⟨n', d'⟩ := x
    obtain ⟨g, t, cs, fuel, p, q, h1, h2, h3, h4, h5, _⟩ := h
    rcases List.mem_cons.1 hm with e | hm'
    · cases e
      exact ⟨g, t, cs, fuel, p, h1, h2, h3, h4⟩
    · exact ih q h5 n d hm'

theorem var_heap {P : Program} {w : World} {name : String} {g : Nat} {cs : Array Value} (hg : P.globalNamed name = some g) (h : w.var? P name = some cs) : ∃ t f, w.heap[g]? = some (.cells cs t f) := by
  unfold World.var? at h
  rw [hg] at h
  simp only [Option.bind_some] at h
  split at h
  · rename_i cs' t f hh
    simp only [Option.some.injEq] at h
    exact ⟨t, f, by rw [hh, h]⟩
  · cases h

/-- A table of integers that is listed lies in its block. -/
theorem tab_heap {P : Program} {w : World} {laid : List (String × DataW Unit)} {name : String} {k : IntKind} {zs : List Int} {g : Nat} {t e : TypeId} {n : Nat} (hl : laidMet P laid w) (hm : (name, Lib.tabData k zs) ∈ laid)
    (hg : P.globalNamed name = some g) (hty : (P.globals[g]?).map (·.type) = some t) (ht : P.underlying t = some (.array n e)) (he : P.underlying e = some (.int k)) (hce : P.cellsOf e = 1) (hct : P.cellsOf t = n) :
    ∃ t' f, w.heap[g]? = some (.cells (zs.map fun z => Value.int k z).toArray t' f) := by
  obtain ⟨ps, hv, _⟩ := hl
  obtain ⟨g', t', cs, fuel, p, h1, h2, h3, h4⟩ := laidVars_mem laid ps hv name _ hm
  obtain rfl := Option.some.inj (hg.symm.trans h1)
  obtain rfl := Option.some.inj (hty.symm.trans h2)
  have hc := Lib.cells_of_tab ht he hce hct h4
  obtain ⟨t', f, hh⟩ := var_heap hg h3
  refine ⟨t', f, ?_⟩
  rw [hh]
  congr 2
  apply Array.toList_inj.1
  rw [hc]

theorem tabIs_of {P : Program} {w : World} {name : String} {g : Nat} {k : IntKind} {zs : List Int} {t : TypeId} {f : Nat × Nat} (hg : P.globalNamed name = some g) (h : w.heap[g]? = some (.cells (zs.map fun z => Value.int k z).toArray t f)) : Lib.TabIs P w name k zs := by
  unfold Lib.TabIs World.var?
  rw [hg]
  simp [h]
end Go.Proofs.YtekljhabjkmhpabDoor

/- What a row's condition on the two tables of modes gives; named variables that a call leaves as they were. -/
namespace Go.Proofs.YtekljhabjkmhpabDoor
open Go.ChangeShapes Go.WideShapes Go.RowKit

theorem laidMet_overM {P : Program} {w0 : World} {laid : List (String × DataW Unit)} (args : Array Value) (hf : w0.layFits P laid [] = true) (hi : w0.layIfaces P laid (w0.layVars P laid) = true) :
    laidMet P laid ((w0.layVars P laid).forCall (fun _ _ => 0) ⟨#[], args, []⟩).memory := by
  have e1 : (laid.filter fun x => (laid.map (·.1)).contains x.1) = laid := List.filter_eq_self.2 fun x hx => List.contains_iff_mem.2 (List.mem_map.2 ⟨x, hx, rfl⟩)
  have e2 : (laid.filter fun x => !(laid.map (·.1)).contains x.1) = [] := List.filter_eq_nil_iff.2 fun x hx => by rw [List.contains_iff_mem.2 (List.mem_map.2 ⟨x, hx, rfl⟩)]; simp
  have h : laidMet P laid (w0.layVars P laid) := laidMet_layVars (w0 := w0) (laid.map (·.1)) [] (by rw [e1]) (by rw [e1]; exact hf) (by rw [e1]; exact hi) (by rw [e2]; exact LaidIn.none)
  exact h.of_heap (by simp [World.memory, World.forCall, Input.heap])

theorem trodVars_keep {H : Type} {enc : TypeId × Value → H} {P : Program} {W W' : World} (hl : laidOutB P = true) (hb : Below W.heap.size W W') : ∀ {ns : List String} {gs : List (DataW H)} {q : List MemPlace}, DataW.TrodVars enc P W (fun _ => true) ns gs q →
    (∀ n ∈ ns, ∃ g t, P.globalNamed n = some g ∧ (P.globals[g]?).map (·.type) = some t ∧ P.readableRec t = true ∧ t < P.types.size) → DataW.TrodVars enc P W' (fun b => decide (b < W.heap.size)) ns gs q := by
  intro ns
  induction ns with
  | nil =>
    intro gs q h _
    obtain ⟨rfl, rfl⟩ := trodVars_none h
    exact rfl
  | cons n r ih =>
    intro gs q h hn
    cases gs with
    | nil => simp [DataW.TrodVars] at h
    | cons d ds =>
      have hlt := DataW.TrodVars.lt h
      obtain ⟨g, t, cs, fuel, p, q', h1, h2, h3, h4, hs, rfl⟩ := h
      obtain ⟨g', t', k1, k2, k3, k4⟩ := hn n List.mem_cons_self
      obtain rfl := Option.some.inj (h1.symm.trans k1)
      obtain rfl := Option.some.inj (h2.symm.trans k2)
      obtain ⟨ty, f, hh⟩ := var_heap h1 h3
      have hg : g < W.heap.size := (Array.getElem?_eq_some_iff.1 hh).1
      have hv : W'.var? P n = some cs := by
        unfold World.var?
        rw [h1]
        simp only [Option.bind_some]
        rw [hb.block g hg, hh]
      have ht : DataW.Trod enc P W 0 (fun _ => true) true t (.agg cs) d p := ⟨fuel, h4⟩
      obtain ⟨fuel', h4'⟩ := Below.trod hl k3 k4 ht hb (fun x hx => hlt x (by simp [hx]))
      exact ⟨g, t, cs, fuel', p, q', h1, h2, hv, h4', ih hs (fun m hm => hn m (List.mem_cons_of_mem _ hm)), rfl⟩

theorem bools_of {fuel : Nat} {w : World} {cs : List Value} {bs : List Bool} {p : List MemPlace} (h : DataW.trod (fun _ => ()) Tryd.prog w 0 (fun _ => true) false fuel 83 cs = some (.agg (bs.map fun b => .lit (.bool b)), p)) : cs = bs.map Value.bool := by
  obtain ⟨xs, m, _, hx, hlen, hn, hel⟩ := DataW.trod_array Tryd.underlying83 h
  have c4 : Tryd.prog.cellsOf 83 = 4 := by kernel_rfl
  have c1 : Tryd.prog.cellsOf 4 = 1 := by kernel_rfl
  rw [c4] at hlen
  simp only [Prod.mk.injEq, DataW.agg.injEq] at hx
  have hb : bs.length = 4 := by
    have := congrArg List.length hx.1
    simp at this
    omega
  apply List.ext_getElem?
  intro i
  by_cases hi : i < 4
  · have hxi : i < xs.length := by omega
    have e := hel i hi
    rw [c1, List.getElem?_eq_getElem hxi] at e
    obtain ⟨b, e1, e2⟩ := DataW.trod_bool Tryd.underlying4 e
    have h1 : cs[i]? = some (.bool b) := by
      have := congrArg (·[0]?) e1
      simpa [List.getElem?_take, List.getElem?_drop] using this
    have h2 : (xs.map (·.1))[i]? = some (DataW.lit (.bool b)) := by simp [List.getElem?_eq_getElem hxi, e2]
    rw [← hx.1] at h2
    simp only [List.getElem?_map, Option.map_eq_some_iff, DataW.lit.injEq, Lit.bool.injEq] at h2
    obtain ⟨b', hb', rfl⟩ := h2
    simp [h1, hb']
  · rw [List.getElem?_eq_none (by omega), List.getElem?_eq_none (by simp; omega)]

theorem four_drop {α : Type} (cs : List α) (h : cs.length = 16) : cs = (cs.drop (0 * 4)).take 4 ++ ((cs.drop (1 * 4)).take 4 ++ ((cs.drop (2 * 4)).take 4 ++ (cs.drop (3 * 4)).take 4)) := by
  match cs, h with
  | [_, _, _, _, _, _, _, _, _, _, _, _, _, _, _, _], _ => rfl

theorem gGo : Tryd.prog.globalNamed "loop.example/g00181/impl.goTogether" = some 1 := by kernel_rfl
theorem gBoth : Tryd.prog.globalNamed "loop.example/g00181/impl.bothModes" = some 0 := by kernel_rfl
theorem tGo : (Tryd.prog.globals[1]?).map (·.type) = some 84 := by kernel_rfl
theorem tBoth : (Tryd.prog.globals[0]?).map (·.type) = some 82 := by kernel_rfl

theorem tabGo_of {W : World} {laid : List (String × DataW Unit)} (hp : (laid.all fun x => x.2.handleName?.isNone) = true) (hl : laidMetH Tryd.prog laid W) (hm : ("loop.example/g00181/impl.goTogether", Rows.laid_loop_example_g00181_impl_goTogether) ∈ laid) : TabGo W := by
  rw [MakeChecks.laidMetH_plain _ _ _ hp] at hl
  obtain ⟨ps, hv, _⟩ := hl
  obtain ⟨g, t, cs, fuel, p, h1, h2, h3, h4⟩ := laidVars_mem laid ps hv _ _ hm
  obtain rfl := Option.some.inj (gGo.symm.trans h1)
  obtain rfl := Option.some.inj (tGo.symm.trans h2)
  obtain ⟨t', f, hh⟩ := var_heap h1 h3
  obtain ⟨xs, m, _, hx, hlen, hn, hel⟩ := DataW.trod_array Tryd.underlying84 h4
  have c4 : Tryd.prog.cellsOf 83 = 4 := by kernel_rfl
  have c16 : Tryd.prog.cellsOf 84 = 16 := by kernel_rfl
  rw [c4] at hel
  rw [c16] at hlen
  match xs, hn with
  | [x0, x1, x2, x3], _ =>
    simp only [Rows.laid_loop_example_g00181_impl_goTogether, Prod.mk.injEq, DataW.agg.injEq, List.map_cons, List.map_nil, List.cons.injEq, and_true] at hx
    obtain ⟨⟨e0, e1, e2, e3⟩, _⟩ := hx
    have r0 := bools_of (bs := [true, true, true, false]) (p := x0.2) ((hel 0 (by decide)).trans (by rw [List.getElem?_cons_zero]; congr 1; exact Prod.ext e0.symm rfl))
    have r1 := bools_of (bs := [true, true, false, false]) (p := x1.2) ((hel 1 (by decide)).trans (by simp only [List.getElem?_cons_zero, List.getElem?_cons_succ]; congr 1; exact Prod.ext e1.symm rfl))
    have r2 := bools_of (bs := [true, false, true, false]) (p := x2.2) ((hel 2 (by decide)).trans (by simp only [List.getElem?_cons_zero, List.getElem?_cons_succ]; congr 1; exact Prod.ext e2.symm rfl))
    have r3 := bools_of (bs := [false, false, false, false]) (p := x3.2) ((hel 3 (by decide)).trans (by simp only [List.getElem?_cons_zero, List.getElem?_cons_succ]; congr 1; exact Prod.ext e3.symm rfl))
    refine ⟨t', f, ?_⟩
    rw [hh]
    congr 2
    apply Array.toList_inj.1
    rw [four_drop cs.toList hlen, r0, r1, r2, r3]
    rfl

theorem tabBoth_of {W : World} {laid : List (String × DataW Unit)} (hp : (laid.all fun x => x.2.handleName?.isNone) = true) (hl : laidMetH Tryd.prog laid W) (hm : ("loop.example/g00181/impl.bothModes", Rows.laid_loop_example_g00181_impl_bothModes) ∈ laid) : TabBoth W := by
  rw [MakeChecks.laidMetH_plain _ _ _ hp] at hl
  obtain ⟨ps, hv, _⟩ := hl
  obtain ⟨g, t, cs, fuel, p, h1, h2, h3, h4⟩ := laidVars_mem laid ps hv _ _ hm
  obtain rfl := Option.some.inj (gBoth.symm.trans h1)
  obtain rfl := Option.some.inj (tBoth.symm.trans h2)
  obtain ⟨t', f, hh⟩ := var_heap h1 h3
  obtain ⟨xs, m, _, hx, hlen, hn, hel⟩ := DataW.trod_array Tryd.underlying82 h4
  have c1 : Tryd.prog.cellsOf 3 = 1 := by kernel_rfl
  have c4 : Tryd.prog.cellsOf 81 = 4 := by kernel_rfl
  have c16 : Tryd.prog.cellsOf 82 = 16 := by kernel_rfl
  rw [c4] at hel
  rw [c16] at hlen
  match xs, hn with
  | [x0, x1, x2, x3], _ =>
    simp only [Rows.laid_loop_example_g00181_impl_bothModes, Prod.mk.injEq, DataW.agg.injEq, List.map_cons, List.map_nil, List.cons.injEq, and_true] at hx
    obtain ⟨⟨e0, e1, e2, e3⟩, _⟩ := hx
    have r0 := Lib.cells_of_tab (zs := [1, 2, 3, 4]) (p := x0.2) Tryd.underlying81 Tryd.underlying3 c1 c4 ((hel 0 (by decide)).trans (by rw [List.getElem?_cons_zero]; congr 1; exact Prod.ext e0.symm rfl))
    have r1 := Lib.cells_of_tab (zs := [2, 2, 4, 4]) (p := x1.2) Tryd.underlying81 Tryd.underlying3 c1 c4 ((hel 1 (by decide)).trans (by simp only [List.getElem?_cons_zero, List.getElem?_cons_succ]; congr 1; exact Prod.ext e1.symm rfl))
    have r2 := Lib.cells_of_tab (zs := [3, 4, 3, 4]) (p := x2.2) Tryd.underlying81 Tryd.underlying3 c1 c4 ((hel 2 (by decide)).trans (by simp only [List.getElem?_cons_zero, List.getElem?_cons_succ]; congr 1; exact Prod.ext e2.symm rfl))
    have r3 := Lib.cells_of_tab (zs := [4, 4, 4, 4]) (p := x3.2) Tryd.underlying81 Tryd.underlying3 c1 c4 ((hel 3 (by decide)).trans (by simp only [List.getElem?_cons_zero, List.getElem?_cons_succ]; congr 1; exact Prod.ext e3.symm rfl))
    refine ⟨t', f, ?_⟩
    rw [hh]
    congr 2
    apply Array.toList_inj.1
    rw [four_drop cs.toList hlen, r0, r1, r2, r3]
    rfl
end Go.Proofs.YtekljhabjkmhpabDoor
