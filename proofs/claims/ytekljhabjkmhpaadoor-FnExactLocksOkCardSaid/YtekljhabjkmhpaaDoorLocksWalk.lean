/- The walks of laws.toLocks, szGrantS, szLocks, eqLocks; locks that came in. -/
import Derived.Test.YtekljhabjkmhpaaDoorLocks
import Derived.ProofKit
import Derived.OpenShut
import Derived.ChangeOld
namespace Go.Proofs.YtekljhabjkmhpaaDoor
open Go.RowKit

set_option maxHeartbeats 400000 in
set_option maxRecDepth 100000 in
theorem toLocks_own (l : LocksA) (w : World) (hG : ReadsG w l.aG l.given) (hV : ReadsG w l.aW l.waits) (hl : l.short 1099511627776) :
    Calls Tryd.prog 28 #[.agg #[.slice l.aG l.given.length l.cG, .slice l.aW l.waits.length l.cW]] w fun e w' => ∃ a1 c1 a2 c2, e = .returned (.agg #[.slice a1 l.given.length c1, .slice a2 l.waits.length c2]) ∧
      LocksA.own w' w.heap.size w'.heap.size ⟨l.given, l.waits, a1, c1, a2, c2⟩ ∧ Below w.heap.size w w' := by
  obtain ⟨G, V, aG, cG, aW, cW⟩ := l
  obtain ⟨hlG, hlV⟩ := hl
  simp only at *
  go_enter Tryd.func28, Tryd.ntmps28
  go_wp2_with fail
  obtain ⟨W, hW, b0, b1, b2, hbW, hsW⟩ := boxes3 w [.slice aG G.length cG, .slice aW V.length cW] [.slice none 0 0, .slice none 0 0] [.slice none 0 0, .slice none 0 0] 47 30 30
  rw [hW.out]
  clear hW
  refine (toGrantS_any aG cG G W (hG.below hbW) hlG).mono ?_
  rintro e w1 ⟨a1, c1, rfl, ho1, hb1⟩
  have b0' := b0.below hb1 b0.lt
  have b1' := b1.below hb1 b1.lt
  have b2' := b2.below hb1 b2.lt
  have h02 := b0'.cell 1 _ rfl
  have h21 := b2'.cell 0 _ rfl
  have f21 := b2'.frozen 0
  go_wp2_with fail
  obtain ⟨W2, hW2, b2s, hw2, hs2⟩ := box_set b2' 0 (.slice a1 G.length c1)
  rw [hW2.out]
  clear hW2
  have hWb : Below w.heap.size w W2 := (hbW.trans (hb1.mono (by omega))).trans (hw2.below (by omega) (by have := hb1.size; omega))
  have ho1' : OwnG W2 W.heap.size w1.heap.size a1 c1 G := ho1.within hw2 (.inr (by omega))
  refine (toGrantS_any aW cW V W2 (hV.below hWb) hlV).mono ?_
  rintro e w3 ⟨a3, c3, rfl, ho3, hb3⟩
  have ho13 := ho1'.below hb3
  have b23 := b2s.below hb3 b2s.lt
  have b13 := (b1'.within hw2 (by omega)).below hb3 (by have := (b1'.within hw2 (by omega)).lt; exact this)
  simp only [List.set] at b23
  have g22 := b23.cell 1 _ rfl
  have e22 := b23.frozen 1
  have bS := b23.set 1 (.slice a3 V.length c3)
  have bT := b13.other (C := w.heap.size + 1 + 1) (i := 1) (v := .slice a3 V.length c3) (by omega)
  simp only [List.set] at bS
  have s0 := bS.cell 0 _ rfl
  have s1 := bS.cell 1 _ rfl
  have t0 := bT.cell 0 _ rfl
  have t1 := bT.cell 1 _ rfl
  have u0 := bT.frozen 0
  have u1 := bT.frozen 1
  have bF := (bT.set 0 (.slice a1 G.length c1)).set 1 (.slice a3 V.length c3)
  simp only [List.set] at bF
  have hwF : Within (w.heap.size + 1) (w.heap.size + 3) w3 _ := ((within_set w3 (w.heap.size + 1 + 1) 1 (.slice a3 V.length c3) (by omega)).trans (within_set _ (w.heap.size + 1) 0 (.slice a1 G.length c1) (by omega))).trans (within_set _ (w.heap.size + 1) 1 (.slice a3 V.length c3) (by omega))
  have HF : Hid (_ ∧ _ ∧ _) := ⟨bF.cell 0 _ rfl, bF.cell 1 _ rfl, hwF⟩
  clear bF hwF
  go_wp2
  obtain ⟨f0, f1, hwF⟩ := HF.out
  generalize ((w3.setCell ⟨w.heap.size + 1 + 1, 1, none⟩ (.slice a3 V.length c3)).setCell ⟨w.heap.size + 1, 0, none⟩ (.slice a1 G.length c1)).setCell ⟨w.heap.size + 1, 1, none⟩ (.slice a3 V.length c3) = WF at *
  have hs3 := hb3.size
  have hs1 := hb1.size
  have hsF := hwF.size
  refine bodyPost_ret (v := .agg #[.slice a1 G.length c1, .slice a3 V.length c3]) (by simp [results, Tryd.results28, go_sem, f0, f1]) rfl ⟨a1, c1, a3, c3, rfl, ⟨(ho13.within hwF (.inr (by omega))).widen (by omega) (by omega) (Nat.le_refl _), (ho3.within hwF (.inr (by omega))).widen (by omega) (by omega) (Nat.le_refl _), fun j hj hj' => by have := (ho1.lt j hj).2; have := (ho3.lt j hj').1; omega⟩, (hWb.trans (hb3.mono (by omega))).trans (hwF.below (by omega) (by omega))⟩

def szG (n : Nat) (left : Int) : Int := if left - n < 0 then -1 else left - n

set_option maxHeartbeats 400000 in
theorem szGrantS_any (a : Option Addr) (c n : Nat) (left : Int) (w : World) (hn : n ≤ 9223372036854775807) (h0 : 0 ≤ left ∧ left ≤ 1048576) :
    Calls Tryd.prog 54 #[.slice a n c, .int .i64 left] w fun e w' => e = .returned (.int .i64 (szG n left)) ∧ w' = w := by
  by_cases h : left - n < 0
  · have HS : Hid (szG n left = -1) := by unfold szG; rw [Hid, if_pos h]
    go_enter Tryd.func54, Tryd.ntmps54
    go_wp2
    go_ret
    exact ⟨ret_int HS.out.symm, rfl⟩
  · have HS : Hid (szG n left = left - n) := by unfold szG; rw [Hid, if_neg h]
    go_enter Tryd.func54, Tryd.ntmps54
    go_wp2
    go_ret
    exact ⟨ret_int HS.out.symm, rfl⟩

set_option maxHeartbeats 400000 in
set_option maxRecDepth 100000 in
/-- Too great, and less than 0 is told; or both lists are short. -/
theorem szLocks_any (l : LocksA) (w : World) (hn : l.short 9223372036854775807) :
    Calls Tryd.prog 26 #[.agg #[.slice l.aG l.given.length l.cG, .slice l.aW l.waits.length l.cW], .int .i64 1048576] w fun e w' => ∃ left : Int, e = .returned (.int .i64 left) ∧ (left < 0 ∨ (0 ≤ left ∧ l.short 1048576)) ∧ Below w.heap.size w w' := by
  obtain ⟨G, V, aG, cG, aW, cW⟩ := l
  obtain ⟨hlG, hlV⟩ := hn
  simp only [LocksA.short] at *
  obtain ⟨W, hW, b0, hbW, hsW⟩ := boxes1 w [.slice aG G.length cG, .slice aW V.length cW] 47
  have c1 := b0.cell 1 _ rfl
  by_cases h : (1048576 : Int) - G.length < 0
  · have HZ : Hid (szG G.length 1048576 = -1) := by unfold szG; rw [Hid, if_pos h]
    go_enter Tryd.func26, Tryd.ntmps26
    go_wp2_with fail
    rw [hW.out]
    refine (szGrantS_any aG cG G.length 1048576 W hlG (by omega)).mono ?_
    rintro e w' ⟨rfl, rfl⟩
    rw [HZ.out]
    go_wp2
    go_ret
    exact ⟨-1, rfl, .inl (by omega), hbW⟩
  · have HZ : Hid (szG G.length 1048576 = 1048576 - G.length) := by unfold szG; rw [Hid, if_neg h]
    by_cases h2 : (1048576 : Int) - G.length - V.length < 0
    · have HZ2 : Hid (szG V.length (1048576 - G.length) = -1) := by unfold szG; rw [Hid, if_pos h2]
      go_enter Tryd.func26, Tryd.ntmps26
      go_wp2_with fail
      rw [hW.out]
      refine (szGrantS_any aG cG G.length 1048576 W hlG (by omega)).mono ?_
      rintro e w' ⟨rfl, rfl⟩
      rw [HZ.out]
      go_wp2_with fail
      refine (szGrantS_any aW cW V.length (1048576 - G.length) _ hlV (by omega)).mono ?_
      rintro e w' ⟨rfl, rfl⟩
      rw [HZ2.out]
      go_wp2
      go_ret
      exact ⟨-1, rfl, .inl (by omega), hbW⟩
    · have HZ2 : Hid (szG V.length (1048576 - G.length) = 1048576 - G.length - V.length) := by unfold szG; rw [Hid, if_neg h2]
      have HO : Hid (0 ≤ (1048576 : Int) - G.length - V.length ∧ G.length ≤ 1048576 ∧ V.length ≤ 1048576) := by constructor <;> omega
      go_enter Tryd.func26, Tryd.ntmps26
      go_wp2_with fail
      rw [hW.out]
      refine (szGrantS_any aG cG G.length 1048576 W hlG (by omega)).mono ?_
      rintro e w' ⟨rfl, rfl⟩
      rw [HZ.out]
      go_wp2_with fail
      refine (szGrantS_any aW cW V.length (1048576 - G.length) _ hlV (by omega)).mono ?_
      rintro e w' ⟨rfl, rfl⟩
      rw [HZ2.out]
      go_wp2
      go_ret
      exact ⟨_, rfl, .inr ⟨HO.out.1, HO.out.2⟩, hbW⟩

set_option maxHeartbeats 400000 in
set_option maxRecDepth 100000 in
theorem eqLocks_same (G V : List GrantV) (a1 a2 a3 a4 : Option Addr) (c1 c2 c3 c4 : Nat) (w : World) (h1 : ReadsG w a1 G) (h2 : ReadsG w a2 V) (h3 : ReadsG w a3 G) (h4 : ReadsG w a4 V) (hlG : G.length ≤ 1099511627776) (hlV : V.length ≤ 1099511627776) :
    Calls Tryd.prog 29 #[.agg #[.slice a1 G.length c1, .slice a2 V.length c2], .agg #[.slice a3 G.length c3, .slice a4 V.length c4]] w fun e w' => e = .returned (.bool true) ∧ Below w.heap.size w w' := by
  obtain ⟨W, hW, b0, b1, hbW, hsW⟩ := boxes2 w [.slice a1 G.length c1, .slice a2 V.length c2] [.slice a3 G.length c3, .slice a4 V.length c4] 30 30
  go_enter Tryd.func29, Tryd.ntmps29
  go_wp2_with fail
  rw [hW.out]
  refine (eqGrantS_same a1 a3 c1 c3 G W (h1.below hbW) (h3.below hbW) hlG).mono ?_
  rintro e w1 ⟨rfl, hb1⟩
  have x0 := (b0.below hb1 b0.lt).cell 1 _ rfl
  have x1 := (b1.below hb1 b1.lt).cell 1 _ rfl
  have hB : Below w.heap.size w w1 := hbW.trans (hb1.mono hbW.size)
  go_wp2_with fail
  refine (eqGrantS_same a2 a4 c2 c4 V w1 (h2.below hB) (h4.below hB) hlV).mono ?_
  rintro e w2 ⟨rfl, hb2⟩
  go_wp2
  go_ret
  exact ⟨rfl, hB.trans (hb2.mono hB.size)⟩

section
open Go.ChangeShapes Go.WideShapes Go.ChangeAt
variable {H : Type} {enc : TypeId × Value → H} {w : World} {base : Nat} {spare : Nat → Bool} {held : Bool}

theorem Tryd.cellsGr : Tryd.prog.cellsOf 96 = 3 := by kernel_rfl
theorem Tryd.cellsGrs : Tryd.prog.cellsOf 45 = 1 := by kernel_rfl
theorem Tryd.cellsLk : Tryd.prog.cellsOf 47 = 2 := by kernel_rfl
theorem Tryd.cellsIg : Tryd.prog.cellsOf 3 = 1 := by kernel_rfl
theorem some_atG {α : Type} (xs : List α) (i : Nat) (h : i < xs.length) : ∃ y, xs[i]? = some y := ⟨_, List.getElem?_eq_getElem h⟩
theorem trod_numG {fuel : Nat} {cs : List Value} {x : DataW H × List MemPlace} (h : DataW.trod enc Tryd.prog w base spare held fuel 3 cs = some x) : ∃ n : Int, cs = [.int .i64 n] := by
  obtain ⟨n, rfl, _, hw⟩ := DataW.trod_int Tryd.underlying3 h
  exact ⟨n, rfl⟩

set_option maxRecDepth 100000 in
theorem trod_grant {fuel : Nat} {cs : List Value} {x : DataW H × List MemPlace} (h : DataW.trod enc Tryd.prog w base spare held fuel 96 cs = some x) : ∃ t : GrantV, cs = t.cells := by
  obtain ⟨xs, n, _, _, hlen, hxl, hf⟩ := DataW.trod_struct Tryd.underlying96 h
  rw [Tryd.cellsGr] at hlen
  match cs, hlen with
  | [v0, v1, v2], _ =>
    have f0 := hf 0 _ rfl
    have f1 := hf 1 _ rfl
    have f2 := hf 2 _ rfl
    obtain ⟨y0, hx0⟩ := some_atG xs 0 (by rw [hxl]; decide)
    obtain ⟨y1, hx1⟩ := some_atG xs 1 (by rw [hxl]; decide)
    obtain ⟨y2, hx2⟩ := some_atG xs 2 (by rw [hxl]; decide)
    rw [hx0] at f0
    rw [hx1] at f1
    rw [hx2] at f2
    simp only [List.getElem_toArray, List.getElem_cons_zero, List.getElem_cons_succ, Tryd.cellsIg, List.drop, List.take] at f0 f1 f2
    obtain ⟨a, e0⟩ := trod_numG f0
    obtain ⟨b, e1⟩ := trod_numG f1
    obtain ⟨c, e2⟩ := trod_numG f2
    simp only [List.cons.injEq, and_true] at e0 e1 e2
    subst e0 e1 e2
    exact ⟨⟨a, b, c⟩, rfl⟩

set_option maxRecDepth 100000 in
theorem trod_grants {fuel : Nat} {cs : List Value} {x : DataW H × List MemPlace} (h : DataW.trod enc Tryd.prog w base spare held fuel 45 cs = some x) :
    ∃ (a : Option Addr) (c : Nat) (ls : List GrantV), cs = [.slice a ls.length c] ∧ ReadsG w a ls ∧ ls.length ≤ maxLen := by
  rcases DataW.trod_slice Tryd.underlying45 h with ⟨rfl, _⟩ | ⟨a, len, cap, elems, rest, n, _, rfl, _, _, hl, hm, hlen, hel, _, _⟩
  · exact ⟨none, 0, [], rfl, ReadsG.nil _ _, by simp⟩
  rw [Tryd.cellsGr] at hel
  have each : ∀ i, i < len → ∃ t : GrantV, w.cells? base (a.add (i * 3)) 3 = some t.cells := by
    intro i hi
    have hy := hel i hi
    rw [List.getElem?_eq_getElem (by omega : i < elems.length), Option.bind_eq_some_iff] at hy
    obtain ⟨cs', hcs, hy'⟩ := hy
    obtain ⟨t, e⟩ := trod_grant hy'
    exact ⟨t, by rw [hcs, e]⟩
  obtain ⟨f, hf⟩ : ∃ f : Nat → GrantV, ∀ i, i < len → w.cells? base (a.add (i * 3)) 3 = some (f i).cells := by
    refine ⟨fun i => if h : i < len then (each i h).choose else zeroG, fun i hi => ?_⟩
    simp only [dif_pos hi]
    exact (each i hi).choose_spec
  refine ⟨some a, cap, (List.range len).map f, by simp, ?_, by simp; omega⟩
  intro hne
  have hpos := List.length_pos_iff.2 hne
  simp only [List.length_map, List.length_range] at hpos ⊢
  obtain ⟨b, off, spot⟩ := a
  have c0 := (World.cells?_some (hf 0 hpos)).2.2 0 (by decide)
  have hspot : spot = none := by simpa [Addr.add] using World.cell?_spot c0
  subst hspot
  refine ⟨b, off, rfl, fun k hk => ?_⟩
  have e : ((List.range len).map f).getD k zeroG = f k := by simp [List.getD, hk]
  rw [e]
  have hc := (World.cells?_some (hf k hk)).2.2
  have d0 := hc 0 (by decide)
  have d1 := hc 1 (by decide)
  have d2 := hc 2 (by decide)
  simp only [Addr_add, GrantV.cells] at d0 d1 d2
  exact ⟨by simpa using d0, by simpa using d1, by simpa using d2⟩

/-- Locks as they came in. -/
structure InLocks (w : World) (l : LocksA) : Prop where
  given : ReadsG w l.aG l.given
  waits : ReadsG w l.aW l.waits
  len : l.short maxLen

set_option maxRecDepth 100000 in
theorem trod_locks {fuel : Nat} {cs : List Value} {x : DataW H × List MemPlace} (h : DataW.trod enc Tryd.prog w base spare held fuel 47 cs = some x) :
    ∃ l : LocksA, cs = [.slice l.aG l.given.length l.cG, .slice l.aW l.waits.length l.cW] ∧ InLocks w l := by
  obtain ⟨xs, n, _, _, hlen, hxl, hf⟩ := DataW.trod_struct Tryd.underlying47 h
  rw [Tryd.cellsLk] at hlen
  match cs, hlen with
  | [v0, v1], _ =>
    have f0 := hf 0 _ rfl
    have f1 := hf 1 _ rfl
    obtain ⟨y0, hx0⟩ := some_atG xs 0 (by rw [hxl]; decide)
    obtain ⟨y1, hx1⟩ := some_atG xs 1 (by rw [hxl]; decide)
    rw [hx0] at f0
    rw [hx1] at f1
    simp only [List.getElem_toArray, List.getElem_cons_zero, List.getElem_cons_succ, Tryd.cellsGrs, List.drop, List.take] at f0 f1
    obtain ⟨aG, cG, G, e0, hG, lG⟩ := trod_grants f0
    obtain ⟨aW, cW, V, e1, hV, lV⟩ := trod_grants f1
    simp only [List.cons.injEq, and_true] at e0 e1
    subst e0 e1
    exact ⟨⟨G, V, aG, cG, aW, cW⟩, rfl, hG, hV, lG, lV⟩

set_option maxRecDepth 100000 in
theorem open_locks {b0 : Nat} {v : Value} {d : DataW H} {ps : List MemPlace} (hval : Value.okWide Tryd.prog w .any b0 47 v) (h : DataW.Trod enc Tryd.prog w base spare held 47 v d ps) :
    ∃ l : LocksA, v = .agg #[.slice l.aG l.given.length l.cG, .slice l.aW l.waits.length l.cW] ∧ InLocks w l := by
  obtain ⟨cs, rfl, hcs⟩ := okWide_struct Tryd.underlying47 hval
  obtain ⟨fuel, hf⟩ := h
  have e : (Value.agg cs).cells.toList = cs.toList := rfl
  rw [e] at hf
  obtain ⟨l, hc, hin⟩ := trod_locks hf
  refine ⟨l, ?_, hin⟩
  congr 1
  apply Array.toList_inj.1
  rw [hc]
end
end Go.Proofs.YtekljhabjkmhpaaDoor
