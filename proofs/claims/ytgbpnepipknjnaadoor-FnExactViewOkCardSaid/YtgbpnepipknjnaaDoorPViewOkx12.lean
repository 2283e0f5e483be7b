/- Several texts in one, in their order. -/
import Derived.Test.YtgbpnepipknjnaaDoorPViewOkx11
import Derived.Test.YtgbpnepipknjnaaDoorPViewOkx5
import Derived.Test.YtgbpnepipknjnaaDoorPViewOkx10
import Derived.Test.YtgbpnepipknjnaaDoorRows
import Derived.LaidLaws
import Derived.LaidHandle
import Derived.Stop.Joined
import Derived.ChangeVars
/- What came in, read: a row of slots. -/
namespace Go.Proofs.YtgbpnepipknjnaaDoor
open Go.ChangeShapes Go.WideShapes Go.ChangeAt Go.RowKit

section
variable {H : Type} {enc : TypeId × Value → H} {w : World} {base : Nat} {spare : Nat → Bool} {held : Bool}

set_option maxRecDepth 100000 in
theorem trod_slots {fuel : Nat} {cs : List Value} {x : DataW H × List MemPlace} (h : DataW.trod enc Tryd.prog w base spare held fuel 41 cs = some x) :
    ∃ (a : Option Addr) (c : Nat) (rs : List SlotA), cs = [.slice a rs.length c] ∧ ReadsVw w a rs ∧ (∀ r ∈ rs, InSlot w r) ∧ rs.length ≤ maxLen := by
  rcases DataW.trod_slice Tryd.underlying41 h with ⟨rfl, _⟩ | ⟨a, len, cap, elems, rest, n, _, rfl, _, _, hl, hm, hlen, hel, _, _⟩
  · exact ⟨none, 0, [], rfl, ReadsVw.nil _ _, fun r hr => by simp at hr, by simp⟩
  rw [Tryd.cellsSl] at hel
  have each : ∀ i, i < len → ∃ t : SlotA, w.cells? base (a.add (i * 4)) 4 = some t.cells ∧ InSlot w t := by
    intro i hi
    have hy := hel i hi
    rw [List.getElem?_eq_getElem (by omega : i < elems.length), Option.bind_eq_some_iff] at hy
    obtain ⟨cs', hcs, hy'⟩ := hy
    obtain ⟨t, e, ht⟩ := trod_slot hy'
    exact ⟨t, by rw [hcs, e], ht⟩
  obtain ⟨f, hf⟩ : ∃ f : Nat → SlotA, ∀ i, i < len → w.cells? base (a.add (i * 4)) 4 = some (f i).cells ∧ InSlot w (f i) := by
    refine ⟨fun i => if h : i < len then (each i h).choose else zeroS, fun i hi => ?_⟩
    simp only [dif_pos hi]
    exact (each i hi).choose_spec
  refine ⟨some a, cap, (List.range len).map f, by simp, ?_, ?_, by simp; omega⟩
  · intro hne
    have hpos := List.length_pos_iff.2 hne
    simp only [List.length_map, List.length_range] at hpos ⊢
    obtain ⟨b, off, spot⟩ := a
    have c0 := (World.cells?_some (hf 0 hpos).1).2.2 0 (by decide)
    have hspot : spot = none := by simpa [Addr.add] using World.cell?_spot c0
    subst hspot
    refine ⟨b, off, rfl, fun k hk => ?_⟩
    have e : ((List.range len).map f).getD k zeroS = f k := by simp [List.getD, hk]
    rw [e]
    have hc := (World.cells?_some (hf k hk).1).2.2
    refine ⟨fun j v hv => ?_, (hf k hk).2.reads⟩
    have hj : j < 4 := by have := (List.getElem?_eq_some_iff.1 hv).1; rwa [cells_lenV] at this
    have d := hc j (by simpa using hj)
    simp only [Addr_add] at d
    rw [d, hv]
  · intro r hr
    obtain ⟨k, hk, rfl⟩ := List.mem_map.1 hr
    exact (hf k (List.mem_range.1 hk)).2

set_option maxRecDepth 100000 in
theorem open_slots {b0 : Nat} {v : Value} {d : DataW H} {ps : List MemPlace} (hval : Value.okWide Tryd.prog w .any b0 41 v) (h : DataW.Trod enc Tryd.prog w base spare held 41 v d ps) :
    ∃ (a : Option Addr) (c : Nat) (ss : List SlotA), v = .slice a ss.length c ∧ ReadsVw w a ss ∧ (∀ s ∈ ss, InSlot w s) ∧ ss.length ≤ maxLen := by
  obtain ⟨a, len, cap, hv⟩ := okWide_slice (e := 68) Tryd.underlying41 hval
  subst hv
  obtain ⟨fuel, hf⟩ := h
  have e : (Value.slice a len cap).cells.toList = [Value.slice a len cap] := rfl
  rw [e] at hf
  obtain ⟨a', c', ss, hc, rest⟩ := trod_slots hf
  simp only [List.cons.injEq, and_true] at hc
  exact ⟨a', c', ss, hc, rest⟩
end
end Go.Proofs.YtgbpnepipknjnaaDoor

/- The walk of laws.FnExactViewOk. -/
namespace Go.Proofs.YtgbpnepipknjnaaDoor
open Go.RowKit

theorem short_of_vs {m : Nat} {ss ts : List SlotA} (h : ∀ r ∈ ss, r.short m) (e : ts.map SlotA.v = ss.map SlotA.v) : ∀ r ∈ ts, r.short m := fun s hs => by
  have : s.v ∈ ts.map SlotA.v := List.mem_map.2 ⟨s, hs, rfl⟩
  rw [e] at this
  obtain ⟨r, hr, hv⟩ := List.mem_map.1 this
  have := h r hr
  rw [SlotA.short, hv] at this
  exact this
theorem short_mono {m n : Nat} {ss : List SlotA} (h : ∀ r ∈ ss, r.short m) (hm : m ≤ n) : ∀ r ∈ ss, r.short n := fun r hr => ⟨Nat.le_trans (h r hr).1 hm, Nat.le_trans (h r hr).2 hm⟩

set_option maxHeartbeats 1000000 in
set_option maxRecDepth 100000 in
theorem lawViewOk_walk (a : Option Addr) (c : Nat) (ss : List SlotA) (w : World) (hg : ErrT w) (hr : ReadsVw w a ss) (hin : ∀ s ∈ ss, InSlot w s) (hlen : ss.length ≤ maxLen) :
    Calls Tryd.prog 5 #[.slice a ss.length c] w fun e w' => e = .returned (.bool true) ∧ Below w.heap.size w w' := by
  have hsm : ∀ r ∈ ss, r.short 9223372036854775807 := fun r hr => ⟨Nat.le_trans (hin r hr).lI (by simp [maxLen]), Nat.le_trans (hin r hr).lR (by simp [maxLen])⟩
  have hn : ss.length ≤ 9223372036854775807 := by simp only [maxLen] at hlen; omega
  clear hlen hin
  go_enter Tryd.func5, Tryd.ntmps5
  go_wp2_with fail
  refine (szSlotS_any a c ss 1048576 w hr hn hsm (by omega)).mono ?_
  rintro e w1 ⟨left, rfl, hcase, hb1⟩
  rcases hcase with hs | ⟨hs, _, hl, hsh⟩
  · go_wp2
    go_ret
    exact ⟨rfl, hb1⟩
  have hzn : ¬ left < 0 := by omega
  have hfit : Fit ss := Fit.of_short hsh
  have hr1 := hr.below hb1
  clear hsm hn hs
  go_wp2_with fail
  refine (toSlotS_any a c ss w1 hr1 hl hsh).mono ?_
  rintro e w2 ⟨a2, c2, s2, rfl, he2, ho2, hb2⟩
  go_wp2_with fail
  refine (specViewOk_any a2 c2 s2 w2 ho2.reads (hfit.of_vs he2.out)).mono ?_
  rintro e w3 ⟨rfl, hb3⟩
  have K3 : Below w1.heap.size w1 w3 := hb2.trans (hb3.mono hb2.size)
  go_wp2_with fail
  refine (toSlotS_any a c ss w3 (hr1.below K3) hl hsh).mono ?_
  rintro e w4 ⟨a4, c4, s4, rfl, he4, ho4, hb4⟩
  have K4 : Below w1.heap.size w1 w4 := K3.trans (hb4.mono K3.size)
  have hl4 : s4.length ≤ 1099511627776 := by rw [mapVw_len he4.out]; omega
  have hB4 : Below w.heap.size w w4 := hb1.trans (K4.mono hb1.size)
  go_wp2_with fail
  refine (implViewOk_any a4 c4 s4 w4 (hg.keep hB4) ho4.reads hl4 (hfit.of_vs he4.out)).mono ?_
  rintro e w5 ⟨rfl, hb5⟩
  have K5 : Below w1.heap.size w1 w5 := K4.trans (hb5.mono K4.size)
  rw [vsOf, vsOf, he2.out, he4.out]
  have ho5 := ho4.below hb5
  have hr5 := hr1.below K5
  generalize viewB (ss.map SlotA.v) = B at *
  have hBB : (B != B) = false := by cases B <;> rfl
  clear ho2 ho4 hb2 hb3 hb4 hb5 K3 K4 he2 hr1 hB4
  go_wp2_with fail
  refine (toSlotS_any a c ss w5 hr5 hl hsh).mono ?_
  rintro e w6 ⟨a6, c6, s6, rfl, he6, ho6, hb6⟩
  have K6 : Below w1.heap.size w1 w6 := K5.trans (hb6.mono K5.size)
  go_wp2_with fail
  refine (eqSlotS_same a4 a6 c4 c6 s4 s6 (he6.out.trans he4.out.symm) w6 (ho5.below hb6).reads ho6.reads hl4 (short_mono (short_of_vs hsh he4.out) (by decide))).mono ?_
  rintro e w7 ⟨rfl, hb7⟩
  go_wp2
  go_ret
  exact ⟨rfl, hb1.trans ((K6.trans (hb7.mono K6.size)).mono hb1.size)⟩
end Go.Proofs.YtgbpnepipknjnaaDoor

/- What the row's condition on errors.errorType gives a walk; a world that meets it. -/
namespace Go.Proofs.YtgbpnepipknjnaaDoor
open Go.ChangeShapes Go.WideShapes Go.RowKit

theorem Tryd.et : Tryd.prog.globalNamed "errors.errorType" = some 0 := by kernel_rfl
theorem Tryd.rt : (Tryd.prog.cutTypes.find? (·.1 == "internal/reflectlite.rtype")).map (·.2) = some 144 := by kernel_rfl
theorem Tryd.oneRow : ((List.range 186).filter fun t => Tryd.prog.rowNamed t [101, 114, 114, 111, 114]) = [102] := by kernel_rfl
theorem Tryd.typesSize : Tryd.prog.types.size = 186 := by kernel_rfl

theorem errT_of_handles {W : World} {laid : List (String × DataW Unit)} (hm : ("errors.errorType", Rows.laid_errors_errorType) ∈ laid) (h : handlesMet Tryd.prog laid W) : ErrT W := by
  obtain ⟨name, u, ty, e1, e2, e3, e4, e5⟩ := h _ hm
  have en : name = [101, 114, 114, 111, 114] := (Option.some.inj e1).symm
  subst en
  obtain rfl := Option.some.inj (Tryd.rt.symm.trans e2)
  have hm : ty ∈ (List.range 186).filter fun t => Tryd.prog.rowNamed t [101, 114, 114, 111, 114] := List.mem_filter.2 ⟨List.mem_range.2 (by rw [← Tryd.typesSize]; exact e3), e4⟩
  rw [Tryd.oneRow] at hm
  obtain rfl := List.mem_singleton.1 hm
  have hh : typeHandle Tryd.prog 102 = .pointer (some ⟨1, 102, none⟩) := by kernel_rfl
  rw [hh] at e5
  unfold ErrT
  simpa using World.var?_cell Tryd.et e5 0

/-- The one listed variable. -/
def laid1 : List (String × DataW Unit) := [("errors.errorType", Rows.laid_errors_errorType)]
theorem errT_of_laid1 {W : World} (h : laidMetH Tryd.prog laid1 W) : ErrT W := by
  have h' : laidMet Tryd.prog [] W ∧ handlesMet Tryd.prog laid1 W := h
  exact errT_of_handles (List.mem_singleton.2 rfl) h'.2
end Go.Proofs.YtgbpnepipknjnaaDoor
