/- Several texts in one, in their order. -/
import Derived.Test.YtgbpnepipknjnabDoorPDanglingx2
import Derived.ProofKit
import Derived.OpenShut
import Derived.ChangeOld
import Derived.Test.YtgbpnepipknjnabDoorPDanglingx5
import Derived.ChangeArms
import Derived.Test.YtgbpnepipknjnabDoorPDanglingx6
import Derived.Test.YtgbpnepipknjnabDoorPDanglingx13
import Derived.Test.YtgbpnepipknjnabDoorPDanglingx11
import Derived.Test.YtgbpnepipknjnabDoorPDanglingx12
import Derived.Test.YtgbpnepipknjnabDoorRows
import Derived.LaidLaws
import Derived.LaidHandle
import Derived.Stop.Joined
import Derived.ChangeVars
/- What came in, read: a slice of numbers, an object. -/
namespace Go.Proofs.YtgbpnepipknjnabDoor
open Go.ChangeShapes Go.WideShapes Go.ChangeAt Go.RowKit

def InI64 (z : Int) : Prop := -9223372036854775808 ≤ z ∧ z ≤ 9223372036854775807
theorem wf_i64 {z : Int} (h : (Lit.int .i64 z).wf = true) : InI64 z := by
  simp [Lit.wf, IntKind.min, IntKind.max, IntKind.signed, IntKind.bits] at h
  unfold InI64; omega

theorem some_at {α : Type} (xs : List α) (i : Nat) (h : i < xs.length) : ∃ y, xs[i]? = some y := ⟨_, List.getElem?_eq_getElem h⟩

section
variable {H : Type} {enc : TypeId × Value → H} {w : World} {base : Nat} {spare : Nat → Bool} {held : Bool}

theorem trod_ints {fuel : Nat} {cs : List Value} {x : DataW H × List MemPlace} (h : DataW.trod enc Tryd.prog w base spare held fuel 34 cs = some x) :
    ∃ (a : Option Addr) (c : Nat) (ns : List Int), cs = [.slice a ns.length c] ∧ ReadsI w a ns ∧ (a = none → c = 0) ∧ ns.length ≤ maxLen ∧ ∀ z ∈ ns, InI64 z := by
  rcases open_ints Tryd.underlying34 Tryd.underlying3 (by kernel_rfl) h with ⟨rfl, _⟩ | ⟨a, len, cap, zs, rfl, _, hl, hm, hz, _, hcell, hwf⟩
  · exact ⟨none, 0, [], rfl, fun h => absurd rfl h, fun _ => rfl, by simp, by simp⟩
  · have hlz : len ≤ zs.length := by rw [hz]; split <;> omega
    refine ⟨some a, cap, zs.take len, by simp; omega, ?_, (fun h => by cases h), by simp; omega, fun z hzz => wf_i64 (hwf z (List.mem_of_mem_take hzz))⟩
    intro hne
    have hpos := List.length_pos_iff.2 hne
    simp at hpos
    obtain ⟨b, off, spot⟩ := a
    have hc0 := hcell 0 (by omega)
    have hspot : spot = none := by simpa [Addr.add] using World.cell?_spot hc0
    subst hspot
    refine ⟨b, off, rfl, fun i hi => ?_⟩
    have hi' : i < len := by simp at hi; omega
    have := hcell i (by omega)
    have e : (List.take len zs).getD i 0 = zs.getD i 0 := by simp [List.getD, hi']
    rw [e, ← Addr_add]
    exact this

theorem trod_num {fuel : Nat} {cs : List Value} {x : DataW H × List MemPlace} (h : DataW.trod enc Tryd.prog w base spare held fuel 3 cs = some x) : ∃ n : Int, cs = [.int .i64 n] ∧ InI64 n := by
  obtain ⟨n, rfl, _, hw⟩ := DataW.trod_int Tryd.underlying3 h
  exact ⟨n, rfl, wf_i64 hw⟩

theorem Tryd.cellsI : Tryd.prog.cellsOf 3 = 1 := by kernel_rfl
theorem Tryd.cellsIs : Tryd.prog.cellsOf 34 = 1 := by kernel_rfl
theorem Tryd.cellsO : Tryd.prog.cellsOf 36 = 3 := by kernel_rfl

set_option maxRecDepth 100000 in
theorem trod_obj {fuel : Nat} {cs : List Value} {x : DataW H × List MemPlace} (h : DataW.trod enc Tryd.prog w base spare held fuel 36 cs = some x) :
    ∃ (o : ObjV) (aI : Option Addr) (cI : Nat) (aR : Option Addr) (cR : Nat), cs = [.int .i64 o.kind, .slice aI o.ints.length cI, .slice aR o.refs.length cR] ∧ ReadsO w aI cI aR cR o ∧ o.ints.length ≤ maxLen ∧ o.refs.length ≤ maxLen ∧ InI64 o.kind ∧ (∀ z ∈ o.ints, InI64 z) ∧ (∀ z ∈ o.refs, InI64 z) := by
  obtain ⟨xs, n, _, _, hlen, hxl, hf⟩ := DataW.trod_struct Tryd.underlying36 h
  rw [Tryd.cellsO] at hlen
  match cs, hlen with
  | [v0, v1, v2], _ =>
    have f0 := hf 0 _ rfl
    have f1 := hf 1 _ rfl
    have f2 := hf 2 _ rfl
    obtain ⟨y0, hx0⟩ := some_at xs 0 (by rw [hxl]; decide)
    obtain ⟨y1, hx1⟩ := some_at xs 1 (by rw [hxl]; decide)
    obtain ⟨y2, hx2⟩ := some_at xs 2 (by rw [hxl]; decide)
    rw [hx0] at f0
    rw [hx1] at f1
    rw [hx2] at f2
    simp only [List.getElem_toArray, List.getElem_cons_zero, List.getElem_cons_succ, Tryd.cellsI, Tryd.cellsIs, List.drop, List.take] at f0 f1 f2
    obtain ⟨k, e0, wk⟩ := trod_num f0
    obtain ⟨aI, cI, ints, e1, hI, nI, lI, wI⟩ := trod_ints f1
    obtain ⟨aR, cR, refs, e2, hR, nR, lR, wR⟩ := trod_ints f2
    simp only [List.cons.injEq, and_true] at e0 e1 e2
    subst e0 e1 e2
    exact ⟨⟨k, ints, refs⟩, aI, cI, aR, cR, rfl, ⟨hI, hR, nI, nR⟩, lI, lR, wk, wI, wR⟩

end
end Go.Proofs.YtgbpnepipknjnabDoor

/- What came in, read: a slot, a page. -/
namespace Go.Proofs.YtgbpnepipknjnabDoor
open Go.ChangeShapes Go.WideShapes Go.ChangeAt Go.RowKit

/-- A slot as it came in: its lists are read, its numbers are 64-bit numbers. -/
structure InSlot (w : World) (s : SlotA) : Prop where
  reads : s.reads w
  lI : s.v.o.ints.length ≤ maxLen
  lR : s.v.o.refs.length ≤ maxLen
  kind : InI64 s.v.o.kind
  ints : ∀ z ∈ s.v.o.ints, InI64 z
  refs : ∀ z ∈ s.v.o.refs, InI64 z

section
variable {H : Type} {enc : TypeId × Value → H} {w : World} {base : Nat} {spare : Nat → Bool} {held : Bool}

theorem Tryd.cellsB : Tryd.prog.cellsOf 4 = 1 := by kernel_rfl
theorem Tryd.cellsSl : Tryd.prog.cellsOf 38 = 4 := by kernel_rfl
set_option maxRecDepth 100000 in
theorem trod_slot {fuel : Nat} {cs : List Value} {x : DataW H × List MemPlace} (h : DataW.trod enc Tryd.prog w base spare held fuel 38 cs = some x) :
    ∃ s : SlotA, cs = s.cells ∧ InSlot w s := by
  obtain ⟨xs, n, _, _, hlen, hxl, hf⟩ := DataW.trod_struct Tryd.underlying38 h
  rw [Tryd.cellsSl] at hlen
  match cs, hlen with
  | [v0, v1, v2, v3], _ =>
    have f0 := hf 0 _ rfl
    have f1 := hf 1 _ rfl
    obtain ⟨y0, hx0⟩ := some_at xs 0 (by rw [hxl]; decide)
    obtain ⟨y1, hx1⟩ := some_at xs 1 (by rw [hxl]; decide)
    rw [hx0] at f0
    rw [hx1] at f1
    simp only [List.getElem_toArray, List.getElem_cons_zero, List.getElem_cons_succ, Tryd.cellsB, Tryd.cellsO, List.drop, List.take] at f0 f1
    obtain ⟨b, e0, _⟩ := DataW.trod_bool Tryd.underlying4 f0
    obtain ⟨o, aI, cI, aR, cR, e1, hr, lI, lR, wk, wI, wR⟩ := trod_obj f1
    simp only [List.cons.injEq, and_true] at e0 e1
    obtain ⟨rfl, rfl, rfl⟩ := e1
    subst e0
    exact ⟨⟨⟨b, o⟩, aI, cI, aR, cR⟩, rfl, hr, lI, lR, wk, wI, wR⟩

end
end Go.Proofs.YtgbpnepipknjnabDoor

/- What came in, read: a row of slots. -/
namespace Go.Proofs.YtgbpnepipknjnabDoor
open Go.ChangeShapes Go.WideShapes Go.ChangeAt Go.RowKit

section
variable {H : Type} {enc : TypeId × Value → H} {w : World} {base : Nat} {spare : Nat → Bool} {held : Bool}

set_option maxRecDepth 100000 in
theorem trod_slots {fuel : Nat} {cs : List Value} {x : DataW H × List MemPlace} (h : DataW.trod enc Tryd.prog w base spare held fuel 22 cs = some x) :
    ∃ (a : Option Addr) (c : Nat) (rs : List SlotA), cs = [.slice a rs.length c] ∧ ReadsVw w a rs ∧ (∀ r ∈ rs, InSlot w r) ∧ rs.length ≤ maxLen := by
  rcases DataW.trod_slice Tryd.underlying22 h with ⟨rfl, _⟩ | ⟨a, len, cap, elems, rest, n, _, rfl, _, _, hl, hm, hlen, hel, _, _⟩
  · exact ⟨none, 0, [], rfl, ReadsVw.nil _ _, fun r hr => by simp at hr, by simp⟩
  rw [Tryd.cellsSl] at hel
  have each : ∀ i, i < len → ∃ t : SlotA, w.cells? base (a.add (i * 4)) 4 = some t.cells ∧ InSlot w t := by
    intro i hi
    have hy := hel i hi
    rw [List.getElem?_eq_getElem (by omega : i < elems.length), Option.bind_eq_some_iff] at hy
    obtain ⟨cs', hcs, hy'⟩ := hy
    obtain ⟨t, e, ht⟩ := trod_slot hy'
    exact ⟨t, by rw [hcs, e], ht⟩
  obtain ⟨f, hf⟩ : ∃ f : Nat → SlotA, ∀ i, i < len → w.cells? base (a.add (i * 4)) 4 = some (f i).cells ∧ InSlot w (f i) := by
    refine ⟨fun i => if h : i < len then (each i h).choose else zeroS, fun i hi => ?_⟩
    simp only [dif_pos hi]
    exact (each i hi).choose_spec
  refine ⟨some a, cap, (List.range len).map f, by simp, ?_, ?_, by simp; omega⟩
  · intro hne
    have hpos := List.length_pos_iff.2 hne
    simp only [List.length_map, List.length_range] at hpos ⊢
    obtain ⟨b, off, spot⟩ := a
    have c0 := (World.cells?_some (hf 0 hpos).1).2.2 0 (by decide)
    have hspot : spot = none := by simpa [Addr.add] using World.cell?_spot c0
    subst hspot
    refine ⟨b, off, rfl, fun k hk => ?_⟩
    have e : ((List.range len).map f).getD k zeroS = f k := by simp [List.getD, hk]
    rw [e]
    have hc := (World.cells?_some (hf k hk).1).2.2
    refine ⟨fun j v hv => ?_, (hf k hk).2.reads⟩
    have hj : j < 4 := by have := (List.getElem?_eq_some_iff.1 hv).1; rwa [cells_lenV] at this
    have d := hc j (by simpa using hj)
    simp only [Addr_add] at d
    rw [d, hv]
  · intro r hr
    obtain ⟨k, hk, rfl⟩ := List.mem_map.1 hr
    exact (hf k (List.mem_range.1 hk)).2

set_option maxRecDepth 100000 in
theorem open_slots {b0 : Nat} {v : Value} {d : DataW H} {ps : List MemPlace} (hval : Value.okWide Tryd.prog w .any b0 22 v) (h : DataW.Trod enc Tryd.prog w base spare held 22 v d ps) :
    ∃ (a : Option Addr) (c : Nat) (ss : List SlotA), v = .slice a ss.length c ∧ ReadsVw w a ss ∧ (∀ s ∈ ss, InSlot w s) ∧ ss.length ≤ maxLen := by
  obtain ⟨a, len, cap, hv⟩ := okWide_slice (e := 38) Tryd.underlying22 hval
  subst hv
  obtain ⟨fuel, hf⟩ := h
  have e : (Value.slice a len cap).cells.toList = [Value.slice a len cap] := rfl
  rw [e] at hf
  obtain ⟨a', c', ss, hc, rest⟩ := trod_slots hf
  simp only [List.cons.injEq, and_true] at hc
  exact ⟨a', c', ss, hc, rest⟩
end
end Go.Proofs.YtgbpnepipknjnabDoor

/- The walk of laws.FnExactViewOk. -/
namespace Go.Proofs.YtgbpnepipknjnabDoor
open Go.RowKit

theorem short_of_vs {m : Nat} {ss ts : List SlotA} (h : ∀ r ∈ ss, r.short m) (e : ts.map SlotA.v = ss.map SlotA.v) : ∀ r ∈ ts, r.short m := fun s hs => by
  have : s.v ∈ ts.map SlotA.v := List.mem_map.2 ⟨s, hs, rfl⟩
  rw [e] at this
  obtain ⟨r, hr, hv⟩ := List.mem_map.1 this
  have := h r hr
  rw [SlotA.short, hv] at this
  exact this
theorem short_mono {m n : Nat} {ss : List SlotA} (h : ∀ r ∈ ss, r.short m) (hm : m ≤ n) : ∀ r ∈ ss, r.short n := fun r hr => ⟨Nat.le_trans (h r hr).1 hm, Nat.le_trans (h r hr).2 hm⟩

end Go.Proofs.YtgbpnepipknjnabDoor

/- The walk of laws.FnExactDangling. -/
namespace Go.Proofs.YtgbpnepipknjnabDoor
open Go.RowKit

theorem countVs_shortD (ss : List SlotA) (hl : ∀ r ∈ ss, r.short 1048576) : countVs ss ≤ ss.length * 2097154 := by
  induction ss with
  | nil => simp [countVs]
  | cons s r ih =>
    have h1 := hl s (by simp)
    have h2 := ih (fun x hx => hl x (by simp [hx]))
    simp only [countVs, countV1, List.length_cons]
    have := h1.1
    have := h1.2
    omega

set_option maxHeartbeats 2000000 in
set_option maxRecDepth 100000 in
theorem lawDangling_walk (a : Option Addr) (c : Nat) (ss : List SlotA) (w : World) (hg : ErrT w) (hr : ReadsVw w a ss) (hin : ∀ s ∈ ss, InSlot w s) (hlen : ss.length ≤ maxLen) :
    Calls Tryd.prog 3 #[.slice a ss.length c] w fun e w' => e = .returned (.bool true) ∧ Below w.heap.size w w' := by
  have hsm : ∀ r ∈ ss, r.short 9223372036854775807 := fun r hr => ⟨Nat.le_trans (hin r hr).lI (by simp [maxLen]), Nat.le_trans (hin r hr).lR (by simp [maxLen])⟩
  have hn : ss.length ≤ 9223372036854775807 := by simp only [maxLen] at hlen; omega
  clear hlen hin
  go_enter Tryd.func3, Tryd.ntmps3
  go_wp2_with fail
  refine (szSlotS_any a c ss 1048576 w hr hn hsm (by omega)).mono ?_
  rintro e w1 ⟨left, rfl, hcase, hb1⟩
  rcases hcase with hs | ⟨hs, _, hl, hsh⟩
  · go_wp2
    go_ret
    exact ⟨rfl, hb1⟩
  have hzn : ¬ left < 0 := by omega
  have hfit : Fit ss := Fit.of_short hsh
  have hr1 := hr.below hb1
  clear hsm hn hs
  go_wp2_with fail
  refine (toSlotS_any a c ss w1 hr1 hl hsh).mono ?_
  rintro e w2 ⟨a2, c2, s2, rfl, he2, ho2, hb2⟩
  go_wp2_with fail
  refine (specDangling_any a2 c2 s2 w2 ho2.reads (by rw [mapVw_len he2.out]; omega) (hfit.of_vs he2.out)).mono ?_
  rintro e w3 hans
  rw [vsOf, he2.out] at hans
  obtain ⟨RV, HRV⟩ : ∃ RV, Hid (dangV (ss.map SlotA.v) = RV) := ⟨_, rfl⟩
  have hRl : RV.length ≤ 160 := by rw [← HRV.out]; exact dangV_len _
  rw [HRV.out] at hans
  obtain ⟨a3, c3, rfl, ho3, hb3⟩ := hans
  have K3 : Below w1.heap.size w1 w3 := hb2.trans (hb3.mono hb2.size)
  go_wp2_with fail
  refine (toSlotS_any a c ss w3 (hr1.below K3) hl hsh).mono ?_
  rintro e w4 ⟨a4, c4, s4, rfl, he4, ho4, hb4⟩
  have K4 : Below w1.heap.size w1 w4 := K3.trans (hb4.mono K3.size)
  have hl4 : Hid (s4.length ≤ 1048576 ∧ ∀ r ∈ s4, r.short 1048576) := ⟨by rw [mapVw_len he4.out]; exact hl, short_of_vs hsh he4.out⟩
  have hB4 : Below w.heap.size w w4 := hb1.trans (K4.mono hb1.size)
  have ho34 := (ho3.below hb4).widen (Nat.le_refl _) (Nat.le_refl _) hb4.size
  go_wp2_with fail
  refine (implDangling_any a4 c4 s4 w4 (hg.keep hB4) ho4.reads (by have := hl4.out.1; omega) (hfit.of_vs he4.out)).mono ?_
  rintro e w5 hans
  rw [vsOf, he4.out, HRV.out] at hans
  obtain ⟨a5, c5, rfl, ho5, hb5⟩ := hans
  have K5 : Below w1.heap.size w1 w5 := K4.trans (hb5.mono K4.size)
  have z1 := hb2.size
  have z2 := hb3.size
  have z3 := hb4.size
  have z4 := hb5.size
  replace ho3 := ho34.below hb5
  replace ho4 := ho4.below hb5
  have HBB : Hid (∀ x : Int, (x != x) = false) := fun x => by simp
  clear ho2 hb2 hb3 hb4 hb5 K3 K4 he2 ho34 hB4
  go_wp2_with fail
  refine (eqIntA2S_same a5 a3 c5 c3 RV w5 ho5.reads ho3.reads (by omega)).mono ?_
  rintro e w6 ⟨rfl, d6⟩
  have K6 : Below w1.heap.size w1 w6 := K5.trans (d6.mono K5.size)
  replace ho3 := ho3.below d6
  replace ho4 := ho4.below d6
  replace ho5 := ho5.below d6
  have z5 := d6.size
  clear d6 K5
  go_wp2_with fail
  refine (toSlotS_any a c ss w6 (hr1.below K6) hl hsh).mono ?_
  rintro e w7 ⟨a7, c7, s7, rfl, he7, ho7, hb7⟩
  have K7 : Below w1.heap.size w1 w7 := K6.trans (hb7.mono K6.size)
  replace ho3 := ho3.below hb7
  replace ho4 := ho4.below hb7
  replace ho5 := ho5.below hb7
  have z6 := hb7.size
  go_wp2_with fail
  refine (eqSlotS_same a4 a7 c4 c7 s4 s7 (he7.out.trans he4.out.symm) w7 ho4.reads ho7.reads (by have := hl4.out.1; omega) (short_mono hl4.out.2 (by decide))).mono ?_
  rintro e w8 ⟨rfl, hb8⟩
  have K8 : Below w1.heap.size w1 w8 := K7.trans (hb8.mono K7.size)
  replace ho3 := ho3.below hb8
  replace ho4 := ho4.below hb8
  replace ho5 := ho5.below hb8
  have z7 := hb8.size
  have hcn : Hid (countVs s4 ≤ 1048576 * 2097154) := by
    have h1 := countVs_shortD s4 hl4.out.2
    have h2 := hl4.out.1
    have h3 : s4.length * 2097154 ≤ 1048576 * 2097154 := Nat.mul_le_mul_right _ h2
    exact Nat.le_trans h1 h3
  clear ho7 hb7 hb8 K6 K7
  go_wp2_with fail
  refine (markSlotS_touch w3.heap.size w4.heap.size a4 c4 1 s4 w8 ho4 (short_mono hl4.out.2 (by decide)) (by omega) (by have := hcn.out; omega)).mono ?_
  rintro e w9 ⟨rfl, ho9, ht9⟩
  have hw9 : Within w3.heap.size w4.heap.size w8 w9 := ht9.within (fun k hk => ho4.blocks_lt k hk)
  have K9 : Below w1.heap.size w1 w9 := K8.trans (hw9.below (by omega) (by omega))
  replace ho3 := ho3.within hw9 (.inl (Nat.le_refl _))
  replace ho5 := ho5.within hw9 (.inr (Nat.le_refl _))
  have z8 := hw9.size
  have hkn : ¬ (1 + (countVs s4 : Int)) < 0 := by omega
  clear ho9 ht9 hw9 ho4 K8 hcn
  generalize 1 + (countVs s4 : Int) = kk at *
  go_wp2_with fail
  refine (eqIntA2S_same a5 a3 c5 c3 RV w9 ho5.reads ho3.reads (by omega)).mono ?_
  rintro e w10 ⟨rfl, d10⟩
  have K10 : Below w1.heap.size w1 w10 := K9.trans (d10.mono K9.size)
  replace ho3 := ho3.below d10
  replace ho5 := ho5.below d10
  have z9 := d10.size
  clear d10 K9
  go_wp2_with fail
  refine (markIntA2S_own w4.heap.size w5.heap.size a5 c5 1 RV w10 ho5 (by omega) (by omega)).mono ?_
  rintro e w11 ⟨rfl, ho11, ht11⟩
  have hw11 : Within w4.heap.size w5.heap.size w10 w11 := ht11.within (fun k hk => ho5.lt k (Option.mem_toList.1 hk))
  have K11 : Below w1.heap.size w1 w11 := K10.trans (hw11.below (by omega) (by omega))
  replace ho3 := ho3.within hw11 (.inl (by omega))
  have z10 := hw11.size
  clear ht11 hw11 ho5 K10
  go_wp2_with fail
  refine (heldIntA2S_any a5 c5 1 RV.length w11 ho11.reads (by omega) (by omega)).mono ?_
  rintro e w12 ⟨rfl, rfl⟩
  have hqn : ¬ (1 + 2 * (RV.length : Int)) < 0 := by omega
  have hqq := HBB.out (1 + 2 * (RV.length : Int))
  go_wp2_with fail
  refine (toSlotS_any a c ss w12 (hr1.below K11) hl hsh).mono ?_
  rintro e w13 ⟨a13, c13, s13, rfl, he13, ho13, hb13⟩
  have K13 : Below w1.heap.size w1 w13 := K11.trans (hb13.mono K11.size)
  replace ho3 := ho3.below hb13
  replace ho11 := ho11.below hb13
  have z11 := hb13.size
  have hB13 : Below w.heap.size w w13 := hb1.trans (K13.mono hb1.size)
  clear hb13 K11
  go_wp2_with fail
  refine (implDangling_any a13 c13 s13 w13 (hg.keep hB13) ho13.reads (by rw [mapVw_len he13.out]; omega) (hfit.of_vs he13.out)).mono ?_
  rintro e w14 hans
  rw [vsOf, he13.out, HRV.out] at hans
  obtain ⟨a14, c14, rfl, ho14, hb14⟩ := hans
  have K14 : Below w1.heap.size w1 w14 := K13.trans (hb14.mono K13.size)
  replace ho3 := ho3.below hb14
  replace ho11 := ho11.below hb14
  clear hb14 K13 hB13 ho13
  go_wp2_with fail
  refine (eqIntA2S_same a14 a3 c14 c3 RV w14 ho14.reads ho3.reads (by omega)).mono ?_
  rintro e w15 ⟨rfl, d15⟩
  have K15 : Below w1.heap.size w1 w15 := K14.trans (d15.mono K14.size)
  replace ho11 := ho11.below d15
  clear d15 K14 ho3 ho14
  go_wp2_with fail
  refine (heldIntA2S_any a5 c5 1 RV.length w15 ho11.reads (by omega) (by omega)).mono ?_
  rintro e w16 ⟨rfl, rfl⟩
  go_wp2
  go_ret
  exact ⟨rfl, hb1.trans (K15.mono hb1.size)⟩
end Go.Proofs.YtgbpnepipknjnabDoor

/- What the row's condition on errors.errorType gives a walk; a world that meets it. -/
namespace Go.Proofs.YtgbpnepipknjnabDoor
open Go.ChangeShapes Go.WideShapes Go.RowKit

theorem Tryd.et : Tryd.prog.globalNamed "errors.errorType" = some 0 := by kernel_rfl
theorem Tryd.rt : (Tryd.prog.cutTypes.find? (·.1 == "internal/reflectlite.rtype")).map (·.2) = some 79 := by kernel_rfl
theorem Tryd.oneRow : ((List.range 122).filter fun t => Tryd.prog.rowNamed t [101, 114, 114, 111, 114]) = [58] := by kernel_rfl
theorem Tryd.typesSize : Tryd.prog.types.size = 122 := by kernel_rfl

theorem errT_of_handles {W : World} {laid : List (String × DataW Unit)} (hm : ("errors.errorType", Rows.laid_errors_errorType) ∈ laid) (h : handlesMet Tryd.prog laid W) : ErrT W := by
  obtain ⟨name, u, ty, e1, e2, e3, e4, e5⟩ := h _ hm
  have en : name = [101, 114, 114, 111, 114] := (Option.some.inj e1).symm
  subst en
  obtain rfl := Option.some.inj (Tryd.rt.symm.trans e2)
  have hm : ty ∈ (List.range 122).filter fun t => Tryd.prog.rowNamed t [101, 114, 114, 111, 114] := List.mem_filter.2 ⟨List.mem_range.2 (by rw [← Tryd.typesSize]; exact e3), e4⟩
  rw [Tryd.oneRow] at hm
  obtain rfl := List.mem_singleton.1 hm
  have hh : typeHandle Tryd.prog 58 = .pointer (some ⟨1, 58, none⟩) := by kernel_rfl
  rw [hh] at e5
  unfold ErrT
  simpa using World.var?_cell Tryd.et e5 0

/-- The one listed variable. -/
def laid1 : List (String × DataW Unit) := [("errors.errorType", Rows.laid_errors_errorType)]
theorem errT_of_laid1 {W : World} (h : laidMetH Tryd.prog laid1 W) : ErrT W := by
  have h' : laidMet Tryd.prog [] W ∧ handlesMet Tryd.prog laid1 W := h
  exact errT_of_handles (List.mem_singleton.2 rfl) h'.2
end Go.Proofs.YtgbpnepipknjnabDoor
