/- Several texts in one, in their order. -/
import Derived.Test.YtdibmepjbabnnabGreatDoorPart2
import Derived.Test.YtdibmepjbabnnabGreatDoorPart4
import Derived.Test.YtdibmepjbabnnabGreatDoorPart6
import Derived.Deep.RegionHeld3
import Derived.Test.YtdibmepjbabnnabGreatDoorPart3
import Derived.Test.YtdibmepjbabnnabGreatDoorPart5
import Derived.Test.YtdibmepjbabnnabGreatDoorProg
import Derived.Test.YtdibmepjbabnnabGreatDoorPart1
import Derived.ProofKit
import Derived.OpenShut
import Derived.ChangeOld
import Derived.Test.YtdibmepjbabnnabGreatDoorRows
import Derived.LaidLaws
import Derived.LaidHandle
import Derived.Stop.Joined
import Derived.ChangeVars
import Derived.Lay
/- The walk of impl.foundObj. -/
namespace Go.Proofs.YtdibmepjbabnnabGreatDoor
open Go.RowKit

set_option maxHeartbeats 1000000 in
set_option maxRecDepth 100000 in
theorem foundObj_ok (k : Int) (aI : Option Addr) (nI cI : Nat) (aR : Option Addr) (nR cR : Nat) (w : World) : Calls Tryz.prog 22 #[.agg #[.int .i64 k, .slice aI nI cI, .slice aR nR cR], .nilIface] w fun e w' => e = .returned (.tuple #[.agg #[.int .i64 k, .slice aI nI cI, .slice aR nR cR], .bool true]) ∧ Below w.heap.size w w' := by
  obtain ⟨W, hW, b0, b1, hbW, hsW⟩ := boxes2 w [.int .i64 k, .slice aI nI cI, .slice aR nR cR] [.int .i64 0, .slice none 0 0, .slice none 0 0] 26 26
  go_enter Tryz.func22, Tryz.ntmps22
  go_wp2_with fail
  rw [hW.out]
  refine (isNo_nil W).mono ?_
  rintro e w1 ⟨rfl, hb1⟩
  have B1 : Below w.heap.size w w1 := hbW.trans (hb1.mono hbW.size)
  obtain ⟨x0, x1, x2, _, _, _⟩ := (b0.below hb1 b0.lt).three
  have bR := b1.below hb1 b1.lt
  obtain ⟨y0, y1, y2, f0, f1, f2⟩ := bR.three
  obtain ⟨WF, hWF, bF, hwF, _⟩ := box3_fill bR (.int .i64 k) (.slice aI nI cI) (.slice aR nR cR)
  have HB : Hid (Below w.heap.size w WF) := B1.trans (hwF.below (by omega) (by have := hb1.size; omega))
  clear hwF hb1 B1
  go_wp2
  rw [hWF.out]
  obtain ⟨q0, q1, q2, _, _, _⟩ := bF.three
  exact bodyPost_ret (v := .tuple #[.agg #[.int .i64 k, .slice aI nI cI, .slice aR nR cR], .bool true]) (by simp [results, Tryz.results22, go_sem, q0, q1, q2]) rfl ⟨rfl, HB.out⟩

set_option maxHeartbeats 1000000 in
set_option maxRecDepth 100000 in
theorem foundObj_no (k : Int) (aI : Option Addr) (nI cI : Nat) (aR : Option Addr) (nR cR : Nat) (s : ByteArray) (w : World) (hg : ErrT w) : Calls Tryz.prog 22 #[.agg #[.int .i64 k, .slice aI nI cI, .slice aR nR cR], .iface 61 (.agg #[.string s])] w fun e w' => e = .returned (.tuple #[.agg #[.int .i64 0, .slice none 0 0, .slice none 0 0], .bool false]) ∧ Below w.heap.size w w' := by
  obtain ⟨W, hW, b0, b1, hbW, hsW⟩ := boxes2 w [.int .i64 k, .slice aI nI cI, .slice aR nR cR] [.int .i64 0, .slice none 0 0, .slice none 0 0] 26 26
  go_enter Tryz.func22, Tryz.ntmps22
  go_wp2_with fail
  rw [hW.out]
  refine (isNo_hit s W (hg.keep hbW)).mono ?_
  rintro e w1 ⟨rfl, hb1⟩
  have B1 : Below w.heap.size w w1 := hbW.trans (hb1.mono hbW.size)
  have bR := b1.below hb1 b1.lt
  obtain ⟨y0, y1, y2, f0, f1, f2⟩ := bR.three
  obtain ⟨WF, hWF, bF, hwF, _⟩ := box3_fill bR (.int .i64 0) (.slice none 0 0) (.slice none 0 0)
  have HB : Hid (Below w.heap.size w WF) := B1.trans (hwF.below (by omega) (by have := hb1.size; omega))
  clear hwF hb1 B1
  go_wp2
  rw [hWF.out]
  obtain ⟨q0, q1, q2, _, _, _⟩ := bF.three
  exact bodyPost_ret (v := .tuple #[.agg #[.int .i64 0, .slice none 0 0, .slice none 0 0], .bool false]) (by simp [results, Tryz.results22, go_sem, q0, q1, q2]) rfl ⟨rfl, HB.out⟩
end Go.Proofs.YtdibmepjbabnnabGreatDoor

/- The walks of impl.readObj and impl.GetObj. -/
namespace Go.Proofs.YtdibmepjbabnnabGreatDoor
open Go.RowKit

/-- What readObj answers. -/
def ReadAns (w' : World) (lo : Nat) (x : Option ObjV) (e : Ending) : Prop := match x with
  | some o => ∃ aI cI aR cR ev, e = .returned (.tuple #[.agg #[.int .i64 o.kind, .slice aI o.ints.length cI, .slice aR o.refs.length cR], ev]) ∧ IsErr (okB o) (.returned ev) ∧ OwnO w' lo w'.heap.size aI cI aR cR o
  | none => ∃ s, e = .returned (.tuple #[.agg #[.int .i64 0, .slice none 0 0, .slice none 0 0], .iface 61 (.agg #[.string s])])
theorem readAns_none {w' : World} {lo : Nat} {x : Option ObjV} (h : x = none) (s : ByteArray) : ReadAns w' lo x (.returned (.tuple #[.agg #[.int .i64 0, .slice none 0 0, .slice none 0 0], .iface 61 (.agg #[.string s])])) := by
  subst h; exact ⟨s, rfl⟩
theorem readAns_some {w' : World} {lo : Nat} {x : Option ObjV} {o : ObjV} (h : x = some o) {aI : Option Addr} {cI : Nat} {aR : Option Addr} {cR : Nat} {ev : Value} (he : IsErr (okB o) (.returned ev)) (ho : OwnO w' lo w'.heap.size aI cI aR cR o) : ReadAns w' lo x (.returned (.tuple #[.agg #[.int .i64 o.kind, .slice aI o.ints.length cI, .slice aR o.refs.length cR], ev])) := by
  subst h; exact ⟨aI, cI, aR, cR, ev, rfl, he, ho⟩
theorem isErr_ret {ok : Bool} {e : Ending} (h : IsErr ok e) : ∃ ev, e = .returned ev := by
  rcases h with ⟨_, rfl⟩ | ⟨_, s, rfl⟩
  · exact ⟨_, rfl⟩
  · exact ⟨_, rfl⟩

theorem readAll_none0 {zs : List Int} (h : getAt zs 0 = none) : readAll zs = none := by unfold readAll; rw [h]
theorem readAll_none1 {zs : List Int} {k : Int} {p : Nat} (h : getAt zs 0 = some (k, p)) (h1 : partsAt zs p = none) : readAll zs = none := by unfold readAll; rw [h]; simp only; rw [h1]
theorem readAll_none2 {zs : List Int} {k : Int} {p q : Nat} {is : List Int} (h : getAt zs 0 = some (k, p)) (h1 : partsAt zs p = some (is, q)) (h2 : partsAt zs q = none) : readAll zs = none := by
  unfold readAll; rw [h]; simp only; rw [h1]; simp only; rw [h2]
theorem readAll_at {zs : List Int} {k : Int} {p q r : Nat} {is rs : List Int} (h : getAt zs 0 = some (k, p)) (h1 : partsAt zs p = some (is, q)) (h2 : partsAt zs q = some (rs, r)) : readAll zs = if r = zs.length then some ⟨k, is, rs⟩ else none := by
  unfold readAll; rw [h]; simp only; rw [h1]; simp only; rw [h2]

set_option maxHeartbeats 4000000 in
set_option maxRecDepth 100000 in
theorem readObj_any (a : Option Addr) (c : Nat) (zs : List Int) (w : World) (hr : Reads w a zs) (hl : zs.length ≤ 70368744177664) (hcap : zs.length ≤ c) :
    Calls Tryz.prog 23 #[.slice a zs.length c] w fun e w' => ReadAns w' w.heap.size (readAll zs) e ∧ Below w.heap.size w w' := by
  generalize hXX : readAll zs = X
  have HXX : Hid (readAll zs = X) := hXX
  clear hXX
  obtain ⟨W, hW, b0, hbW, hsW⟩ := boxes1 w [.int .i64 0, .slice none 0 0, .slice none 0 0] 26
  obtain ⟨x0, x1, x2, f0, f1, f2⟩ := b0.three
  have hrW := hr.below hbW
  have hblt := b0.lt
  cases hg : getAt zs 0 with
  | none =>
    have HX : Hid (X = none) := HXX.out ▸ readAll_none0 hg
    have HG : Hid (_ = _) := hg
    clear hg
    obtain ⟨WF, hWF, bF, hwF, _⟩ := box3_fill b0 (.int .i64 0) (.slice none 0 0) (.slice none 0 0)
    have HB : Hid (Below w.heap.size w WF) := hbW.trans (hwF.below (by omega) (by omega))
    clear hwF
    go_enter Tryz.func23, Tryz.ntmps23
    go_wp2_with fail
    rw [hW.out]
    refine (implGetInt_any a c zs 0 W hrW hl hcap).mono ?_
    rintro e w' ⟨rfl, rfl⟩
    rw [HG.out]
    simp only [triple]
    go_wp2
    rw [hWF.out]
    obtain ⟨q0, q1, q2, _, _, _⟩ := bF.three
    exact bodyPost_ret (v := .tuple #[.agg #[.int .i64 0, .slice none 0 0, .slice none 0 0], .iface 61 (.agg #[.string _])]) (by simp [results, Tryz.results23, go_sem, q0, q1, q2]; rfl) rfl ⟨readAns_none HX.out _, HB.out⟩
  | some t =>
  obtain ⟨k, p⟩ := t
  have HG : Hid (_ = _) := hg
  go_enter Tryz.func23, Tryz.ntmps23
  go_wp2_with fail
  rw [hW.out]
  refine (implGetInt_any a c zs 0 W hrW hl hcap).mono ?_
  rintro e w' ⟨rfl, rfl⟩
  rw [HG.out]
  simp only [triple]
  go_wp2_with fail
  refine (readParts_any a c zs p w' hrW hl hcap).mono ?_
  rintro e w1 ⟨hans, hb1⟩
  have B1 : Below w.heap.size w w1 := hbW.trans (hb1.mono hbW.size)
  have b1 := b0.below hb1 b0.lt
  obtain ⟨y0, y1, y2, e0, e1, e2⟩ := b1.three
  have hs1 := hb1.size
  cases hp : partsAt zs p with
  | none =>
    rw [hp] at hans
    obtain ⟨s, rfl⟩ := hans
    have HX : Hid (X = none) := HXX.out ▸ readAll_none1 hg hp
    clear hg hp
    obtain ⟨WF, hWF, bF, hwF, _⟩ := box3_fill b1 (.int .i64 0) (.slice none 0 0) (.slice none 0 0)
    have HB : Hid (Below w.heap.size w WF) := B1.trans (hwF.below (by omega) (by omega))
    clear hwF
    go_wp2
    rw [hWF.out]
    obtain ⟨q0, q1, q2, _, _, _⟩ := bF.three
    exact bodyPost_ret (v := .tuple #[.agg #[.int .i64 0, .slice none 0 0, .slice none 0 0], .iface 61 (.agg #[.string s])]) (by simp [results, Tryz.results23, go_sem, q0, q1, q2]) rfl ⟨readAns_none HX.out _, HB.out⟩
  | some t =>
  obtain ⟨is, q⟩ := t
  rw [hp] at hans
  obtain ⟨aI, cI, rfl, hoI⟩ := hans
  have hq5 := (partsAt_canon zs hr.1 p is q hp).1
  go_wp2_with fail
  refine (readParts_any a c zs q w1 (hr.below B1) hl hcap).mono ?_
  rintro e w2 ⟨hans, hb2⟩
  have B2 : Below w.heap.size w w2 := B1.trans (hb2.mono B1.size)
  have b2 := b1.below hb2 b1.lt
  obtain ⟨z0, z1, z2, g0, g1, g2⟩ := b2.three
  have hs2 := hb2.size
  have hoI2 := hoI.below hb2
  clear y0 y1 y2 e0 e1 e2 x0 x1 x2 f0 f1 f2
  cases hp2 : partsAt zs q with
  | none =>
    rw [hp2] at hans
    obtain ⟨s, rfl⟩ := hans
    have HX : Hid (X = none) := HXX.out ▸ readAll_none2 hg hp hp2
    clear hg hp hp2
    obtain ⟨WF, hWF, bF, hwF, _⟩ := box3_fill b2 (.int .i64 0) (.slice none 0 0) (.slice none 0 0)
    have HB : Hid (Below w.heap.size w WF) := B2.trans (hwF.below (by omega) (by omega))
    clear hwF
    go_wp2
    rw [hWF.out]
    obtain ⟨q0, q1, q2, _, _, _⟩ := bF.three
    exact bodyPost_ret (v := .tuple #[.agg #[.int .i64 0, .slice none 0 0, .slice none 0 0], .iface 61 (.agg #[.string s])]) (by simp [results, Tryz.results23, go_sem, q0, q1, q2]) rfl ⟨readAns_none HX.out _, HB.out⟩
  | some t =>
  obtain ⟨rs, r⟩ := t
  rw [hp2] at hans
  obtain ⟨aR, cR, rfl, hoR⟩ := hans
  have hr5 := (partsAt_canon zs hr.1 q rs r hp2).1
  have hX := readAll_at hg hp hp2
  clear hg hp hp2
  by_cases hrl : r = zs.length
  case neg =>
    have HX : Hid (X = none) := by rw [Hid, ← HXX.out, hX, if_neg hrl]
    have hrb : ((r : Int) == (zs.length : Int)) = false := by simp; omega
    clear hX hrl
    obtain ⟨WF, hWF, bF, hwF, _⟩ := box3_fill b2 (.int .i64 0) (.slice none 0 0) (.slice none 0 0)
    have HB : Hid (Below w.heap.size w WF) := B2.trans (hwF.below (by omega) (by omega))
    clear hwF
    go_wp2
    rw [hWF.out]
    obtain ⟨q0, q1, q2, _, _, _⟩ := bF.three
    exact bodyPost_ret (v := .tuple #[.agg #[.int .i64 0, .slice none 0 0, .slice none 0 0], .iface 61 (.agg #[.string _])]) (by simp [results, Tryz.results23, go_sem, q0, q1, q2]; rfl) rfl ⟨readAns_none HX.out _, HB.out⟩
  case pos =>
  have HX : Hid (X = some ⟨k, is, rs⟩) := by rw [Hid, ← HXX.out, hX, if_pos hrl]
  have hrb : ((r : Int) == (zs.length : Int)) = true := by simp; omega
  clear hX hrl
  obtain ⟨W3, hW3, b3, hbW3, hsW3⟩ := boxes1 w2 [.int .i64 k, .slice aI is.length cI, .slice aR rs.length cR] 26
  have hO3 : OwnO W3 w'.heap.size w2.heap.size aI cI aR cR ⟨k, is, rs⟩ := ⟨(hoI2.below hbW3).widen (Nat.le_refl _) (by omega) (by omega), (hoR.below hbW3).widen (by omega) (by omega) (by omega), fun j hj hj' => by have := (hoI.lt j hj).2; have := (hoR.lt j hj').1; omega⟩
  have b2' := b2.below hbW3 b2.lt
  have hkeep : ∀ w'', Below W3.heap.size W3 w'' → Box w'' w2.heap.size [.int .i64 k, .slice aI is.length cI, .slice aR rs.length cR] 26 ∧ Box w'' w.heap.size [.int .i64 0, .slice none 0 0, .slice none 0 0] 26 :=
    fun w'' hh => ⟨b3.below hh b3.lt, b2'.below hh b2'.lt⟩
  have B3 : Below w.heap.size w W3 := B2.trans (hbW3.mono B2.size)
  go_wp2_with fail
  rw [hW3.out]
  have hk0 := hkeep W3 (Below.refl _ _)
  have hcells : ∀ w'', Below W3.heap.size W3 w'' → (w''.cell? ⟨w2.heap.size, 0, none⟩ = some (.int .i64 k) ∧ w''.cell? ⟨w2.heap.size, 1, none⟩ = some (.slice aI is.length cI) ∧ w''.cell? ⟨w2.heap.size, 2, none⟩ = some (.slice aR rs.length cR)) ∧ (w''.cell? ⟨w.heap.size, 0, none⟩ = some (.int .i64 0) ∧ w''.cell? ⟨w.heap.size, 1, none⟩ = some (.slice none 0 0) ∧ w''.cell? ⟨w.heap.size, 2, none⟩ = some (.slice none 0 0)) ∧ (w''.frozen? ⟨w.heap.size, 0, none⟩ = false ∧ w''.frozen? ⟨w.heap.size, 1, none⟩ = false ∧ w''.frozen? ⟨w.heap.size, 2, none⟩ = false) := by
    intro w'' hh
    obtain ⟨ba, bb⟩ := hkeep w'' hh
    exact ⟨⟨ba.cell 0 _ rfl, ba.cell 1 _ rfl, ba.cell 2 _ rfl⟩, ⟨bb.cell 0 _ rfl, bb.cell 1 _ rfl, bb.cell 2 _ rfl⟩, bb.frozen 0, bb.frozen 1, bb.frozen 2⟩
  have hh := hcells W3 (Below.refl _ _)
  clear hk0
  have hne : w.heap.size < w2.heap.size := by omega
  have hne' : ¬ (w2.heap.size = w.heap.size) := by omega
  go_region_held3 (fun w'' => w''.cell? ⟨w2.heap.size, 0, none⟩ = some (.int .i64 k) ∧ w''.cell? ⟨w2.heap.size, 1, none⟩ = some (.slice aI is.length cI) ∧ w''.cell? ⟨w2.heap.size, 2, none⟩ = some (.slice aR rs.length cR))
    (first | exact (hcells _ hw5).1 | exact ⟨((((hkeep _ hw5).1.other hne').other hne').other hne').cell 0 _ rfl, ((((hkeep _ hw5).1.other hne').other hne').other hne').cell 1 _ rfl, ((((hkeep _ hw5).1.other hne').other hne').other hne').cell 2 _ rfl⟩ | go_keep)
    (first | (go_at_call 21; refine (checkObj_any ⟨k, is, rs⟩ aI cI aR cR _ hO3.reads.drew (by simp only; omega) (by simp only; omega)).mono ?_; rintro e w5 ⟨hie, hb5⟩; obtain ⟨ev, rfl⟩ := isErr_ret hie; have hw5 : Below W3.heap.size W3 w5 := (Below.refl _ _).drew.trans hb5; obtain ⟨⟨m0, m1, m2⟩, ⟨y0, y1, y2⟩, e0, e1, e2⟩ := hcells _ hw5))
  obtain ⟨WF, hWF, bF, hwF, hsF⟩ := box3_fill (hkeep _ hw5).2 (.int .i64 k) (.slice aI is.length cI) (.slice aR rs.length cR)
  rw [hWF.out]
  go_wp2
  obtain ⟨q0, q1, q2, _, _, _⟩ := bF.three
  have hs5 := hw5.size
  have hOF : OwnO WF w'.heap.size w2.heap.size aI cI aR cR ⟨k, is, rs⟩ := (hO3.below hw5).within hwF (.inr (by omega))
  exact bodyPost_ret (v := .tuple #[.agg #[.int .i64 k, .slice aI is.length cI, .slice aR rs.length cR], ev]) (by simp [results, Tryz.results23, go_sem, q0, q1, q2]) rfl ⟨readAns_some HX.out hie (hOF.widen (by omega) (by omega) (Nat.le_refl _)), (B3.trans (hw5.mono B3.size)).trans (hwF.below (Nat.le_refl _) (by omega))⟩

set_option maxHeartbeats 4000000 in
set_option maxRecDepth 100000 in
theorem implGetObj_any (a : Option Addr) (c : Nat) (zs : List Int) (w : World) (hg : ErrT w) (hr : Reads w a zs) (hl : zs.length ≤ 70368744177664) (hcap : zs.length ≤ c) :
    Calls Tryz.prog 10 #[.slice a zs.length c] w fun e w' => ∃ aI cI aR cR o ok, e = .returned (.tuple #[.agg #[.int .i64 o.kind, .slice aI o.ints.length cI, .slice aR o.refs.length cR], .bool ok]) ∧ Hid (getPair zs = (o, ok)) ∧ OwnO w' w.heap.size w'.heap.size aI cI aR cR o ∧ Below w.heap.size w w' := by
  have HN : Hid (readAll zs = none → getPair zs = (noO, false)) := getPair_none zs
  have HBD : Hid (∀ o, readAll zs = some o → okB o = false → getPair zs = (noO, false)) := fun o => getPair_bad zs o
  have HGD : Hid (∀ o, readAll zs = some o → okB o = true → getPair zs = (o, true)) := fun o => getPair_some zs hr.1 o
  generalize getPair zs = PR at *
  obtain ⟨W, hW, b0, hbW, hsW⟩ := boxes1 w [.int .i64 0, .slice none 0 0, .slice none 0 0] 26
  go_enter Tryz.func10, Tryz.ntmps10
  go_wp2_with fail
  rw [hW.out]
  refine (readObj_any a c zs W (hr.below hbW) hl hcap).mono ?_
  rintro e w1 ⟨hans, hb1⟩
  have B1 : Below w.heap.size w w1 := hbW.trans (hb1.mono hbW.size)
  have b1 := b0.below hb1 b0.lt
  have hs1 := hb1.size
  cases hx : readAll zs with
  | none =>
    have HP : Hid (_ = _) := HN.out hx
    rw [hx] at hans
    obtain ⟨s, rfl⟩ := hans
    clear hx
    go_wp2_with fail
    refine (foundObj_no 0 none 0 0 none 0 0 s w1 (hg.keep B1)).mono ?_
    rintro e w2 ⟨rfl, hb2⟩
    have B2 : Below w.heap.size w w2 := B1.trans (hb2.mono B1.size)
    have b2 := b1.below hb2 b1.lt
    have hs2 := hb2.size
    obtain ⟨y0, y1, y2, f0, f1, f2⟩ := b2.three
    obtain ⟨WF, hWF, bF, hwF, _⟩ := box3_fill b2 (.int .i64 0) (.slice none 0 0) (.slice none 0 0)
    have HB : Hid (Below w.heap.size w WF) := B2.trans (hwF.below (by omega) (by omega))
    clear hwF
    go_wp2
    rw [hWF.out]
    obtain ⟨q0, q1, q2, _, _, _⟩ := bF.three
    exact bodyPost_ret (v := .tuple #[.agg #[.int .i64 0, .slice none 0 0, .slice none 0 0], .bool false]) (by simp [results, Tryz.results10, go_sem, q0, q1, q2]) rfl ⟨none, 0, none, 0, noO, false, rfl, HP.out, ⟨ownI_nil _ _ _ (Nat.le_refl _), ownI_nil _ _ _ (Nat.le_refl _), fun k hk => by cases hk⟩, HB.out⟩
  | some o =>
    rw [hx] at hans
    obtain ⟨aI, cI, aR, cR, ev, rfl, hie, ho⟩ := hans
    rcases hie with ⟨hok, hev⟩ | ⟨hok, s, hev⟩
    · obtain rfl : ev = .nilIface := by simpa using hev
      have HP : Hid (_ = _) := HGD.out o hx hok
      clear hx hok hev
      go_wp2_with fail
      refine (foundObj_ok o.kind aI o.ints.length cI aR o.refs.length cR w1).mono ?_
      rintro e w2 ⟨rfl, hb2⟩
      have B2 : Below w.heap.size w w2 := B1.trans (hb2.mono B1.size)
      have b2 := b1.below hb2 b1.lt
      have hs2 := hb2.size
      obtain ⟨y0, y1, y2, f0, f1, f2⟩ := b2.three
      obtain ⟨WF, hWF, bF, hwF, hsF⟩ := box3_fill b2 (.int .i64 o.kind) (.slice aI o.ints.length cI) (.slice aR o.refs.length cR)
      have HB : Hid (Below w.heap.size w WF) := B2.trans (hwF.below (by omega) (by omega))
      have HO : Hid (OwnO WF w.heap.size WF.heap.size aI cI aR cR o) := ((ho.below hb2).within hwF (.inr (by omega))).widen (by omega) (by omega) (Nat.le_refl _)
      clear hwF
      go_wp2
      rw [hWF.out]
      obtain ⟨q0, q1, q2, _, _, _⟩ := bF.three
      exact bodyPost_ret (v := .tuple #[.agg #[.int .i64 o.kind, .slice aI o.ints.length cI, .slice aR o.refs.length cR], .bool true]) (by simp [results, Tryz.results10, go_sem, q0, q1, q2]) rfl ⟨aI, cI, aR, cR, o, true, rfl, HP.out, HO.out, HB.out⟩
    · obtain rfl : ev = _ := by simpa using hev
      have HP : Hid (_ = _) := HBD.out o hx hok
      clear hx hok hev
      go_wp2_with fail
      refine (foundObj_no o.kind aI o.ints.length cI aR o.refs.length cR s w1 (hg.keep B1)).mono ?_
      rintro e w2 ⟨rfl, hb2⟩
      have B2 : Below w.heap.size w w2 := B1.trans (hb2.mono B1.size)
      have b2 := b1.below hb2 b1.lt
      have hs2 := hb2.size
      obtain ⟨y0, y1, y2, f0, f1, f2⟩ := b2.three
      obtain ⟨WF, hWF, bF, hwF, _⟩ := box3_fill b2 (.int .i64 0) (.slice none 0 0) (.slice none 0 0)
      have HB : Hid (Below w.heap.size w WF) := B2.trans (hwF.below (by omega) (by omega))
      clear hwF
      go_wp2
      rw [hWF.out]
      obtain ⟨q0, q1, q2, _, _, _⟩ := bF.three
      exact bodyPost_ret (v := .tuple #[.agg #[.int .i64 0, .slice none 0 0, .slice none 0 0], .bool false]) (by simp [results, Tryz.results10, go_sem, q0, q1, q2]) rfl ⟨none, 0, none, 0, noO, false, rfl, HP.out, ⟨ownI_nil _ _ _ (Nat.le_refl _), ownI_nil _ _ _ (Nat.le_refl _), fun k hk => by cases hk⟩, HB.out⟩
end Go.Proofs.YtdibmepjbabnnabGreatDoor

/- The walks of impl.parseObj and impl.ParseObj. -/
namespace Go.Proofs.YtdibmepjbabnnabGreatDoor
open Go.RowKit

/-- What parseObj reads, right or not. -/
def readText (L : List Int) : Option ObjV := match cutOf 40 L with
  | none => none
  | some (kt, r1) => match cutOf 59 r1 with
    | none => none
    | some (it, r2) => match cutOf 41 r2 with
      | none => none
      | some (rt, r3) => if r3 = [] then (match pNum kt, partsBy pNum it, partsBy pNum rt with
        | some k, some is, some rs => some ⟨k, is, rs⟩
        | _, _, _ => none) else none
theorem implParse_read (L : List Int) : implParse L = match readText L with
    | none => none
    | some o => if okB o then some o else none := by
  unfold implParse readText
  cases cutOf 40 L with
  | none => rfl
  | some p =>
    obtain ⟨kt, r1⟩ := p
    simp only
    cases cutOf 59 r1 with
    | none => rfl
    | some p =>
      obtain ⟨it, r2⟩ := p
      simp only
      cases cutOf 41 r2 with
      | none => rfl
      | some p =>
        obtain ⟨rt, r3⟩ := p
        simp only
        by_cases h : r3 = []
        · rw [if_pos h, if_pos h]
          unfold okO
          cases pNum kt <;> cases partsBy pNum it <;> cases partsBy pNum rt <;> rfl
        · rw [if_neg h, if_neg h]

/-- What is answered of a text. -/
def parsePair (L : List Int) : ObjV × Bool := match specParse L with
  | some o => (o, true)
  | none => (noO, false)
theorem parsePair_none {L : List Int} (h : readText L = none) : parsePair L = (noO, false) := by
  unfold parsePair; rw [← parse_one, implParse_read, h]
theorem parsePair_bad {L : List Int} {o : ObjV} (h : readText L = some o) (hok : okB o = false) : parsePair L = (noO, false) := by
  unfold parsePair; rw [← parse_one, implParse_read, h]; simp [hok]
theorem parsePair_some {L : List Int} {o : ObjV} (h : readText L = some o) (hok : okB o = true) : parsePair L = (o, true) := by
  unfold parsePair; rw [← parse_one, implParse_read, h]; simp [hok]

theorem readText_none1 {L : List Int} (h : cutOf 40 L = none) : readText L = none := by unfold readText; rw [h]
theorem readText_none2 {L kt r1 : List Int} (h : cutOf 40 L = some (kt, r1)) (h2 : cutOf 59 r1 = none) : readText L = none := by unfold readText; rw [h]; simp only; rw [h2]
theorem readText_none3 {L kt r1 it r2 : List Int} (h : cutOf 40 L = some (kt, r1)) (h2 : cutOf 59 r1 = some (it, r2)) (h3 : cutOf 41 r2 = none) : readText L = none := by
  unfold readText; rw [h]; simp only; rw [h2]; simp only; rw [h3]
theorem readText_at {L kt r1 it r2 rt r3 : List Int} (h : cutOf 40 L = some (kt, r1)) (h2 : cutOf 59 r1 = some (it, r2)) (h3 : cutOf 41 r2 = some (rt, r3)) : readText L = if r3 = [] then (match pNum kt, partsBy pNum it, partsBy pNum rt with
        | some k, some is, some rs => some ⟨k, is, rs⟩
        | _, _, _ => none) else none := by
  unfold readText; rw [h]; simp only; rw [h2]; simp only; rw [h3]

/-- The number of parts that are parsed is no more than the text is long. -/
theorem allBy_len (f : List Int → Option Int) : ∀ (ps : List (List Int)) (l : List Int), allBy f ps = some l → l.length = ps.length := by
  intro ps
  induction ps with
  | nil => intro l h; simp [allBy] at h; subst h; rfl
  | cons p r ih =>
    intro l h
    unfold allBy at h
    cases hp : f p with
    | none => rw [hp] at h; cases h
    | some z =>
      rw [hp] at h
      cases hr : allBy f r with
      | none => simp [hr] at h
      | some l' =>
        simp only [hr, Option.map_some, Option.some.injEq] at h
        subst h
        simp [ih l' hr]
theorem partsBy_len (f : List Int → Option Int) (L l : List Int) (h : partsBy f L = some l) : l.length ≤ L.length + 1 := by
  unfold partsBy at h
  split at h
  · simp only [Option.some.injEq] at h
    subst h; simp
  · rw [allBy_len f _ _ h]; exact split_len 44 L

theorem cutAns_true {s : ByteArray} {c : UInt8} {A B : ByteArray} (h : CutAns s c A B true) : cutOf (toI c) (sBytes s) = some (sBytes A, sBytes B) := by
  rcases h with ⟨_, h⟩ | ⟨h, _⟩
  · exact h
  · cases h
theorem cutAns_false {s : ByteArray} {c : UInt8} {A B : ByteArray} (h : CutAns s c A B false) : cutOf (toI c) (sBytes s) = none := by
  rcases h with ⟨h, _⟩ | ⟨_, h⟩
  · cases h
  · exact h
theorem toI_40 : toI 40 = 40 := rfl
theorem toI_59 : toI 59 = 59 := rfl
theorem toI_41 : toI 41 = 41 := rfl

set_option maxHeartbeats 8000000 in
set_option maxRecDepth 100000 in
theorem parseObj_any (s : ByteArray) (w : World) (he : EnvP w) (hs : s.size ≤ 1048576) :
    Calls Tryz.prog 24 #[.string s] w fun e w' => ReadAns w' w.heap.size (readText (sBytes s)) e ∧ Below w.heap.size w w' := by
  generalize hXX : readText (sBytes s) = X
  have HXX : Hid (readText (sBytes s) = X) := hXX
  clear hXX
  obtain ⟨W, hW, b0, hbW, hsW⟩ := boxes1 w [.int .i64 0, .slice none 0 0, .slice none 0 0] 26
  have hsW' : w.heap.size < W.heap.size := b0.lt
  clear hsW
  go_enter Tryz.func24, Tryz.ntmps24
  go_wp2_with fail
  rw [hW.out]
  refine (cutS_any s 40 W (he.keep hbW) hs).mono ?_
  rintro e w1 ⟨K, R1, f1, rfl, hc1, hk1, hr1, hb1⟩
  have B1 : Below w.heap.size w w1 := hbW.trans (hb1.mono hbW.size)
  have hs1 := hb1.size
  go_wp2_with fail
  refine (cutS_any R1 59 w1 (he.keep B1) (by omega)).mono ?_
  rintro e w2 ⟨I, R2, f2, rfl, hc2, hk2, hr2, hb2⟩
  have B2 : Below w.heap.size w w2 := B1.trans (hb2.mono B1.size)
  have hs2 := hb2.size
  go_wp2_with fail
  refine (cutS_any R2 41 w2 (he.keep B2) (by omega)).mono ?_
  rintro e w3 ⟨F, R3, f3, rfl, hc3, hk3, hr3, hb3⟩
  have B3 : Below w.heap.size w w3 := B2.trans (hb3.mono B2.size)
  have hs3 := hb3.size
  have M3 : Below W.heap.size W w3 := (hb1.trans (hb2.mono hs1)).trans (hb3.mono (by omega))
  have b3 := b0.below M3 b0.lt
  obtain ⟨y0, y1, y2, e0, e1, e2⟩ := b3.three
  have he3 := he.keep B3
  -- what is answered where the signs are wrong
  have hbad : ∀ (G : Prop), (X = none → G) → (f1 = false ∨ f2 = false ∨ f3 = false ∨ ¬ sBytes R3 = []) → G := by
    intro G hG hf
    apply hG
    rw [← HXX.out]
    cases f1 with
    | false => have := cutAns_false hc1; rw [toI_40] at this; exact readText_none1 this
    | true =>
      have h1 := cutAns_true hc1
      rw [toI_40] at h1
      cases f2 with
      | false => have := cutAns_false hc2; rw [toI_59] at this; exact readText_none2 h1 this
      | true =>
        have h2 := cutAns_true hc2
        rw [toI_59] at h2
        cases f3 with
        | false => have := cutAns_false hc3; rw [toI_41] at this; exact readText_none3 h1 h2 this
        | true =>
          have h3 := cutAns_true hc3
          rw [toI_41] at h3
          rw [readText_at h1 h2 h3, if_neg]
          rcases hf with h | h | h | h
          · cases h
          · cases h
          · cases h
          · exact h
  by_cases hgood : f1 = true ∧ f2 = true ∧ f3 = true ∧ sBytes R3 = []
  case neg =>
    have HX : Hid (X = none) := by
      apply hbad _ id
      cases f1 <;> cases f2 <;> cases f3 <;> simp_all
    obtain ⟨WF, hWF, bF, hwF, _⟩ := box3_fill b3 (.int .i64 0) (.slice none 0 0) (.slice none 0 0)
    have HB : Hid (Below w.heap.size w WF) := B3.trans (hwF.below (by omega) (by omega))
    have hcs : f1 = false ∨ (f1 = true ∧ f2 = false) ∨ (f1 = true ∧ f2 = true ∧ f3 = false) ∨ (f1 = true ∧ f2 = true ∧ f3 = true ∧ (R3.toList == []) = false) := by
      cases f1 with
      | false => exact .inl rfl
      | true =>
        cases f2 with
        | false => exact .inr (.inl ⟨rfl, rfl⟩)
        | true =>
          cases f3 with
          | false => exact .inr (.inr (.inl ⟨rfl, rfl, rfl⟩))
          | true =>
            refine .inr (.inr (.inr ⟨rfl, rfl, rfl, ?_⟩))
            rw [beq_eq_false_iff_ne]
            intro e
            apply hgood
            refine ⟨rfl, rfl, rfl, ?_⟩
            rw [ByteArray.toList_eq] at e
            rw [sBytes_toI, e]; rfl
    clear hwF hbad hgood hc1 hc2 hc3
    rcases hcs with rfl | ⟨rfl, rfl⟩ | ⟨rfl, rfl, rfl⟩ | ⟨rfl, rfl, rfl, hne⟩
    all_goals
      go_wp2
      rw [hWF.out]
      obtain ⟨q0, q1, q2, _, _, _⟩ := bF.three
      exact bodyPost_ret (v := .tuple #[.agg #[.int .i64 0, .slice none 0 0, .slice none 0 0], .iface 61 (.agg #[.string _])]) (by simp [results, Tryz.results24, go_sem, q0, q1, q2]; rfl) rfl ⟨readAns_none HX.out _, HB.out⟩
  case pos =>
  obtain ⟨rfl, rfl, rfl, hr0⟩ := hgood
  have h1 := cutAns_true hc1
  have h2 := cutAns_true hc2
  have h3 := cutAns_true hc3
  rw [toI_40] at h1
  rw [toI_59] at h2
  rw [toI_41] at h3
  have hX := readText_at h1 h2 h3
  rw [if_pos hr0, HXX.out] at hX
  have hempty : (R3.toList == []) = true := by
    have : R3 = ⟨#[]⟩ := sBytes_inj (by rw [hr0]; rfl)
    rw [this, ByteArray.toList_eq]; rfl
  clear hbad h1 h2 h3 hc1 hc2 hc3 hr0 HXX
  have hpn := parseNumber_any K w3 he3 (by omega)
  cases hkn : pNum (sBytes K) with
  | none =>
    rw [hkn] at hpn hX
    have HX : Hid (X = none) := hX
    clear hX hkn
    simp only [numAns] at hpn
    go_wp2_with fail
    refine hpn.mono ?_
    clear hpn
    rintro e w4 ⟨rfl, hb4⟩
    have hs4 := hb4.size
    have B4 : Below w.heap.size w w4 := B3.trans (hb4.mono B3.size)
    have b4 := b3.below hb4 b3.lt
    clear y0 y1 y2 e0 e1 e2
    obtain ⟨y0, y1, y2, e0, e1, e2⟩ := b4.three
    obtain ⟨WF, hWF, bF, hwF, _⟩ := box3_fill b4 (.int .i64 0) (.slice none 0 0) (.slice none 0 0)
    have HB : Hid (Below w.heap.size w WF) := B4.trans (hwF.below (by omega) (by omega))
    clear hwF
    go_wp2
    rw [hWF.out]
    obtain ⟨q0, q1, q2, _, _, _⟩ := bF.three
    exact bodyPost_ret (v := .tuple #[.agg #[.int .i64 0, .slice none 0 0, .slice none 0 0], .iface 61 (.agg #[.string _])]) (by simp [results, Tryz.results24, go_sem, q0, q1, q2]; rfl) rfl ⟨readAns_none HX.out _, HB.out⟩
  | some k =>
  rw [hkn] at hpn hX
  simp only [numAns] at hpn
  clear hkn
  go_wp2_with fail
  refine hpn.mono ?_
  clear hpn
  rintro e w4 ⟨rfl, hb4⟩
  have hs4 := hb4.size
  have B4 : Below w.heap.size w w4 := B3.trans (hb4.mono B3.size)
  have b4 := b3.below hb4 b3.lt
  clear y0 y1 y2 e0 e1 e2
  go_wp2_with fail
  refine (parseParts_any I w4 (he.keep B4) (by omega)).mono ?_
  rintro e w5 ⟨hans, hb5⟩
  have hs5 := hb5.size
  have B5 : Below w.heap.size w w5 := B4.trans (hb5.mono B4.size)
  have b5 := b4.below hb5 b4.lt
  obtain ⟨y0, y1, y2, e0, e1, e2⟩ := b5.three
  cases hin : partsBy pNum (sBytes I) with
  | none =>
    rw [hin] at hans hX
    obtain ⟨sI, rfl⟩ := hans
    have HX : Hid (X = none) := hX
    clear hX hin
    obtain ⟨WF, hWF, bF, hwF, _⟩ := box3_fill b5 (.int .i64 0) (.slice none 0 0) (.slice none 0 0)
    have HB : Hid (Below w.heap.size w WF) := B5.trans (hwF.below (by omega) (by omega))
    clear hwF
    go_wp2
    rw [hWF.out]
    obtain ⟨q0, q1, q2, _, _, _⟩ := bF.three
    exact bodyPost_ret (v := .tuple #[.agg #[.int .i64 0, .slice none 0 0, .slice none 0 0], .iface 61 (.agg #[.string sI])]) (by simp [results, Tryz.results24, go_sem, q0, q1, q2]) rfl ⟨readAns_none HX.out _, HB.out⟩
  | some is =>
  have hil := partsBy_len pNum _ _ hin
  rw [sBytes_len] at hil
  rw [hin] at hans hX
  obtain ⟨aI, cI, rfl, hoI⟩ := hans
  clear hin y0 y1 y2 e0 e1 e2
  go_wp2_with fail
  refine (parseParts_any F w5 (he.keep B5) (by omega)).mono ?_
  rintro e w6 ⟨hans, hb6⟩
  have hs6 := hb6.size
  have B6 : Below w.heap.size w w6 := B5.trans (hb6.mono B5.size)
  have b6 := b5.below hb6 b5.lt
  obtain ⟨y0, y1, y2, e0, e1, e2⟩ := b6.three
  have hoI6 := hoI.below hb6
  cases hrn : partsBy pNum (sBytes F) with
  | none =>
    rw [hrn] at hans hX
    obtain ⟨sI, rfl⟩ := hans
    have HX : Hid (X = none) := hX
    clear hX hrn
    obtain ⟨WF, hWF, bF, hwF, _⟩ := box3_fill b6 (.int .i64 0) (.slice none 0 0) (.slice none 0 0)
    have HB : Hid (Below w.heap.size w WF) := B6.trans (hwF.below (by omega) (by omega))
    clear hwF
    go_wp2
    rw [hWF.out]
    obtain ⟨q0, q1, q2, _, _, _⟩ := bF.three
    exact bodyPost_ret (v := .tuple #[.agg #[.int .i64 0, .slice none 0 0, .slice none 0 0], .iface 61 (.agg #[.string sI])]) (by simp [results, Tryz.results24, go_sem, q0, q1, q2]) rfl ⟨readAns_none HX.out _, HB.out⟩
  | some rs =>
  have hrl := partsBy_len pNum _ _ hrn
  rw [sBytes_len] at hrl
  rw [hrn] at hans hX
  obtain ⟨aR, cR, rfl, hoR⟩ := hans
  have HX : Hid (X = some ⟨k, is, rs⟩) := hX
  clear hX hrn
  obtain ⟨W7, hW7, b7, hbW7, hsW7⟩ := boxes1 w6 [.int .i64 k, .slice aI is.length cI, .slice aR rs.length cR] 26
  have hO7 : OwnO W7 w4.heap.size w6.heap.size aI cI aR cR ⟨k, is, rs⟩ := ⟨(hoI6.below hbW7).widen (Nat.le_refl _) (by omega) (by omega), (hoR.below hbW7).widen (by omega) (by omega) (by omega), fun j hj hj' => by have := (hoI.lt j hj).2; have := (hoR.lt j hj').1; omega⟩
  have b6' := b6.below hbW7 b6.lt
  have hkeep : ∀ w'', Below W7.heap.size W7 w'' → Box w'' w6.heap.size [.int .i64 k, .slice aI is.length cI, .slice aR rs.length cR] 26 ∧ Box w'' w.heap.size [.int .i64 0, .slice none 0 0, .slice none 0 0] 26 :=
    fun w'' hh => ⟨b7.below hh b7.lt, b6'.below hh b6'.lt⟩
  have B7 : Below w.heap.size w W7 := B6.trans (hbW7.mono B6.size)
  have hcells : ∀ w'', Below W7.heap.size W7 w'' → (w''.cell? ⟨w6.heap.size, 0, none⟩ = some (.int .i64 k) ∧ w''.cell? ⟨w6.heap.size, 1, none⟩ = some (.slice aI is.length cI) ∧ w''.cell? ⟨w6.heap.size, 2, none⟩ = some (.slice aR rs.length cR)) ∧ (w''.cell? ⟨w.heap.size, 0, none⟩ = some (.int .i64 0) ∧ w''.cell? ⟨w.heap.size, 1, none⟩ = some (.slice none 0 0) ∧ w''.cell? ⟨w.heap.size, 2, none⟩ = some (.slice none 0 0)) ∧ (w''.frozen? ⟨w.heap.size, 0, none⟩ = false ∧ w''.frozen? ⟨w.heap.size, 1, none⟩ = false ∧ w''.frozen? ⟨w.heap.size, 2, none⟩ = false) := by
    intro w'' hh
    obtain ⟨ba, bb⟩ := hkeep w'' hh
    exact ⟨⟨ba.cell 0 _ rfl, ba.cell 1 _ rfl, ba.cell 2 _ rfl⟩, ⟨bb.cell 0 _ rfl, bb.cell 1 _ rfl, bb.cell 2 _ rfl⟩, bb.frozen 0, bb.frozen 1, bb.frozen 2⟩
  have hne : w.heap.size < w6.heap.size := b6.lt
  have hne' : ¬ (w6.heap.size = w.heap.size) := by omega
  go_wp2_with fail
  rw [hW7.out]
  clear y0 y1 y2 e0 e1 e2
  have hh := hcells W7 (Below.refl _ _)
  go_region_held3 (fun w'' => w''.cell? ⟨w6.heap.size, 0, none⟩ = some (.int .i64 k) ∧ w''.cell? ⟨w6.heap.size, 1, none⟩ = some (.slice aI is.length cI) ∧ w''.cell? ⟨w6.heap.size, 2, none⟩ = some (.slice aR rs.length cR))
    (first | exact (hcells _ hw8).1 | exact ⟨((((hkeep _ hw8).1.other hne').other hne').other hne').cell 0 _ rfl, ((((hkeep _ hw8).1.other hne').other hne').other hne').cell 1 _ rfl, ((((hkeep _ hw8).1.other hne').other hne').other hne').cell 2 _ rfl⟩ | go_keep)
    (first | (go_at_call 21; refine (checkObj_any ⟨k, is, rs⟩ aI cI aR cR _ hO7.reads.drew (by simp only; omega) (by simp only; omega)).mono ?_; rintro e w8 ⟨hie, hb8⟩; obtain ⟨ev, rfl⟩ := isErr_ret hie; have hw8 : Below W7.heap.size W7 w8 := (Below.refl _ _).drew.trans hb8; obtain ⟨⟨m0, m1, m2⟩, ⟨y0, y1, y2⟩, e0, e1, e2⟩ := hcells _ hw8))
  obtain ⟨WF, hWF, bF, hwF, hsF⟩ := box3_fill (hkeep _ hw8).2 (.int .i64 k) (.slice aI is.length cI) (.slice aR rs.length cR)
  rw [hWF.out]
  go_wp2
  obtain ⟨q0, q1, q2, _, _, _⟩ := bF.three
  have hs8 := hw8.size
  have hOF : OwnO WF w4.heap.size w6.heap.size aI cI aR cR ⟨k, is, rs⟩ := (hO7.below hw8).within hwF (.inr (by omega))
  exact bodyPost_ret (v := .tuple #[.agg #[.int .i64 k, .slice aI is.length cI, .slice aR rs.length cR], ev]) (by simp [results, Tryz.results24, go_sem, q0, q1, q2]) rfl ⟨readAns_some HX.out hie (hOF.widen (by omega) (by omega) (Nat.le_refl _)), (B7.trans (hw8.mono B7.size)).trans (hwF.below (Nat.le_refl _) (by omega))⟩

set_option maxHeartbeats 4000000 in
set_option maxRecDepth 100000 in
theorem implParseObj_any (s : ByteArray) (w : World) (he : EnvP w) (hs : s.size ≤ 1048576) :
    Calls Tryz.prog 11 #[.string s] w fun e w' => ∃ aI cI aR cR o ok, e = .returned (.tuple #[.agg #[.int .i64 o.kind, .slice aI o.ints.length cI, .slice aR o.refs.length cR], .bool ok]) ∧ Hid (parsePair (sBytes s) = (o, ok)) ∧ OwnO w' w.heap.size w'.heap.size aI cI aR cR o ∧ Below w.heap.size w w' := by
  have HN : Hid (readText (sBytes s) = none → parsePair (sBytes s) = (noO, false)) := parsePair_none
  have HBD : Hid (∀ o, readText (sBytes s) = some o → okB o = false → parsePair (sBytes s) = (noO, false)) := fun o => parsePair_bad
  have HGD : Hid (∀ o, readText (sBytes s) = some o → okB o = true → parsePair (sBytes s) = (o, true)) := fun o => parsePair_some
  generalize parsePair (sBytes s) = PR at *
  obtain ⟨W, hW, b0, hbW, hsW⟩ := boxes1 w [.int .i64 0, .slice none 0 0, .slice none 0 0] 26
  have hg : ErrT w := he.text.err
  go_enter Tryz.func11, Tryz.ntmps11
  go_wp2_with fail
  rw [hW.out]
  refine (parseObj_any s W (he.keep hbW) hs).mono ?_
  rintro e w1 ⟨hans, hb1⟩
  have B1 : Below w.heap.size w w1 := hbW.trans (hb1.mono hbW.size)
  have b1 := b0.below hb1 b0.lt
  have hs1 := hb1.size
  cases hx : readText (sBytes s) with
  | none =>
    have HP : Hid (_ = _) := HN.out hx
    rw [hx] at hans
    obtain ⟨s, rfl⟩ := hans
    clear hx
    go_wp2_with fail
    refine (foundObj_no 0 none 0 0 none 0 0 s w1 (hg.keep B1)).mono ?_
    rintro e w2 ⟨rfl, hb2⟩
    have B2 : Below w.heap.size w w2 := B1.trans (hb2.mono B1.size)
    have b2 := b1.below hb2 b1.lt
    have hs2 := hb2.size
    obtain ⟨y0, y1, y2, f0, f1, f2⟩ := b2.three
    obtain ⟨WF, hWF, bF, hwF, _⟩ := box3_fill b2 (.int .i64 0) (.slice none 0 0) (.slice none 0 0)
    have HB : Hid (Below w.heap.size w WF) := B2.trans (hwF.below (by omega) (by omega))
    clear hwF
    go_wp2
    rw [hWF.out]
    obtain ⟨q0, q1, q2, _, _, _⟩ := bF.three
    exact bodyPost_ret (v := .tuple #[.agg #[.int .i64 0, .slice none 0 0, .slice none 0 0], .bool false]) (by simp [results, Tryz.results11, go_sem, q0, q1, q2]) rfl ⟨none, 0, none, 0, noO, false, rfl, HP.out, ⟨ownI_nil _ _ _ (Nat.le_refl _), ownI_nil _ _ _ (Nat.le_refl _), fun k hk => by cases hk⟩, HB.out⟩
  | some o =>
    rw [hx] at hans
    obtain ⟨aI, cI, aR, cR, ev, rfl, hie, ho⟩ := hans
    rcases hie with ⟨hok, hev⟩ | ⟨hok, s, hev⟩
    · obtain rfl : ev = .nilIface := by simpa using hev
      have HP : Hid (_ = _) := HGD.out o hx hok
      clear hx hok hev
      go_wp2_with fail
      refine (foundObj_ok o.kind aI o.ints.length cI aR o.refs.length cR w1).mono ?_
      rintro e w2 ⟨rfl, hb2⟩
      have B2 : Below w.heap.size w w2 := B1.trans (hb2.mono B1.size)
      have b2 := b1.below hb2 b1.lt
      have hs2 := hb2.size
      obtain ⟨y0, y1, y2, f0, f1, f2⟩ := b2.three
      obtain ⟨WF, hWF, bF, hwF, hsF⟩ := box3_fill b2 (.int .i64 o.kind) (.slice aI o.ints.length cI) (.slice aR o.refs.length cR)
      have HB : Hid (Below w.heap.size w WF) := B2.trans (hwF.below (by omega) (by omega))
      have HO : Hid (OwnO WF w.heap.size WF.heap.size aI cI aR cR o) := ((ho.below hb2).within hwF (.inr (by omega))).widen (by omega) (by omega) (Nat.le_refl _)
      clear hwF
      go_wp2
      rw [hWF.out]
      obtain ⟨q0, q1, q2, _, _, _⟩ := bF.three
      exact bodyPost_ret (v := .tuple #[.agg #[.int .i64 o.kind, .slice aI o.ints.length cI, .slice aR o.refs.length cR], .bool true]) (by simp [results, Tryz.results11, go_sem, q0, q1, q2]) rfl ⟨aI, cI, aR, cR, o, true, rfl, HP.out, HO.out, HB.out⟩
    · obtain rfl : ev = _ := by simpa using hev
      have HP : Hid (_ = _) := HBD.out o hx hok
      clear hx hok hev
      go_wp2_with fail
      refine (foundObj_no o.kind aI o.ints.length cI aR o.refs.length cR s w1 (hg.keep B1)).mono ?_
      rintro e w2 ⟨rfl, hb2⟩
      have B2 : Below w.heap.size w w2 := B1.trans (hb2.mono B1.size)
      have b2 := b1.below hb2 b1.lt
      have hs2 := hb2.size
      obtain ⟨y0, y1, y2, f0, f1, f2⟩ := b2.three
      obtain ⟨WF, hWF, bF, hwF, _⟩ := box3_fill b2 (.int .i64 0) (.slice none 0 0) (.slice none 0 0)
      have HB : Hid (Below w.heap.size w WF) := B2.trans (hwF.below (by omega) (by omega))
      clear hwF
      go_wp2
      rw [hWF.out]
      obtain ⟨q0, q1, q2, _, _, _⟩ := bF.three
      exact bodyPost_ret (v := .tuple #[.agg #[.int .i64 0, .slice none 0 0, .slice none 0 0], .bool false]) (by simp [results, Tryz.results11, go_sem, q0, q1, q2]) rfl ⟨none, 0, none, 0, noO, false, rfl, HP.out, ⟨ownI_nil _ _ _ (Nat.le_refl _), ownI_nil _ _ _ (Nat.le_refl _), fun k hk => by cases hk⟩, HB.out⟩
end Go.Proofs.YtdibmepjbabnnabGreatDoor

/- The walk of impl.ObjText. -/
namespace Go.Proofs.YtdibmepjbabnnabGreatDoor
open Go.RowKit

set_option maxHeartbeats 1000000 in
set_option maxRecDepth 100000 in
theorem implObjText_any (o : ObjV) (aI : Option Addr) (cI : Nat) (aR : Option Addr) (cR : Nat) (w : World) (he : EnvT w) (hr : ReadsO w aI cI aR cR o) (hnI : o.ints.length ≤ 140737488355328) (hnR : o.refs.length ≤ 140737488355328) :
    Calls Tryz.prog 7 #[.agg #[.int .i64 o.kind, .slice aI o.ints.length cI, .slice aR o.refs.length cR]] w fun e w' => e = .returned (.string (strOf (textObjOf o))) ∧ Below w.heap.size w w' := by
  have hok := fun w' (g : ErrT w') (h : ReadsO w' aI cI aR cR o) => implObjOk_any o aI cI aR cR w' g h hnI hnR
  have HPT : Hid (okB o = true → textObjOf o = textO o) := fun h => by unfold textObjOf; rw [if_pos h]
  have HPF : Hid (okB o = false → strOf (textObjOf o) = ⟨#[]⟩) := fun h => by unfold textObjOf; rw [if_neg (by rw [h]; decide)]; rfl
  have HLN : Hid (okB o = true → _) := fun h => okB_nums h
  have hcs : okB o = true ∨ okB o = false := by cases okB o <;> simp
  obtain ⟨k, ints, refs⟩ := o
  have hr' := hr
  obtain ⟨hI, hR, _, _⟩ := hr
  simp only at *
  obtain ⟨W, hW, b0, hbW, hsW⟩ := boxes1 w [.int .i64 k, .slice aI ints.length cI, .slice aR refs.length cR] 26
  go_enter Tryz.func7, Tryz.ntmps7
  go_wp2_with fail
  rw [hW.out]
  refine (hok W (he.err.keep hbW) (hr'.below hbW)).mono ?_
  rintro e w1 ⟨rfl, hb1⟩
  have hbw1 : Below w.heap.size w w1 := hbW.trans (hb1.mono hbW.size)
  have b1 := b0.below hb1 b0.lt
  rcases hcs with hB | hB
  · obtain ⟨hkb, h5, h6, hzI, hzR⟩ := HLN.out hB
    have HP : Hid (strOf (textObjOf ⟨k, ints, refs⟩) = ((((strOf (numText k) ++ ⟨#[40]⟩) ++ strOf (joinOf ints)) ++ ⟨#[59]⟩) ++ strOf (joinOf refs)) ++ ⟨#[41]⟩) := by
      rw [Hid, HPT.out hB]
      simp only [textO, strOf_append]
      rfl
    have hs1 : (strOf (numText k)).size ≤ 11 := by rw [strOf_size]; exact num_len k hkb
    have hs2 : (strOf (joinOf ints)).size ≤ 60 := by rw [strOf_size]; have := join_len ints hzI ints.length (Nat.le_refl _); unfold joinOf; omega
    have hs3 : (strOf (joinOf refs)).size ≤ 60 := by rw [strOf_size]; have := join_len refs hzR refs.length (Nat.le_refl _); unfold joinOf; omega
    have hK := fun w' (g : EnvT w') => itoa_any k (by omega) w' g
    have hJI := fun w' (g : EnvT w') (h : ReadsI w' aI ints) => partsText_any aI cI ints w' g h (by omega) hzI
    have hJR := fun w' (g : EnvT w') (h : ReadsI w' aR refs) => partsText_any aR cR refs w' g h (by omega) hzR
    have he1 := he.keep hbw1
    rw [hB]
    clear hB hok HPT HPF HLN
    generalize strOf (numText k) = SK at *
    generalize strOf (joinOf ints) = SI at *
    generalize strOf (joinOf refs) = SR at *
    have hlt1 := b1.lt
    have hkeep : ∀ w', Below w1.heap.size w1 w' → w'.cell? ⟨w.heap.size, 0, none⟩ = some (.int .i64 k) ∧ w'.cell? ⟨w.heap.size, 1, none⟩ = some (.slice aI ints.length cI) ∧ w'.cell? ⟨w.heap.size, 2, none⟩ = some (.slice aR refs.length cR) :=
      fun w' hh => ⟨(b1.below hh hlt1).cell 0 _ rfl, (b1.below hh hlt1).cell 1 _ rfl, (b1.below hh hlt1).cell 2 _ rfl⟩
    have c1 : SK.size + 1 ≤ 9223372036854775807 := by omega
    have c2 : SK.size + 1 + SI.size ≤ 9223372036854775807 := by omega
    have c3 : SK.size + 1 + SI.size + 1 ≤ 9223372036854775807 := by omega
    have c4 : SK.size + 1 + SI.size + 1 + SR.size ≤ 9223372036854775807 := by omega
    have c5 : SK.size + 1 + SI.size + 1 + SR.size + 1 ≤ 9223372036854775807 := by omega
    have n1 : ¬ 9223372036854775807 < SK.size + 1 := by omega
    have n2 : ¬ 9223372036854775807 < SK.size + 1 + SI.size := by omega
    have n3 : ¬ 9223372036854775807 < SK.size + 1 + SI.size + 1 := by omega
    have n4 : ¬ 9223372036854775807 < SK.size + 1 + SI.size + 1 + SR.size := by omega
    have n5 : ¬ 9223372036854775807 < SK.size + 1 + SI.size + 1 + SR.size + 1 := by omega
    have hh := hkeep w1 (Below.refl _ _)
    go_wp2_with fail
    go_region_held3 (fun w' => w'.cell? ⟨w.heap.size, 0, none⟩ = some (.int .i64 k) ∧ w'.cell? ⟨w.heap.size, 1, none⟩ = some (.slice aI ints.length cI) ∧ w'.cell? ⟨w.heap.size, 2, none⟩ = some (.slice aR refs.length cR))
      (first | exact hkeep _ hw4 | exact hkeep _ hw3 | exact hkeep _ hw2 | go_keep)
      (first
      | (go_at_call 17; refine (hK w1.drew (he1.keep (Below.refl _ _).drew)).mono ?_; rintro e w2 ⟨rfl, hb2⟩; have hw2 : Below w1.heap.size w1 w2 := (Below.refl _ _).drew.trans hb2)
      | (go_at_call_of 18 (Value.slice aI ints.length cI); refine (hJI w2 (he1.keep hw2) (hI.below (hbw1.trans (hw2.mono hbw1.size)))).mono ?_; rintro e w3 ⟨rfl, hb3⟩; have hw3 : Below w1.heap.size w1 w3 := hw2.trans (hb3.mono hw2.size))
      | (go_at_call_of 18 (Value.slice aR refs.length cR); refine (hJR w3 (he1.keep hw3) (hR.below (hbw1.trans (hw3.mono hbw1.size)))).mono ?_; rintro e w4 ⟨rfl, hb4⟩; have hw4 : Below w1.heap.size w1 w4 := hw3.trans (hb4.mono hw3.size)))
    go_wp2
    go_ret
    exact ⟨by rw [HP.out]; rfl, hbw1.trans (hw4.mono hbw1.size)⟩
  · have HP : Hid (_ = _) := HPF.out hB
    rw [hB]
    clear hB hok
    go_wp2
    go_ret
    exact ⟨by rw [HP.out]; rfl, hbw1⟩
end Go.Proofs.YtdibmepjbabnnabGreatDoor

/- Plain mathematics: no object's bytes begin another's; an object's text comes back. -/
namespace Go.Proofs.YtdibmepjbabnnabGreatDoor
open Go.RowKit

theorem read_back_rest (o : ObjV) (h : okB o = true) (rest : List Int) : readO (putObjOf o ++ rest) = (o, false) := by
  obtain ⟨hk, h5, h6, hi, hr⟩ := okB_bd h
  rw [put_ok h]
  have e0 : putOf o.kind ++ putList o.ints ++ putList o.refs ++ rest = [] ++ putOf o.kind ++ (putList o.ints ++ (putList o.refs ++ rest)) := by simp
  have e1 : putOf o.kind ++ putList o.ints ++ putList o.refs ++ rest = putOf o.kind ++ putList o.ints ++ (putList o.refs ++ rest) := by simp
  have n1 := next_back [] (putList o.ints ++ (putList o.refs ++ rest)) o.kind (by omega)
  rw [← e0] at n1
  simp only [List.nil_append, List.length_nil, Int.natCast_zero] at n1
  have l1 := list_back (putOf o.kind) (putList o.refs ++ rest) o.ints h5 hi
  rw [← e1] at l1
  have l2 := list_back (putOf o.kind ++ putList o.ints) rest o.refs h6 (fun z hz => by have := hr z hz; omega)
  unfold readO
  simp only [show ((0 : Int), false) = (((0 : Nat) : Int), false) from rfl] at *
  rw [n1, l1, l2]

theorem put_pos {o : ObjV} (h : okB o = true) : 0 < (putObjOf o).length := by
  rw [put_ok h]
  have := (putOf_len o.kind).1
  simp; omega
theorem put_len_le (o : ObjV) : (putObjOf o).length ≤ 1000 := by
  by_cases h : okB o = true
  · obtain ⟨_, h5, h6, _, _⟩ := okB_bd h
    rw [put_ok h]
    have a1 := (putOf_len o.kind).2
    have a2 := (putOf_len (o.ints.length : Int)).2
    have a3 := (putOf_len (o.refs.length : Int)).2
    have b1 := flat_len o.ints
    have b2 := flat_len o.refs
    simp only [putList, List.length_append]
    omega
  · unfold putObjOf
    rw [if_neg h]
    simp

theorem pair_back {o : ObjV} (h : okB o = true) : getPair (putObjOf o) = (o, true) := by
  unfold getPair
  rw [getO_some h rfl]
theorem pair_cut {o : ObjV} (h : okB o = true) : getPair ((putObjOf o).take ((putObjOf o).length - 1)) = (noO, false) := by
  unfold getPair
  rw [getO_none]
  rintro ⟨p, hp, he⟩
  have e := drop_last (putObjOf o) (put_pos h)
  rw [← he] at e
  have r1 := read_back_rest p hp [(putObjOf o).getD ((putObjOf o).length - 1) 0]
  rw [← e] at r1
  have r2 := read_back o h
  rw [r1] at r2
  obtain rfl := (Prod.mk.inj r2).1
  have l1 := congrArg List.length he
  have := put_pos h
  rw [List.length_take] at l1
  omega

theorem join_byte (l : List Int) : ∀ z ∈ joinOf l, 0 ≤ z ∧ z < 256 := by
  intro z hz
  rcases joinOf_sign l z hz with rfl | rfl | h
  · decide
  · decide
  · omega
theorem text_byte (o : ObjV) : ∀ z ∈ textO o, 0 ≤ z ∧ z < 256 := by
  intro z hz
  rw [textO_eq] at hz
  simp only [List.mem_append, List.mem_cons, List.not_mem_nil, or_false] at hz
  rcases hz with h | h | h | h | h | h
  · rcases numText_sign _ z h with rfl | h
    · decide
    · omega
  · subst h; decide
  · exact join_byte _ z h
  · subst h; decide
  · exact join_byte _ z h
  · subst h; decide
theorem sBytes_strOf (L : List Int) (h : ∀ z ∈ L, 0 ≤ z ∧ z < 256) : sBytes (strOf L) = L := by
  rw [strOf_b8, sBytes_mk, List.map_map]
  conv => rhs; rw [← List.map_id L]
  apply List.map_congr_left
  intro z hz
  have := h z hz
  simp [toI, b8]
  omega
theorem text_pair {o : ObjV} (h : okB o = true) : parsePair (sBytes (strOf (textO o))) = (o, true) := by
  rw [sBytes_strOf _ (text_byte o)]
  unfold parsePair
  rw [spec_back o h]
theorem text_len {o : ObjV} (h : okB o = true) : (strOf (textO o)).size ≤ 1000 := by
  obtain ⟨hk, h5, h6, hi, hr⟩ := okB_bd h
  have e : (strOf (textO o)).size = (textO o).length := by rw [← sBytes_len, sBytes_strOf _ (text_byte o)]
  rw [e, textO_eq]
  have a1 := num_len o.kind (by omega)
  have a2 := join_len o.ints (fun z hz => by have := hi z hz; omega) o.ints.length (Nat.le_refl _)
  have a3 := join_len o.refs (fun z hz => by have := hr z hz; omega) o.refs.length (Nat.le_refl _)
  simp only [List.length_append, List.length_cons, List.length_nil, joinOf]
  omega
theorem sameO_refl (o : ObjV) : sameO o o = true := by simp [sameO]
theorem text_none {o : ObjV} (h : okB o = false) : strOf (textObjOf o) = ⟨#[]⟩ := by
  unfold textObjOf
  rw [if_neg (by simp [h])]
  rfl
theorem text_some {o : ObjV} (h : okB o = true) : strOf (textObjOf o) = strOf (textO o) := by
  unfold textObjOf
  rw [if_pos h]
theorem put_none {o : ObjV} (h : okB o = false) : putObjOf o = [] := by
  unfold putObjOf
  rw [if_neg (by simp [h])]
end Go.Proofs.YtdibmepjbabnnabGreatDoor

/- The walks of impl.putParts and impl.PutObj. -/
namespace Go.Proofs.YtdibmepjbabnnabGreatDoor
open Go.RowKit

set_option maxHeartbeats 400000 in
set_option maxRecDepth 100000 in
theorem putParts_any (a : Option Addr) (c : Nat) (xs : List Int) (aL : Option Addr) (cL : Nat) (l : List Int) (w : World) (hr : Reads w a xs) (hc : a = none → c = 0) (hL : ReadsI w aL l) (hx : xs.length ≤ 1000000) (hl : l.length ≤ 1000) :
    Calls Tryz.prog 15 #[.slice a xs.length c, .slice aL l.length cL] w fun e w' => ∃ a' c' ys, e = .returned (.slice a' ys.length c') ∧ Hid (ys = xs ++ putList l) ∧ OwnB w' w.heap.size a' c' ys ∧ Below w.heap.size w w' := by
  have HC : Hid (a = none → c = 0) := hc
  clear hc
  have hbA : Below w.heap.size w (w.alloc (.cells #[.int .i64 (l.length : Int)] 3)) := (Below.refl _ _).alloc (Nat.le_refl _) _
  go_enter Tryz.func15, Tryz.ntmps15
  go_wp2_with fail
  refine (putInts_any a c xs _ _ [(l.length : Int)] _ (hr.alloc _) HC.out (readsI_one w l.length _) (by simp; omega)).mono ?_
  rintro e w1 ⟨a1, c1, y1, rfl, hy1, ho1, hb1⟩
  have HY1 : Hid (y1 = xs ++ putOf l.length) := by rw [Hid, hy1]; simp
  have hl1 : y1.length ≤ 1000065 := by have := (putOf_len l.length).2; rw [HY1.out, List.length_append]; omega
  have hb1' : Below w.heap.size w w1 := hbA.trans (hb1.mono hbA.size)
  have ho1' := ho1.base hbA.size
  clear hy1 hb1 ho1 hbA
  go_wp2_with fail
  refine (putInts_any a1 c1 y1 aL cL l w1 ho1'.reads ho1'.nocap (hL.below hb1') (by omega)).mono ?_
  rintro e w2 ⟨a2, c2, y2, rfl, hy2, ho2, hb2⟩
  have HY2 : Hid (y2 = xs ++ putList l) := by rw [Hid, hy2, HY1.out]; simp [putList]
  clear hy2
  go_wp2
  go_ret
  exact ⟨a2, c2, y2, rfl, HY2, ho2.base hb1'.size, hb1'.trans (hb2.mono hb1'.size)⟩

set_option maxHeartbeats 1000000 in
set_option maxRecDepth 100000 in
theorem implPutObj_any (o : ObjV) (aI : Option Addr) (cI : Nat) (aR : Option Addr) (cR : Nat) (w : World) (hg : ErrT w) (hr : ReadsO w aI cI aR cR o) (hnI : o.ints.length ≤ 140737488355328) (hnR : o.refs.length ≤ 140737488355328) :
    Calls Tryz.prog 6 #[.agg #[.int .i64 o.kind, .slice aI o.ints.length cI, .slice aR o.refs.length cR]] w fun e w' => ∃ a' c' ys, e = .returned (.slice a' ys.length c') ∧ Hid (ys = putObjOf o) ∧ OwnB w' w.heap.size a' c' ys ∧ Below w.heap.size w w' := by
  have hok := fun w' (g : ErrT w') (h : ReadsO w' aI cI aR cR o) => implObjOk_any o aI cI aR cR w' g h hnI hnR
  have HPT : Hid (okB o = true → putObjOf o = (putOf o.kind ++ putList o.ints) ++ putList o.refs) := fun h => by unfold putObjOf; rw [if_pos h]
  have HPF : Hid (okB o = false → putObjOf o = []) := fun h => by unfold putObjOf; rw [if_neg (by rw [h]; decide)]
  have HLN : Hid (okB o = true → o.ints.length ≤ 5 ∧ o.refs.length ≤ 5) := fun h => by simp [okB] at h; exact ⟨h.2.1, h.2.2.1⟩
  have hcs : okB o = true ∨ okB o = false := by cases okB o <;> simp
  generalize hP : putObjOf o = P at *
  clear hP
  obtain ⟨k, ints, refs⟩ := o
  have hr' := hr
  obtain ⟨hI, hR, _, _⟩ := hr
  simp only at *
  obtain ⟨W, hW, b0, hbW, hsW⟩ := boxes1 w [.int .i64 k, .slice aI ints.length cI, .slice aR refs.length cR] 26
  go_enter Tryz.func6, Tryz.ntmps6
  go_wp2_with fail
  rw [hW.out]
  refine (hok W (hg.keep hbW) (hr'.below hbW)).mono ?_
  rintro e w1 ⟨rfl, hb1⟩
  have hbw1 : Below w.heap.size w w1 := hbW.trans (hb1.mono hbW.size)
  have b1 := b0.below hb1 b0.lt
  have x0 := b1.cell 0 _ rfl
  have x1 := b1.cell 1 _ rfl
  have x2 := b1.cell 2 _ rfl
  rcases hcs with hB | hB
  · have HP : Hid (_ = _) := HPT.out hB
    obtain ⟨h5, h6⟩ := HLN.out hB
    rw [hB]
    clear hB hok
    have hL1 := (putOf_len k).2
    have HL2 : Hid (_ ≤ _) := putList_len ints
    have hlt1 := b1.lt
    have hkeep : ∀ w', Below w1.heap.size w1 w' → w'.cell? ⟨w.heap.size, 0, none⟩ = some (.int .i64 k) ∧ w'.cell? ⟨w.heap.size, 1, none⟩ = some (.slice aI ints.length cI) ∧ w'.cell? ⟨w.heap.size, 2, none⟩ = some (.slice aR refs.length cR) :=
      fun w' hh => ⟨(b1.below hh hlt1).cell 0 _ rfl, (b1.below hh hlt1).cell 1 _ rfl, (b1.below hh hlt1).cell 2 _ rfl⟩
    have hbA : Below w1.heap.size w1 (w1.alloc (.cells #[.int .i64 k] 3)).drew := ((Below.refl _ _).alloc (Nat.le_refl _) _).drew
    have hrA : ReadsI (w1.alloc (.cells #[.int .i64 k] 3)).drew (some ⟨w1.heap.size, 0, none⟩) [k] := (readsI_one w1 k _).below (Below.refl _ _).drew
    go_wp2_with fail
    go_region_held3 (fun w' => w'.cell? ⟨w.heap.size, 0, none⟩ = some (.int .i64 k) ∧ w'.cell? ⟨w.heap.size, 1, none⟩ = some (.slice aI ints.length cI) ∧ w'.cell? ⟨w.heap.size, 2, none⟩ = some (.slice aR refs.length cR))
      (first | exact hkeep _ ((Below.refl _ _).alloc (Nat.le_refl _) _).drew | exact hkeep _ ((Below.refl _ _).alloc (Nat.le_refl _) _) | exact hkeep _ hw4 | exact hkeep _ hw3 | exact hkeep _ hw2 | go_keep)
      (first
      | (go_at_call 16; refine (putInts_any none 0 [] _ _ [k] _ ⟨by simp, by simp⟩ (fun _ => rfl) hrA (by simp)).mono ?_; rintro e w2 ⟨a2, c2, y2, rfl, hy2, ho2, hb2⟩; have hw2 : Below w1.heap.size w1 w2 := hbA.trans (hb2.mono hbA.size); have HY2 : Hid (y2 = [] ++ putOf k) := (by rw [Hid, hy2]; simp); have hl2 : y2.length ≤ 65 := (by rw [HY2.out]; simp; omega); clear hy2)
      | (go_at_call_of 15 (Value.slice a2 y2.length c2); refine (putParts_any a2 c2 y2 aI cI ints w2 ho2.reads ho2.nocap (hI.below (hbw1.trans (hw2.mono hbw1.size))) (by omega) (by omega)).mono ?_; rintro e w3 ⟨a3, c3, y3, rfl, HY3, ho3, hb3⟩; have hw3 : Below w1.heap.size w1 w3 := hw2.trans (hb3.mono hw2.size); have hl3 : y3.length ≤ 1000 := (by have := HL2.out; rw [HY3.out, List.length_append]; omega))
      | (go_at_call_of 15 (Value.slice a3 y3.length c3); refine (putParts_any a3 c3 y3 aR cR refs w3 ho3.reads ho3.nocap (hR.below (hbw1.trans (hw3.mono hbw1.size))) (by omega) (by omega)).mono ?_; rintro e w4 ⟨a4, c4, y4, rfl, HY4, ho4, hb4⟩; have hw4 : Below w1.heap.size w1 w4 := hw3.trans (hb4.mono hw3.size)))
    go_wp2
    go_ret
    exact ⟨a4, c4, y4, rfl, by rw [Hid, HP.out, HY4.out, HY3.out, HY2.out]; simp, ho4.base (Nat.le_trans hbw1.size hw3.size), hbw1.trans (hw4.mono hbw1.size)⟩
  · have HP : Hid (_ = _) := HPF.out hB
    rw [hB]
    clear hB hok
    go_wp2
    go_ret
    exact ⟨_, 0, [], rfl, HP.out.symm, (own_lit0 w1).base hbw1.size, hbw1.alloc hbw1.size _⟩
end Go.Proofs.YtdibmepjbabnnabGreatDoor

/- What came in, read: a slice of bytes. -/
namespace Go.Proofs.YtdibmepjbabnnabGreatDoor
open Go.ChangeShapes Go.WideShapes Go.ChangeAt Go.RowKit

section
variable {H : Type} {enc : TypeId × Value → H} {w : World} {base : Nat} {spare : Nat → Bool} {held : Bool}

theorem trod_bytes {fuel : Nat} {cs : List Value} {x : DataW H × List MemPlace} (h : DataW.trod enc Tryz.prog w base spare held fuel 22 cs = some x) :
    ∃ (a : Option Addr) (c : Nat) (ns : List Int), cs = [.slice a ns.length c] ∧ Reads w a ns ∧ (a = none → c = 0) ∧ ns.length ≤ maxLen := by
  rcases open_ints Tryz.underlying22 Tryz.underlying5 (by kernel_rfl) h with ⟨rfl, _⟩ | ⟨a, len, cap, zs, rfl, _, hl, hm, hz, _, hcell, hwf⟩
  · exact ⟨none, 0, [], rfl, ⟨by simp, by simp⟩, fun _ => rfl, by simp⟩
  · have hlz : len ≤ zs.length := by rw [hz]; split <;> omega
    refine ⟨some a, cap, zs.take len, by simp; omega, ⟨fun z hzz => ?_, ?_⟩, (fun h => by cases h), by simp; omega⟩
    · have := hwf z (List.mem_of_mem_take hzz)
      simp [Lit.wf, IntKind.min, IntKind.max, IntKind.signed, IntKind.bits] at this
      omega
    · intro hne
      have hpos := List.length_pos_iff.2 hne
      simp at hpos
      obtain ⟨b, off, spot⟩ := a
      have hc0 := hcell 0 (by omega)
      have hspot : spot = none := by simpa [Addr.add] using World.cell?_spot hc0
      subst hspot
      refine ⟨b, off, rfl, fun i hi => ?_⟩
      have hi' : i < len := by simp at hi; omega
      have := hcell i (by omega)
      have e : (List.take len zs).getD i 0 = zs.getD i 0 := by simp [List.getD, hi']
      rw [e, ← Addr_add]
      exact this

set_option maxRecDepth 100000 in
/-- A slice of bytes that came in as an argument. -/
theorem open_bytes {b0 : Nat} {v : Value} {d : DataW H} {ps : List MemPlace} (hval : Value.okWide Tryz.prog w .any b0 22 v) (h : DataW.Trod enc Tryz.prog w base spare held 22 v d ps) :
    ∃ (a : Option Addr) (c : Nat) (ns : List Int), v = .slice a ns.length c ∧ Reads w a ns ∧ (a = none → c = 0) ∧ ns.length ≤ maxLen := by
  obtain ⟨a, len, cap, hv⟩ := okWide_slice (e := 5) Tryz.underlying22 hval
  subst hv
  obtain ⟨fuel, hf⟩ := h
  have e : (Value.slice a len cap).cells.toList = [Value.slice a len cap] := rfl
  rw [e] at hf
  obtain ⟨a', c', ns, hc, rest⟩ := trod_bytes hf
  simp only [List.cons.injEq, and_true] at hc
  exact ⟨a', c', ns, hc, rest⟩
end
end Go.Proofs.YtdibmepjbabnnabGreatDoor

/- The walk of laws.FnObjects. -/
namespace Go.Proofs.YtdibmepjbabnnabGreatDoor
open Go.RowKit

set_option maxHeartbeats 4000000 in
set_option maxRecDepth 100000 in
theorem lawObjects_walk (a : Option Addr) (cap : Nat) (zs : List Int) (w : World) (he : EnvP w) (hr : Reads w a zs) :
    Calls Tryz.prog 3 #[.slice a zs.length cap] w fun e w' => e = .returned (.bool true) ∧ Below w.heap.size w w' := by
  by_cases hbig : 1048576 < zs.length
  · have hd : decide (1048576 < zs.length) = true := decide_eq_true hbig
    go_enter Tryz.func3, Tryz.ntmps3
    go_wp2_with (go_at_call 4; refine (big_any _ _ _ _).mono ?_; rintro e w' ⟨rfl, rfl⟩)
    go_ret
    exact ⟨rfl, Below.refl _ _⟩
  have hd : decide (1048576 < zs.length) = false := decide_eq_false hbig
  go_enter Tryz.func3, Tryz.ntmps3
  go_wp2_with fail
  refine (big_any _ _ _ _).mono ?_
  rintro e w0 ⟨rfl, rfl⟩
  go_wp2_with fail
  refine (drawPutObj_any a cap zs w0 hr (by omega)).mono ?_
  rintro e w1 ⟨aI, cI, aR, cR, o, rfl, hlI, hlR, ho1, hb1⟩
  obtain ⟨W2, hW2, b2, hbW2, hsW2⟩ := boxes1 w1 [.int .i64 o.kind, .slice aI o.ints.length cI, .slice aR o.refs.length cR] 26
  have B2 : Below w0.heap.size w0 W2 := hb1.trans (hbW2.mono hb1.size)
  have ho2 := ho1.below hbW2
  have hs1 := hb1.size
  have hs2 := hbW2.size
  clear hsW2 hb1 hbW2 ho1 hd hbig
  go_wp2_with fail
  rw [hW2.out]
  clear hW2
  refine (implPutObj_any o aI cI aR cR W2 (he.keep B2).text.err ho2.reads (by omega) (by omega)).mono ?_
  rintro e w3 ⟨a3, c3, ys, rfl, hys, hob3, hb3⟩
  have B3 : Below w0.heap.size w0 w3 := B2.trans (hb3.mono B2.size)
  have b3 := b2.below hb3 b2.lt
  have ho3 := ho2.below hb3
  have hs3 := hb3.size
  clear b2 ho2 hb3 B2
  obtain ⟨x0, x1, x2, _, _, _⟩ := b3.three
  have HT0 : Hid (okB o = false → strOf (textObjOf o) = ⟨#[]⟩) := text_none
  have HT1 : Hid (okB o = true → parsePair (sBytes (strOf (textObjOf o))) = (o, true) ∧ (strOf (textObjOf o)).size ≤ 1000) := fun h => by rw [text_some h]; exact ⟨text_pair h, text_len h⟩
  have htx := implObjText_any o aI cI aR cR w3 (he.keep B3).text ho3.reads (by omega) (by omega)
  generalize strOf (textObjOf o) = T at *
  go_wp2_with fail
  refine htx.mono ?_
  clear htx
  rintro e w4 ⟨rfl, hb4⟩
  have B4 : Below w0.heap.size w0 w4 := B3.trans (hb4.mono B3.size)
  have b4 := b3.below hb4 b3.lt
  have ho4 := ho3.below hb4
  have hob4 := hob3.below hb4
  have hs4 := hb4.size
  clear b3 ho3 hob3 hb4 B3 x0 x1 x2
  obtain ⟨x0, x1, x2, _, _, _⟩ := b4.three
  go_wp2_with fail
  refine (specObjOk_any o aI cI aR cR w4 ho4.reads (by omega) (by omega)).mono ?_
  rintro e w5 ⟨rfl, hb5⟩
  have B5 : Below w0.heap.size w0 w5 := B4.trans (hb5.mono B4.size)
  have b5 := b4.below hb5 b4.lt
  have ho5 := ho4.below hb5
  have hob5 := hob4.below hb5
  have hs5 := hb5.size
  clear b4 ho4 hob4 hb5 B4 x0 x1 x2
  obtain ⟨x0, x1, x2, _, _, _⟩ := b5.three
  have hok9 := fun w' (g : ErrT w') (h : ReadsO w' aI cI aR cR o) => implObjOk_any o aI cI aR cR w' g h (by omega) (by omega)
  cases hok : okB o with
  | false =>
    obtain rfl : ys = [] := by rw [hys.out, put_none hok]
    obtain rfl := HT0.out hok
    rw [hok] at hok9
    clear HT0 HT1 hys
    go_wp2_with fail
    refine (hok9 w5 (he.keep B5).text.err ho5.reads).mono ?_
    clear hok9
    rintro e w6 ⟨rfl, hb6⟩
    go_wp2
    go_ret
    exact ⟨rfl, B5.trans (hb6.mono B5.size)⟩
  | true =>
    obtain ⟨HP, hTl⟩ := HT1.out hok
    have HPP : Hid (_ = _) := HP
    have HB1 : Hid (getPair ys = (o, true)) := by rw [Hid, hys.out]; exact pair_back hok
    have HB2 : Hid (getPair (ys.take (ys.length - 1)) = (noO, false)) := by rw [Hid, hys.out]; exact pair_cut hok
    have hyp : 0 < ys.length := by rw [hys.out]; exact put_pos hok
    have hyl : ys.length ≤ 1000 := by rw [hys.out]; exact put_len_le o
    rw [hok] at hok9
    clear HT0 HT1 hys HP
    go_wp2_with fail
    refine (implGetObj_any a3 c3 ys w5 (he.keep B5).text.err hob5.reads (by omega) hob5.len_cap).mono ?_
    rintro e w6 ⟨pI, dI, pR, dR, o6, k6, rfl, HG, ho6, hb6⟩
    obtain ⟨e6, rfl⟩ : o = o6 ∧ true = k6 := by have h := HG.out; rw [HB1.out] at h; exact Prod.mk.inj h
    subst e6
    have B6 : Below w0.heap.size w0 w6 := B5.trans (hb6.mono B5.size)
    have b6 := b5.below hb6 b5.lt
    have hoo6 := ho5.below hb6
    have hob6 := hob5.below hb6
    have hs6 := hb6.size
    clear HG HB1 b5 ho5 hob5 hb6 B5 x0 x1 x2
    obtain ⟨W7, hW7, n7, hbW7, hsW7⟩ := boxes1 w6 [.int .i64 o.kind, .slice pI o.ints.length dI, .slice pR o.refs.length dR] 26
    have B7 : Below w0.heap.size w0 W7 := B6.trans (hbW7.mono B6.size)
    have b7 := b6.below hbW7 b6.lt
    have hoo7 := hoo6.below hbW7
    have hob7 := hob6.below hbW7
    have hx7 := ho6.below hbW7
    have hs7 := hbW7.size
    clear b6 hoo6 hob6 ho6 hbW7 B6 hsW7
    go_wp2_with fail
    rw [hW7.out]
    clear hW7
    refine (implParseObj_any T W7 (he.keep B7) (by omega)).mono ?_
    rintro e w8 ⟨qI, fI, qR, fR, o8, k8, rfl, HG, ho8, hb8⟩
    obtain ⟨e8, rfl⟩ : o = o8 ∧ true = k8 := by have h := HG.out; rw [HPP.out] at h; exact Prod.mk.inj h
    subst e8
    have B8 : Below w0.heap.size w0 w8 := B7.trans (hb8.mono B7.size)
    have b8 := b7.below hb8 b7.lt
    have n8 := n7.below hb8 n7.lt
    have hoo8 := hoo7.below hb8
    have hob8 := hob7.below hb8
    have hx8 := hx7.below hb8
    have hs8 := hb8.size
    clear HG HPP b7 n7 hoo7 hob7 hx7 hb8 B7
    obtain ⟨W9, hW9, m9, hbW9, hsW9⟩ := boxes1 w8 [.int .i64 o.kind, .slice qI o.ints.length fI, .slice qR o.refs.length fR] 26
    have B9 : Below w0.heap.size w0 W9 := B8.trans (hbW9.mono B8.size)
    have b9 := b8.below hbW9 b8.lt
    have n9 := n8.below hbW9 n8.lt
    have hoo9 := hoo8.below hbW9
    have hob9 := hob8.below hbW9
    have hx9 := hx8.below hbW9
    have hy9 := ho8.below hbW9
    have hs9 := hbW9.size
    clear b8 n8 hoo8 hob8 hx8 ho8 hbW9 B8 hsW9
    obtain ⟨m, hm⟩ : ∃ m, ys.length = m + 1 := ⟨ys.length - 1, by omega⟩
    have htl : (ys.take m).length = m := by simp; omega
    have hcl := hob9.len_cap
    have hun := implGetObj_any a3 c3 (ys.take m) W9 (he.keep B9).text.err (own_prefix hob9 m) (by omega) (by omega)
    rw [htl] at hun
    rw [show ys.length - 1 = m by omega] at HB2
    rw [hm] at hcl ⊢
    have hmi : (m : Int) + 1 - 1 = (m : Int) := by omega
    have hml : m ≤ 1000 := by omega
    clear htl hyp hyl
    go_wp2_with fail
    rw [hW9.out]
    clear hW9
    refine hun.mono ?_
    clear hun
    rintro e w10 ⟨rI, gI, rR, gR, o10, k10, rfl, HG, ho10, hb10⟩
    obtain ⟨e10, rfl⟩ : noO = o10 ∧ false = k10 := by have h := HG.out; rw [HB2.out] at h; exact Prod.mk.inj h
    subst e10
    have B10 : Below w0.heap.size w0 w10 := B9.trans (hb10.mono B9.size)
    have b10 := b9.below hb10 b9.lt
    have n10 := n9.below hb10 n9.lt
    have m10 := m9.below hb10 m9.lt
    have hoo10 := hoo9.below hb10
    have hx10 := hx9.below hb10
    have hy10 := hy9.below hb10
    have hs10 := hb10.size
    clear HG HB2 b9 n9 m9 hoo9 hob9 hx9 hy9 ho10 hb10 B9
    obtain ⟨W11, hW11, _, hbW11, hsW11⟩ := boxes1 w10 [.int .i64 noO.kind, .slice rI noO.ints.length gI, .slice rR noO.refs.length gR] 26
    have B11 : Below w0.heap.size w0 W11 := B10.trans (hbW11.mono B10.size)
    have b11 := b10.below hbW11 b10.lt
    have n11 := n10.below hbW11 n10.lt
    have m11 := m10.below hbW11 m10.lt
    have hoo11 := hoo10.below hbW11
    have hx11 := hx10.below hbW11
    have hy11 := hy10.below hbW11
    clear b10 n10 m10 hoo10 hx10 hy10 hbW11 B10 hsW11
    have hcells : ∀ w'', Below W11.heap.size W11 w'' → (w''.cell? ⟨w1.heap.size, 0, none⟩ = some (.int .i64 o.kind) ∧ w''.cell? ⟨w1.heap.size, 1, none⟩ = some (.slice aI o.ints.length cI) ∧ w''.cell? ⟨w1.heap.size, 2, none⟩ = some (.slice aR o.refs.length cR)) ∧ (w''.cell? ⟨w6.heap.size, 0, none⟩ = some (.int .i64 o.kind) ∧ w''.cell? ⟨w6.heap.size, 1, none⟩ = some (.slice pI o.ints.length dI) ∧ w''.cell? ⟨w6.heap.size, 2, none⟩ = some (.slice pR o.refs.length dR)) ∧ (w''.cell? ⟨w8.heap.size, 0, none⟩ = some (.int .i64 o.kind) ∧ w''.cell? ⟨w8.heap.size, 1, none⟩ = some (.slice qI o.ints.length fI) ∧ w''.cell? ⟨w8.heap.size, 2, none⟩ = some (.slice qR o.refs.length fR)) := by
      intro w'' hh
      have b := b11.below hh b11.lt
      have n := n11.below hh n11.lt
      have m := m11.below hh m11.lt
      exact ⟨⟨b.cell 0 _ rfl, b.cell 1 _ rfl, b.cell 2 _ rfl⟩, ⟨n.cell 0 _ rfl, n.cell 1 _ rfl, n.cell 2 _ rfl⟩, ⟨m.cell 0 _ rfl, m.cell 1 _ rfl, m.cell 2 _ rfl⟩⟩
    have HS : Hid (sameO o o = true) := sameO_refl o
    have HC : Hid _ := hcells
    clear hcells b11 n11 m11
    obtain ⟨⟨x0, x1, x2⟩, ⟨y0, y1, y2⟩, ⟨z0, z1, z2⟩⟩ := HC.out W11 (Below.refl _ _)
    have hw11 : w10.alloc (.cells #[.int .i64 noO.kind, .slice rI noO.ints.length gI, .slice rR noO.refs.length gR] 26) = W11 := hW11.out
    go_wp2_with fail
    clear hw11 hW11
    refine (implSameObj_any o o pI dI pR dR aI cI aR cR W11 hx11.reads hoo11.reads (by omega) (by omega) (by omega) (by omega)).mono ?_
    rintro e w12 ⟨rfl, hb12⟩
    rw [HS.out]
    have hx12 := hx11.below hb12
    have hoo12 := hoo11.below hb12
    have hy12 := hy11.below hb12
    have hs12 := hb12.size
    clear x0 x1 x2 y0 y1 y2 z0 z1 z2
    obtain ⟨⟨x0, x1, x2⟩, ⟨y0, y1, y2⟩, ⟨z0, z1, z2⟩⟩ := HC.out w12 hb12
    go_wp2_with fail
    refine (implSameObj_any o o qI fI qR fR aI cI aR cR w12 hy12.reads hoo12.reads (by omega) (by omega) (by omega) (by omega)).mono ?_
    rintro e w13 ⟨rfl, hb13⟩
    rw [HS.out]
    have BB : Below W11.heap.size W11 w13 := hb12.trans (hb13.mono hb12.size)
    have hoo13 := hoo12.below hb13
    have B13 : Below w0.heap.size w0 w13 := B11.trans (BB.mono B11.size)
    clear x0 x1 x2 y0 y1 y2 z0 z1 z2
    obtain ⟨⟨x0, x1, x2⟩, ⟨y0, y1, y2⟩, ⟨z0, z1, z2⟩⟩ := HC.out w13 BB
    clear hb12 hb13 BB
    go_wp2_with fail
    refine (hok9 w13 (he.keep B13).text.err hoo13.reads).mono ?_
    rintro e w14 ⟨rfl, hb14⟩
    go_wp2
    go_ret
    exact ⟨rfl, B13.trans (hb14.mono B13.size)⟩
end Go.Proofs.YtdibmepjbabnnabGreatDoor

/- What the row's condition on errors.errorType gives a walk; a world that meets it. -/
namespace Go.Proofs.YtdibmepjbabnnabGreatDoor
open Go.ChangeShapes Go.WideShapes Go.RowKit

theorem Tryz.et : Tryz.prog.globalNamed "errors.errorType" = some 0 := by kernel_rfl
theorem Tryz.rt : (Tryz.prog.cutTypes.find? (·.1 == "internal/reflectlite.rtype")).map (·.2) = some 111 := by kernel_rfl
theorem Tryz.oneRow : ((List.range 196).filter fun t => Tryz.prog.rowNamed t [101, 114, 114, 111, 114]) = [45] := by kernel_rfl
theorem Tryz.typesSize : Tryz.prog.types.size = 196 := by kernel_rfl

theorem errT_of_handles {W : World} {laid : List (String × DataW Unit)} (hm : ("errors.errorType", Rows.laid_errors_errorType) ∈ laid) (h : handlesMet Tryz.prog laid W) : ErrT W := by
  obtain ⟨name, u, ty, e1, e2, e3, e4, e5⟩ := h _ hm
  have en : name = [101, 114, 114, 111, 114] := (Option.some.inj e1).symm
  subst en
  obtain rfl := Option.some.inj (Tryz.rt.symm.trans e2)
  have hm : ty ∈ (List.range 196).filter fun t => Tryz.prog.rowNamed t [101, 114, 114, 111, 114] := List.mem_filter.2 ⟨List.mem_range.2 (by rw [← Tryz.typesSize]; exact e3), e4⟩
  rw [Tryz.oneRow] at hm
  obtain rfl := List.mem_singleton.1 hm
  have hh : typeHandle Tryz.prog 45 = .pointer (some ⟨9, 45, none⟩) := by kernel_rfl
  rw [hh] at e5
  unfold ErrT
  simpa using World.var?_cell Tryz.et e5 0

/-- The one listed variable. -/
def laid1 : List (String × DataW Unit) := [("errors.errorType", Rows.laid_errors_errorType)]
theorem errT_of_laid1 {W : World} (h : laidMetH Tryz.prog laid1 W) : ErrT W := by
  have h' : laidMet Tryz.prog [] W ∧ handlesMet Tryz.prog laid1 W := h
  exact errT_of_handles (List.mem_singleton.2 rfl) h'.2
end Go.Proofs.YtdibmepjbabnnabGreatDoor

/- What a row's condition on the table of powers gives; a law for a witness. -/
namespace Go.Proofs.YtdibmepjbabnnabGreatDoor
open Go.ChangeShapes Go.WideShapes Go.RowKit

theorem laidMet_over {P : Program} {w0 : World} {laid : List (String × DataW Unit)} (args : Array Value) (hf : w0.layFits P laid [] = true) (hi : w0.layIfaces P laid (w0.layVars P laid) = true) :
    laidMet P laid ((w0.layVars P laid).forCall (fun _ _ => 0) ⟨#[], args, []⟩).memory := by
  have e1 : (laid.filter fun x => (laid.map (·.1)).contains x.1) = laid := List.filter_eq_self.2 fun x hx => List.contains_iff_mem.2 (List.mem_map.2 ⟨x, hx, rfl⟩)
  have e2 : (laid.filter fun x => !(laid.map (·.1)).contains x.1) = [] := List.filter_eq_nil_iff.2 fun x hx => by rw [List.contains_iff_mem.2 (List.mem_map.2 ⟨x, hx, rfl⟩)]; simp
  have h : laidMet P laid (w0.layVars P laid) := laidMet_layVars (w0 := w0) (laid.map (·.1)) [] (by rw [e1]) (by rw [e1]; exact hf) (by rw [e1]; exact hi) (by rw [e2]; exact LaidIn.none)
  exact h.of_heap (by simp [World.memory, World.forCall, Input.heap])

theorem Tryz.pow10Data : (Rows.laid_internal_strconv_uint64pow10 : DataW Unit) = Lib.tabData .u64 Lib.pow10Tab := by kernel_rfl

theorem pow_of_laid {W : World} {laid : List (String × DataW Unit)} {name : String} (hn : Tryz.prog.globalNamed name = some 1) (hl : laidMet Tryz.prog laid W) (hm : (name, Rows.laid_internal_strconv_uint64pow10) ∈ laid) :
    ∃ t f, W.heap[1]? = some (.cells (Lib.pow10Tab.map fun z => Value.int .u64 z).toArray t f) := by
  rw [Tryz.pow10Data] at hm
  exact tab_heap hl hm hn (by kernel_rfl) Tryz.underlying131 Tryz.underlying104 (by kernel_rfl) (by kernel_rfl)
end Go.Proofs.YtdibmepjbabnnabGreatDoor
