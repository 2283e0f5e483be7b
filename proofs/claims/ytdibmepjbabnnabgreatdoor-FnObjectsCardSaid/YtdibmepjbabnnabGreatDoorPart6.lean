/- Several texts in one, in their order. -/
import Derived.Test.YtdibmepjbabnnabGreatDoorPart5
import Derived.Deep.RegionHeld3
import Derived.Test.YtdibmepjbabnnabGreatDoorPart4
import Derived.Test.YtdibmepjbabnnabGreatDoorPart3
import Derived.Test.YtdibmepjbabnnabGreatDoorPart2
import Derived.Deep.QuietTactic
import Derived.BigQuiet
import Derived.Deep.AppendLies
import Derived.Laws.AppendOwnNone
import Derived.Deep.RegionLaw
import Derived.Deep.DrawnRows
/- The walks of impl.readObj and impl.GetObj. -/
namespace Go.Proofs.YtdibmepjbabnnabGreatDoor
open Go.RowKit

/-- What readObj answers. -/
def ReadAns (w' : World) (lo : Nat) (x : Option ObjV) (e : Ending) : Prop := match x with
  | some o => ∃ aI cI aR cR ev, e = .returned (.tuple #[.agg #[.int .i64 o.kind, .slice aI o.ints.length cI, .slice aR o.refs.length cR], ev]) ∧ IsErr (okB o) (.returned ev) ∧ OwnO w' lo w'.heap.size aI cI aR cR o
  | none => ∃ s, e = .returned (.tuple #[.agg #[.int .i64 0, .slice none 0 0, .slice none 0 0], .iface 61 (.agg #[.string s])])
theorem readAns_none {w' : World} {lo : Nat} {x : Option ObjV} (h : x = none) (s : ByteArray) : ReadAns w' lo x (.returned (.tuple #[.agg #[.int .i64 0, .slice none 0 0, .slice none 0 0], .iface 61 (.agg #[.string s])])) := by
  subst h; exact ⟨s, rfl⟩
theorem readAns_some {w' : World} {lo : Nat} {x : Option ObjV} {o : ObjV} (h : x = some o) {aI : Option Addr} {cI : Nat} {aR : Option Addr} {cR : Nat} {ev : Value} (he : IsErr (okB o) (.returned ev)) (ho : OwnO w' lo w'.heap.size aI cI aR cR o) : ReadAns w' lo x (.returned (.tuple #[.agg #[.int .i64 o.kind, .slice aI o.ints.length cI, .slice aR o.refs.length cR], ev])) := by
  subst h; exact ⟨aI, cI, aR, cR, ev, rfl, he, ho⟩
theorem isErr_ret {ok : Bool} {e : Ending} (h : IsErr ok e) : ∃ ev, e = .returned ev := by
  rcases h with ⟨_, rfl⟩ | ⟨_, s, rfl⟩
  · exact ⟨_, rfl⟩
  · exact ⟨_, rfl⟩

theorem readAll_none0 {zs : List Int} (h : getAt zs 0 = none) : readAll zs = none := by unfold readAll; rw [h]
theorem readAll_none1 {zs : List Int} {k : Int} {p : Nat} (h : getAt zs 0 = some (k, p)) (h1 : partsAt zs p = none) : readAll zs = none := by unfold readAll; rw [h]; simp only; rw [h1]
theorem readAll_none2 {zs : List Int} {k : Int} {p q : Nat} {is : List Int} (h : getAt zs 0 = some (k, p)) (h1 : partsAt zs p = some (is, q)) (h2 : partsAt zs q = none) : readAll zs = none := by
  unfold readAll; rw [h]; simp only; rw [h1]; simp only; rw [h2]
theorem readAll_at {zs : List Int} {k : Int} {p q r : Nat} {is rs : List Int} (h : getAt zs 0 = some (k, p)) (h1 : partsAt zs p = some (is, q)) (h2 : partsAt zs q = some (rs, r)) : readAll zs = if r = zs.length then some ⟨k, is, rs⟩ else none := by
  unfold readAll; rw [h]; simp only; rw [h1]; simp only; rw [h2]

set_option maxHeartbeats 4000000 in
set_option maxRecDepth 100000 in
theorem readObj_any (a : Option Addr) (c : Nat) (zs : List Int) (w : World) (hr : Reads w a zs) (hl : zs.length ≤ 70368744177664) (hcap : zs.length ≤ c) :
    Calls Tryz.prog 23 #[.slice a zs.length c] w fun e w' => ReadAns w' w.heap.size (readAll zs) e ∧ Below w.heap.size w w' := by
  generalize hXX : readAll zs = X
  have HXX : Hid (readAll zs = X) := hXX
  clear hXX
  obtain ⟨W, hW, b0, hbW, hsW⟩ := boxes1 w [.int .i64 0, .slice none 0 0, .slice none 0 0] 26
  obtain ⟨x0, x1, x2, f0, f1, f2⟩ := b0.three
  have hrW := hr.below hbW
  have hblt := b0.lt
  cases hg : getAt zs 0 with
  | none =>
    have HX : Hid (X = none) := HXX.out ▸ readAll_none0 hg
    have HG : Hid (_ = _) := hg
    clear hg
    obtain ⟨WF, hWF, bF, hwF, _⟩ := box3_fill b0 (.int .i64 0) (.slice none 0 0) (.slice none 0 0)
    have HB : Hid (Below w.heap.size w WF) := hbW.trans (hwF.below (by omega) (by omega))
    clear hwF
    go_enter Tryz.func23, Tryz.ntmps23
    go_wp2_with fail
    rw [hW.out]
    refine (implGetInt_any a c zs 0 W hrW hl hcap).mono ?_
    rintro e w' ⟨rfl, rfl⟩
    rw [HG.out]
    simp only [triple]
    go_wp2
    rw [hWF.out]
    obtain ⟨q0, q1, q2, _, _, _⟩ := bF.three
    exact bodyPost_ret (v := .tuple #[.agg #[.int .i64 0, .slice none 0 0, .slice none 0 0], .iface 61 (.agg #[.string _])]) (by simp [results, Tryz.results23, go_sem, q0, q1, q2]; rfl) rfl ⟨readAns_none HX.out _, HB.out⟩
  | some t =>
  obtain ⟨k, p⟩ := t
  have HG : Hid (_ = _) := hg
  go_enter Tryz.func23, Tryz.ntmps23
  go_wp2_with fail
  rw [hW.out]
  refine (implGetInt_any a c zs 0 W hrW hl hcap).mono ?_
  rintro e w' ⟨rfl, rfl⟩
  rw [HG.out]
  simp only [triple]
  go_wp2_with fail
  refine (readParts_any a c zs p w' hrW hl hcap).mono ?_
  rintro e w1 ⟨hans, hb1⟩
  have B1 : Below w.heap.size w w1 := hbW.trans (hb1.mono hbW.size)
  have b1 := b0.below hb1 b0.lt
  obtain ⟨y0, y1, y2, e0, e1, e2⟩ := b1.three
  have hs1 := hb1.size
  cases hp : partsAt zs p with
  | none =>
    rw [hp] at hans
    obtain ⟨s, rfl⟩ := hans
    have HX : Hid (X = none) := HXX.out ▸ readAll_none1 hg hp
    clear hg hp
    obtain ⟨WF, hWF, bF, hwF, _⟩ := box3_fill b1 (.int .i64 0) (.slice none 0 0) (.slice none 0 0)
    have HB : Hid (Below w.heap.size w WF) := B1.trans (hwF.below (by omega) (by omega))
    clear hwF
    go_wp2
    rw [hWF.out]
    obtain ⟨q0, q1, q2, _, _, _⟩ := bF.three
    exact bodyPost_ret (v := .tuple #[.agg #[.int .i64 0, .slice none 0 0, .slice none 0 0], .iface 61 (.agg #[.string s])]) (by simp [results, Tryz.results23, go_sem, q0, q1, q2]) rfl ⟨readAns_none HX.out _, HB.out⟩
  | some t =>
  obtain ⟨is, q⟩ := t
  rw [hp] at hans
  obtain ⟨aI, cI, rfl, hoI⟩ := hans
  have hq5 := (partsAt_canon zs hr.1 p is q hp).1
  go_wp2_with fail
  refine (readParts_any a c zs q w1 (hr.below B1) hl hcap).mono ?_
  rintro e w2 ⟨hans, hb2⟩
  have B2 : Below w.heap.size w w2 := B1.trans (hb2.mono B1.size)
  have b2 := b1.below hb2 b1.lt
  obtain ⟨z0, z1, z2, g0, g1, g2⟩ := b2.three
  have hs2 := hb2.size
  have hoI2 := hoI.below hb2
  clear y0 y1 y2 e0 e1 e2 x0 x1 x2 f0 f1 f2
  cases hp2 : partsAt zs q with
  | none =>
    rw [hp2] at hans
    obtain ⟨s, rfl⟩ := hans
    have HX : Hid (X = none) := HXX.out ▸ readAll_none2 hg hp hp2
    clear hg hp hp2
    obtain ⟨WF, hWF, bF, hwF, _⟩ := box3_fill b2 (.int .i64 0) (.slice none 0 0) (.slice none 0 0)
    have HB : Hid (Below w.heap.size w WF) := B2.trans (hwF.below (by omega) (by omega))
    clear hwF
    go_wp2
    rw [hWF.out]
    obtain ⟨q0, q1, q2, _, _, _⟩ := bF.three
    exact bodyPost_ret (v := .tuple #[.agg #[.int .i64 0, .slice none 0 0, .slice none 0 0], .iface 61 (.agg #[.string s])]) (by simp [results, Tryz.results23, go_sem, q0, q1, q2]) rfl ⟨readAns_none HX.out _, HB.out⟩
  | some t =>
  obtain ⟨rs, r⟩ := t
  rw [hp2] at hans
  obtain ⟨aR, cR, rfl, hoR⟩ := hans
  have hr5 := (partsAt_canon zs hr.1 q rs r hp2).1
  have hX := readAll_at hg hp hp2
  clear hg hp hp2
  by_cases hrl : r = zs.length
  case neg =>
    have HX : Hid (X = none) := by rw [Hid, ← HXX.out, hX, if_neg hrl]
    have hrb : ((r : Int) == (zs.length : Int)) = false := by simp; omega
    clear hX hrl
    obtain ⟨WF, hWF, bF, hwF, _⟩ := box3_fill b2 (.int .i64 0) (.slice none 0 0) (.slice none 0 0)
    have HB : Hid (Below w.heap.size w WF) := B2.trans (hwF.below (by omega) (by omega))
    clear hwF
    go_wp2
    rw [hWF.out]
    obtain ⟨q0, q1, q2, _, _, _⟩ := bF.three
    exact bodyPost_ret (v := .tuple #[.agg #[.int .i64 0, .slice none 0 0, .slice none 0 0], .iface 61 (.agg #[.string _])]) (by simp [results, Tryz.results23, go_sem, q0, q1, q2]; rfl) rfl ⟨readAns_none HX.out _, HB.out⟩
  case pos =>
  have HX : Hid (X = some ⟨k, is, rs⟩) := by rw [Hid, ← HXX.out, hX, if_pos hrl]
  have hrb : ((r : Int) == (zs.length : Int)) = true := by simp; omega
  clear hX hrl
  obtain ⟨W3, hW3, b3, hbW3, hsW3⟩ := boxes1 w2 [.int .i64 k, .slice aI is.length cI, .slice aR rs.length cR] 26
  have hO3 : OwnO W3 w'.heap.size w2.heap.size aI cI aR cR ⟨k, is, rs⟩ := ⟨(hoI2.below hbW3).widen (Nat.le_refl _) (by omega) (by omega), (hoR.below hbW3).widen (by omega) (by omega) (by omega), fun j hj hj' => by have := (hoI.lt j hj).2; have := (hoR.lt j hj').1; omega⟩
  have b2' := b2.below hbW3 b2.lt
  have hkeep : ∀ w'', Below W3.heap.size W3 w'' → Box w'' w2.heap.size [.int .i64 k, .slice aI is.length cI, .slice aR rs.length cR] 26 ∧ Box w'' w.heap.size [.int .i64 0, .slice none 0 0, .slice none 0 0] 26 :=
    fun w'' hh => ⟨b3.below hh b3.lt, b2'.below hh b2'.lt⟩
  have B3 : Below w.heap.size w W3 := B2.trans (hbW3.mono B2.size)
  go_wp2_with fail
  rw [hW3.out]
  have hk0 := hkeep W3 (Below.refl _ _)
  have hcells : ∀ w'', Below W3.heap.size W3 w'' → (w''.cell? ⟨w2.heap.size, 0, none⟩ = some (.int .i64 k) ∧ w''.cell? ⟨w2.heap.size, 1, none⟩ = some (.slice aI is.length cI) ∧ w''.cell? ⟨w2.heap.size, 2, none⟩ = some (.slice aR rs.length cR)) ∧ (w''.cell? ⟨w.heap.size, 0, none⟩ = some (.int .i64 0) ∧ w''.cell? ⟨w.heap.size, 1, none⟩ = some (.slice none 0 0) ∧ w''.cell? ⟨w.heap.size, 2, none⟩ = some (.slice none 0 0)) ∧ (w''.frozen? ⟨w.heap.size, 0, none⟩ = false ∧ w''.frozen? ⟨w.heap.size, 1, none⟩ = false ∧ w''.frozen? ⟨w.heap.size, 2, none⟩ = false) := by
    intro w'' hh
    obtain ⟨ba, bb⟩ := hkeep w'' hh
    exact ⟨⟨ba.cell 0 _ rfl, ba.cell 1 _ rfl, ba.cell 2 _ rfl⟩, ⟨bb.cell 0 _ rfl, bb.cell 1 _ rfl, bb.cell 2 _ rfl⟩, bb.frozen 0, bb.frozen 1, bb.frozen 2⟩
  have hh := hcells W3 (Below.refl _ _)
  clear hk0
  have hne : w.heap.size < w2.heap.size := by omega
  have hne' : ¬ (w2.heap.size = w.heap.size) := by omega
  go_region_held3 (fun w'' => w''.cell? ⟨w2.heap.size, 0, none⟩ = some (.int .i64 k) ∧ w''.cell? ⟨w2.heap.size, 1, none⟩ = some (.slice aI is.length cI) ∧ w''.cell? ⟨w2.heap.size, 2, none⟩ = some (.slice aR rs.length cR))
    (first | exact (hcells _ hw5).1 | exact ⟨((((hkeep _ hw5).1.other hne').other hne').other hne').cell 0 _ rfl, ((((hkeep _ hw5).1.other hne').other hne').other hne').cell 1 _ rfl, ((((hkeep _ hw5).1.other hne').other hne').other hne').cell 2 _ rfl⟩ | go_keep)
    (first | (go_at_call 21; refine (checkObj_any ⟨k, is, rs⟩ aI cI aR cR _ hO3.reads.drew (by simp only; omega) (by simp only; omega)).mono ?_; rintro e w5 ⟨hie, hb5⟩; obtain ⟨ev, rfl⟩ := isErr_ret hie; have hw5 : Below W3.heap.size W3 w5 := (Below.refl _ _).drew.trans hb5; obtain ⟨⟨m0, m1, m2⟩, ⟨y0, y1, y2⟩, e0, e1, e2⟩ := hcells _ hw5))
  obtain ⟨WF, hWF, bF, hwF, hsF⟩ := box3_fill (hkeep _ hw5).2 (.int .i64 k) (.slice aI is.length cI) (.slice aR rs.length cR)
  rw [hWF.out]
  go_wp2
  obtain ⟨q0, q1, q2, _, _, _⟩ := bF.three
  have hs5 := hw5.size
  have hOF : OwnO WF w'.heap.size w2.heap.size aI cI aR cR ⟨k, is, rs⟩ := (hO3.below hw5).within hwF (.inr (by omega))
  exact bodyPost_ret (v := .tuple #[.agg #[.int .i64 k, .slice aI is.length cI, .slice aR rs.length cR], ev]) (by simp [results, Tryz.results23, go_sem, q0, q1, q2]) rfl ⟨readAns_some HX.out hie (hOF.widen (by omega) (by omega) (Nat.le_refl _)), (B3.trans (hw5.mono B3.size)).trans (hwF.below (Nat.le_refl _) (by omega))⟩

set_option maxHeartbeats 4000000 in
set_option maxRecDepth 100000 in
theorem implGetObj_any (a : Option Addr) (c : Nat) (zs : List Int) (w : World) (hg : ErrT w) (hr : Reads w a zs) (hl : zs.length ≤ 70368744177664) (hcap : zs.length ≤ c) :
    Calls Tryz.prog 10 #[.slice a zs.length c] w fun e w' => ∃ aI cI aR cR o ok, e = .returned (.tuple #[.agg #[.int .i64 o.kind, .slice aI o.ints.length cI, .slice aR o.refs.length cR], .bool ok]) ∧ Hid (getPair zs = (o, ok)) ∧ OwnO w' w.heap.size w'.heap.size aI cI aR cR o ∧ Below w.heap.size w w' := by
  have HN : Hid (readAll zs = none → getPair zs = (noO, false)) := getPair_none zs
  have HBD : Hid (∀ o, readAll zs = some o → okB o = false → getPair zs = (noO, false)) := fun o => getPair_bad zs o
  have HGD : Hid (∀ o, readAll zs = some o → okB o = true → getPair zs = (o, true)) := fun o => getPair_some zs hr.1 o
  generalize getPair zs = PR at *
  obtain ⟨W, hW, b0, hbW, hsW⟩ := boxes1 w [.int .i64 0, .slice none 0 0, .slice none 0 0] 26
  go_enter Tryz.func10, Tryz.ntmps10
  go_wp2_with fail
  rw [hW.out]
  refine (readObj_any a c zs W (hr.below hbW) hl hcap).mono ?_
  rintro e w1 ⟨hans, hb1⟩
  have B1 : Below w.heap.size w w1 := hbW.trans (hb1.mono hbW.size)
  have b1 := b0.below hb1 b0.lt
  have hs1 := hb1.size
  cases hx : readAll zs with
  | none =>
    have HP : Hid (_ = _) := HN.out hx
    rw [hx] at hans
    obtain ⟨s, rfl⟩ := hans
    clear hx
    go_wp2_with fail
    refine (foundObj_no 0 none 0 0 none 0 0 s w1 (hg.keep B1)).mono ?_
    rintro e w2 ⟨rfl, hb2⟩
    have B2 : Below w.heap.size w w2 := B1.trans (hb2.mono B1.size)
    have b2 := b1.below hb2 b1.lt
    have hs2 := hb2.size
    obtain ⟨y0, y1, y2, f0, f1, f2⟩ := b2.three
    obtain ⟨WF, hWF, bF, hwF, _⟩ := box3_fill b2 (.int .i64 0) (.slice none 0 0) (.slice none 0 0)
    have HB : Hid (Below w.heap.size w WF) := B2.trans (hwF.below (by omega) (by omega))
    clear hwF
    go_wp2
    rw [hWF.out]
    obtain ⟨q0, q1, q2, _, _, _⟩ := bF.three
    exact bodyPost_ret (v := .tuple #[.agg #[.int .i64 0, .slice none 0 0, .slice none 0 0], .bool false]) (by simp [results, Tryz.results10, go_sem, q0, q1, q2]) rfl ⟨none, 0, none, 0, noO, false, rfl, HP.out, ⟨ownI_nil _ _ _ (Nat.le_refl _), ownI_nil _ _ _ (Nat.le_refl _), fun k hk => by cases hk⟩, HB.out⟩
  | some o =>
    rw [hx] at hans
    obtain ⟨aI, cI, aR, cR, ev, rfl, hie, ho⟩ := hans
    rcases hie with ⟨hok, hev⟩ | ⟨hok, s, hev⟩
    · obtain rfl : ev = .nilIface := by simpa using hev
      have HP : Hid (_ = _) := HGD.out o hx hok
      clear hx hok hev
      go_wp2_with fail
      refine (foundObj_ok o.kind aI o.ints.length cI aR o.refs.length cR w1).mono ?_
      rintro e w2 ⟨rfl, hb2⟩
      have B2 : Below w.heap.size w w2 := B1.trans (hb2.mono B1.size)
      have b2 := b1.below hb2 b1.lt
      have hs2 := hb2.size
      obtain ⟨y0, y1, y2, f0, f1, f2⟩ := b2.three
      obtain ⟨WF, hWF, bF, hwF, hsF⟩ := box3_fill b2 (.int .i64 o.kind) (.slice aI o.ints.length cI) (.slice aR o.refs.length cR)
      have HB : Hid (Below w.heap.size w WF) := B2.trans (hwF.below (by omega) (by omega))
      have HO : Hid (OwnO WF w.heap.size WF.heap.size aI cI aR cR o) := ((ho.below hb2).within hwF (.inr (by omega))).widen (by omega) (by omega) (Nat.le_refl _)
      clear hwF
      go_wp2
      rw [hWF.out]
      obtain ⟨q0, q1, q2, _, _, _⟩ := bF.three
      exact bodyPost_ret (v := .tuple #[.agg #[.int .i64 o.kind, .slice aI o.ints.length cI, .slice aR o.refs.length cR], .bool true]) (by simp [results, Tryz.results10, go_sem, q0, q1, q2]) rfl ⟨aI, cI, aR, cR, o, true, rfl, HP.out, HO.out, HB.out⟩
    · obtain rfl : ev = _ := by simpa using hev
      have HP : Hid (_ = _) := HBD.out o hx hok
      clear hx hok hev
      go_wp2_with fail
      refine (foundObj_no o.kind aI o.ints.length cI aR o.refs.length cR s w1 (hg.keep B1)).mono ?_
      rintro e w2 ⟨rfl, hb2⟩
      have B2 : Below w.heap.size w w2 := B1.trans (hb2.mono B1.size)
      have b2 := b1.below hb2 b1.lt
      have hs2 := hb2.size
      obtain ⟨y0, y1, y2, f0, f1, f2⟩ := b2.three
      obtain ⟨WF, hWF, bF, hwF, _⟩ := box3_fill b2 (.int .i64 0) (.slice none 0 0) (.slice none 0 0)
      have HB : Hid (Below w.heap.size w WF) := B2.trans (hwF.below (by omega) (by omega))
      clear hwF
      go_wp2
      rw [hWF.out]
      obtain ⟨q0, q1, q2, _, _, _⟩ := bF.three
      exact bodyPost_ret (v := .tuple #[.agg #[.int .i64 0, .slice none 0 0, .slice none 0 0], .bool false]) (by simp [results, Tryz.results10, go_sem, q0, q1, q2]) rfl ⟨none, 0, none, 0, noO, false, rfl, HP.out, ⟨ownI_nil _ _ _ (Nat.le_refl _), ownI_nil _ _ _ (Nat.le_refl _), fun k hk => by cases hk⟩, HB.out⟩
end Go.Proofs.YtdibmepjbabnnabGreatDoor

/- The walks of impl.parseObj and impl.ParseObj. -/
namespace Go.Proofs.YtdibmepjbabnnabGreatDoor
open Go.RowKit

/-- What parseObj reads, right or not. -/
def readText (L : List Int) : Option ObjV := match cutOf 40 L with
  | none => none
  | some (kt, r1) => match cutOf 59 r1 with
    | none => none
    | some (it, r2) => match cutOf 41 r2 with
      | none => none
      | some (rt, r3) => if r3 = [] then (match pNum kt, partsBy pNum it, partsBy pNum rt with
        | some k, some is, some rs => some ⟨k, is, rs⟩
        | _, _, _ => none) else none
theorem implParse_read (L : List Int) : implParse L = match readText L with
    | none => none
    | some o => if okB o then some o else none := by
  unfold implParse readText
  cases cutOf 40 L with
  | none => rfl
  | some p =>
    obtain ⟨kt, r1⟩ := p
    simp only
    cases cutOf 59 r1 with
    | none => rfl
    | some p =>
      obtain ⟨it, r2⟩ := p
      simp only
      cases cutOf 41 r2 with
      | none => rfl
      | some p =>
        obtain ⟨rt, r3⟩ := p
        simp only
        by_cases h : r3 = []
        · rw [if_pos h, if_pos h]
          unfold okO
          cases pNum kt <;> cases partsBy pNum it <;> cases partsBy pNum rt <;> rfl
        · rw [if_neg h, if_neg h]

/-- What is answered of a text. -/
def parsePair (L : List Int) : ObjV × Bool := match specParse L with
  | some o => (o, true)
  | none => (noO, false)
theorem parsePair_none {L : List Int} (h : readText L = none) : parsePair L = (noO, false) := by
  unfold parsePair; rw [← parse_one, implParse_read, h]
theorem parsePair_bad {L : List Int} {o : ObjV} (h : readText L = some o) (hok : okB o = false) : parsePair L = (noO, false) := by
  unfold parsePair; rw [← parse_one, implParse_read, h]; simp [hok]
theorem parsePair_some {L : List Int} {o : ObjV} (h : readText L = some o) (hok : okB o = true) : parsePair L = (o, true) := by
  unfold parsePair; rw [← parse_one, implParse_read, h]; simp [hok]

theorem readText_none1 {L : List Int} (h : cutOf 40 L = none) : readText L = none := by unfold readText; rw [h]
theorem readText_none2 {L kt r1 : List Int} (h : cutOf 40 L = some (kt, r1)) (h2 : cutOf 59 r1 = none) : readText L = none := by unfold readText; rw [h]; simp only; rw [h2]
theorem readText_none3 {L kt r1 it r2 : List Int} (h : cutOf 40 L = some (kt, r1)) (h2 : cutOf 59 r1 = some (it, r2)) (h3 : cutOf 41 r2 = none) : readText L = none := by
  unfold readText; rw [h]; simp only; rw [h2]; simp only; rw [h3]
theorem readText_at {L kt r1 it r2 rt r3 : List Int} (h : cutOf 40 L = some (kt, r1)) (h2 : cutOf 59 r1 = some (it, r2)) (h3 : cutOf 41 r2 = some (rt, r3)) : readText L = if r3 = [] then (match pNum kt, partsBy pNum it, partsBy pNum rt with
        | some k, some is, some rs => some ⟨k, is, rs⟩
        | _, _, _ => none) else none := by
  unfold readText; rw [h]; simp only; rw [h2]; simp only; rw [h3]

/-- The number of parts that are parsed is no more than the text is long. -/
theorem allBy_len (f : List Int → Option Int) : ∀ (ps : List (List Int)) (l : List Int), allBy f ps = some l → l.length = ps.length := by
  intro ps
  induction ps with
  | nil => intro l h; simp [allBy] at h; subst h; rfl
  | cons p r ih =>
    intro l h
    unfold allBy at h
    cases hp : f p with
    | none => rw [hp] at h; cases h
    | some z =>
      rw [hp] at h
      cases hr : allBy f r with
      | none => simp [hr] at h
      | some l' =>
        simp only [hr, Option.map_some, Option.some.injEq] at h
        subst h
        simp [ih l' hr]
theorem partsBy_len (f : List Int → Option Int) (L l : List Int) (h : partsBy f L = some l) : l.length ≤ L.length + 1 := by
  unfold partsBy at h
  split at h
  · simp only [Option.some.injEq] at h
    subst h; simp
  · rw [allBy_len f _ _ h]; exact split_len 44 L

theorem cutAns_true {s : ByteArray} {c : UInt8} {A B : ByteArray} (h : CutAns s c A B true) : cutOf (toI c) (sBytes s) = some (sBytes A, sBytes B) := by
  rcases h with ⟨_, h⟩ | ⟨h, _⟩
  · exact h
  · cases h
theorem cutAns_false {s : ByteArray} {c : UInt8} {A B : ByteArray} (h : CutAns s c A B false) : cutOf (toI c) (sBytes s) = none := by
  rcases h with ⟨h, _⟩ | ⟨_, h⟩
  · cases h
  · exact h
theorem toI_40 : toI 40 = 40 := rfl
theorem toI_59 : toI 59 = 59 := rfl
theorem toI_41 : toI 41 = 41 := rfl

set_option maxHeartbeats 8000000 in
set_option maxRecDepth 100000 in
theorem parseObj_any (s : ByteArray) (w : World) (he : EnvP w) (hs : s.size ≤ 1048576) :
    Calls Tryz.prog 24 #[.string s] w fun e w' => ReadAns w' w.heap.size (readText (sBytes s)) e ∧ Below w.heap.size w w' := by
  generalize hXX : readText (sBytes s) = X
  have HXX : Hid (readText (sBytes s) = X) := hXX
  clear hXX
  obtain ⟨W, hW, b0, hbW, hsW⟩ := boxes1 w [.int .i64 0, .slice none 0 0, .slice none 0 0] 26
  have hsW' : w.heap.size < W.heap.size := b0.lt
  clear hsW
  go_enter Tryz.func24, Tryz.ntmps24
  go_wp2_with fail
  rw [hW.out]
  refine (cutS_any s 40 W (he.keep hbW) hs).mono ?_
  rintro e w1 ⟨K, R1, f1, rfl, hc1, hk1, hr1, hb1⟩
  have B1 : Below w.heap.size w w1 := hbW.trans (hb1.mono hbW.size)
  have hs1 := hb1.size
  go_wp2_with fail
  refine (cutS_any R1 59 w1 (he.keep B1) (by omega)).mono ?_
  rintro e w2 ⟨I, R2, f2, rfl, hc2, hk2, hr2, hb2⟩
  have B2 : Below w.heap.size w w2 := B1.trans (hb2.mono B1.size)
  have hs2 := hb2.size
  go_wp2_with fail
  refine (cutS_any R2 41 w2 (he.keep B2) (by omega)).mono ?_
  rintro e w3 ⟨F, R3, f3, rfl, hc3, hk3, hr3, hb3⟩
  have B3 : Below w.heap.size w w3 := B2.trans (hb3.mono B2.size)
  have hs3 := hb3.size
  have M3 : Below W.heap.size W w3 := (hb1.trans (hb2.mono hs1)).trans (hb3.mono (by omega))
  have b3 := b0.below M3 b0.lt
  obtain ⟨y0, y1, y2, e0, e1, e2⟩ := b3.three
  have he3 := he.keep B3
  -- what is answered where the signs are wrong
  have hbad : ∀ (G : Prop), (X = none → G) → (f1 = false ∨ f2 = false ∨ f3 = false ∨ ¬ sBytes R3 = []) → G := by
    intro G hG hf
    apply hG
    rw [← HXX.out]
    cases f1 with
    | false => have := cutAns_false hc1; rw [toI_40] at this; exact readText_none1 this
    | true =>
      have h1 := cutAns_true hc1
      rw [toI_40] at h1
      cases f2 with
      | false => have := cutAns_false hc2; rw [toI_59] at this; exact readText_none2 h1 this
      | true =>
        have h2 := cutAns_true hc2
        rw [toI_59] at h2
        cases f3 with
        | false => have := cutAns_false hc3; rw [toI_41] at this; exact readText_none3 h1 h2 this
        | true =>
          have h3 := cutAns_true hc3
          rw [toI_41] at h3
          rw [readText_at h1 h2 h3, if_neg]
          rcases hf with h | h | h | h
          · cases h
          · cases h
          · cases h
          · exact h
  by_cases hgood : f1 = true ∧ f2 = true ∧ f3 = true ∧ sBytes R3 = []
  case neg =>
    have HX : Hid (X = none) := by
      apply hbad _ id
      cases f1 <;> cases f2 <;> cases f3 <;> simp_all
    obtain ⟨WF, hWF, bF, hwF, _⟩ := box3_fill b3 (.int .i64 0) (.slice none 0 0) (.slice none 0 0)
    have HB : Hid (Below w.heap.size w WF) := B3.trans (hwF.below (by omega) (by omega))
    have hcs : f1 = false ∨ (f1 = true ∧ f2 = false) ∨ (f1 = true ∧ f2 = true ∧ f3 = false) ∨ (f1 = true ∧ f2 = true ∧ f3 = true ∧ (R3.toList == []) = false) := by
      cases f1 with
      | false => exact .inl rfl
      | true =>
        cases f2 with
        | false => exact .inr (.inl ⟨rfl, rfl⟩)
        | true =>
          cases f3 with
          | false => exact .inr (.inr (.inl ⟨rfl, rfl, rfl⟩))
          | true =>
            refine .inr (.inr (.inr ⟨rfl, rfl, rfl, ?_⟩))
            rw [beq_eq_false_iff_ne]
            intro e
            apply hgood
            refine ⟨rfl, rfl, rfl, ?_⟩
            rw [ByteArray.toList_eq] at e
            rw [sBytes_toI, e]; rfl
    clear hwF hbad hgood hc1 hc2 hc3
    rcases hcs with rfl | ⟨rfl, rfl⟩ | ⟨rfl, rfl, rfl⟩ | ⟨rfl, rfl, rfl, hne⟩
    all_goals
      go_wp2
      rw [hWF.out]
      obtain ⟨q0, q1, q2, _, _, _⟩ := bF.three
      exact bodyPost_ret (v := .tuple #[.agg #[.int .i64 0, .slice none 0 0, .slice none 0 0], .iface 61 (.agg #[.string _])]) (by simp [results, Tryz.results24, go_sem, q0, q1, q2]; rfl) rfl ⟨readAns_none HX.out _, HB.out⟩
  case pos =>
  obtain ⟨rfl, rfl, rfl, hr0⟩ := hgood
  have h1 := cutAns_true hc1
  have h2 := cutAns_true hc2
  have h3 := cutAns_true hc3
  rw [toI_40] at h1
  rw [toI_59] at h2
  rw [toI_41] at h3
  have hX := readText_at h1 h2 h3
  rw [if_pos hr0, HXX.out] at hX
  have hempty : (R3.toList == []) = true := by
    have : R3 = ⟨#[]⟩ := sBytes_inj (by rw [hr0]; rfl)
    rw [this, ByteArray.toList_eq]; rfl
  clear hbad h1 h2 h3 hc1 hc2 hc3 hr0 HXX
  have hpn := parseNumber_any K w3 he3 (by omega)
  cases hkn : pNum (sBytes K) with
  | none =>
    rw [hkn] at hpn hX
    have HX : Hid (X = none) := hX
    clear hX hkn
    simp only [numAns] at hpn
    go_wp2_with fail
    refine hpn.mono ?_
    clear hpn
    rintro e w4 ⟨rfl, hb4⟩
    have hs4 := hb4.size
    have B4 : Below w.heap.size w w4 := B3.trans (hb4.mono B3.size)
    have b4 := b3.below hb4 b3.lt
    clear y0 y1 y2 e0 e1 e2
    obtain ⟨y0, y1, y2, e0, e1, e2⟩ := b4.three
    obtain ⟨WF, hWF, bF, hwF, _⟩ := box3_fill b4 (.int .i64 0) (.slice none 0 0) (.slice none 0 0)
    have HB : Hid (Below w.heap.size w WF) := B4.trans (hwF.below (by omega) (by omega))
    clear hwF
    go_wp2
    rw [hWF.out]
    obtain ⟨q0, q1, q2, _, _, _⟩ := bF.three
    exact bodyPost_ret (v := .tuple #[.agg #[.int .i64 0, .slice none 0 0, .slice none 0 0], .iface 61 (.agg #[.string _])]) (by simp [results, Tryz.results24, go_sem, q0, q1, q2]; rfl) rfl ⟨readAns_none HX.out _, HB.out⟩
  | some k =>
  rw [hkn] at hpn hX
  simp only [numAns] at hpn
  clear hkn
  go_wp2_with fail
  refine hpn.mono ?_
  clear hpn
  rintro e w4 ⟨rfl, hb4⟩
  have hs4 := hb4.size
  have B4 : Below w.heap.size w w4 := B3.trans (hb4.mono B3.size)
  have b4 := b3.below hb4 b3.lt
  clear y0 y1 y2 e0 e1 e2
  go_wp2_with fail
  refine (parseParts_any I w4 (he.keep B4) (by omega)).mono ?_
  rintro e w5 ⟨hans, hb5⟩
  have hs5 := hb5.size
  have B5 : Below w.heap.size w w5 := B4.trans (hb5.mono B4.size)
  have b5 := b4.below hb5 b4.lt
  obtain ⟨y0, y1, y2, e0, e1, e2⟩ := b5.three
  cases hin : partsBy pNum (sBytes I) with
  | none =>
    rw [hin] at hans hX
    obtain ⟨sI, rfl⟩ := hans
    have HX : Hid (X = none) := hX
    clear hX hin
    obtain ⟨WF, hWF, bF, hwF, _⟩ := box3_fill b5 (.int .i64 0) (.slice none 0 0) (.slice none 0 0)
    have HB : Hid (Below w.heap.size w WF) := B5.trans (hwF.below (by omega) (by omega))
    clear hwF
    go_wp2
    rw [hWF.out]
    obtain ⟨q0, q1, q2, _, _, _⟩ := bF.three
    exact bodyPost_ret (v := .tuple #[.agg #[.int .i64 0, .slice none 0 0, .slice none 0 0], .iface 61 (.agg #[.string sI])]) (by simp [results, Tryz.results24, go_sem, q0, q1, q2]) rfl ⟨readAns_none HX.out _, HB.out⟩
  | some is =>
  have hil := partsBy_len pNum _ _ hin
  rw [sBytes_len] at hil
  rw [hin] at hans hX
  obtain ⟨aI, cI, rfl, hoI⟩ := hans
  clear hin y0 y1 y2 e0 e1 e2
  go_wp2_with fail
  refine (parseParts_any F w5 (he.keep B5) (by omega)).mono ?_
  rintro e w6 ⟨hans, hb6⟩
  have hs6 := hb6.size
  have B6 : Below w.heap.size w w6 := B5.trans (hb6.mono B5.size)
  have b6 := b5.below hb6 b5.lt
  obtain ⟨y0, y1, y2, e0, e1, e2⟩ := b6.three
  have hoI6 := hoI.below hb6
  cases hrn : partsBy pNum (sBytes F) with
  | none =>
    rw [hrn] at hans hX
    obtain ⟨sI, rfl⟩ := hans
    have HX : Hid (X = none) := hX
    clear hX hrn
    obtain ⟨WF, hWF, bF, hwF, _⟩ := box3_fill b6 (.int .i64 0) (.slice none 0 0) (.slice none 0 0)
    have HB : Hid (Below w.heap.size w WF) := B6.trans (hwF.below (by omega) (by omega))
    clear hwF
    go_wp2
    rw [hWF.out]
    obtain ⟨q0, q1, q2, _, _, _⟩ := bF.three
    exact bodyPost_ret (v := .tuple #[.agg #[.int .i64 0, .slice none 0 0, .slice none 0 0], .iface 61 (.agg #[.string sI])]) (by simp [results, Tryz.results24, go_sem, q0, q1, q2]) rfl ⟨readAns_none HX.out _, HB.out⟩
  | some rs =>
  have hrl := partsBy_len pNum _ _ hrn
  rw [sBytes_len] at hrl
  rw [hrn] at hans hX
  obtain ⟨aR, cR, rfl, hoR⟩ := hans
  have HX : Hid (X = some ⟨k, is, rs⟩) := hX
  clear hX hrn
  obtain ⟨W7, hW7, b7, hbW7, hsW7⟩ := boxes1 w6 [.int .i64 k, .slice aI is.length cI, .slice aR rs.length cR] 26
  have hO7 : OwnO W7 w4.heap.size w6.heap.size aI cI aR cR ⟨k, is, rs⟩ := ⟨(hoI6.below hbW7).widen (Nat.le_refl _) (by omega) (by omega), (hoR.below hbW7).widen (by omega) (by omega) (by omega), fun j hj hj' => by have := (hoI.lt j hj).2; have := (hoR.lt j hj').1; omega⟩
  have b6' := b6.below hbW7 b6.lt
  have hkeep : ∀ w'', Below W7.heap.size W7 w'' → Box w'' w6.heap.size [.int .i64 k, .slice aI is.length cI, .slice aR rs.length cR] 26 ∧ Box w'' w.heap.size [.int .i64 0, .slice none 0 0, .slice none 0 0] 26 :=
    fun w'' hh => ⟨b7.below hh b7.lt, b6'.below hh b6'.lt⟩
  have B7 : Below w.heap.size w W7 := B6.trans (hbW7.mono B6.size)
  have hcells : ∀ w'', Below W7.heap.size W7 w'' → (w''.cell? ⟨w6.heap.size, 0, none⟩ = some (.int .i64 k) ∧ w''.cell? ⟨w6.heap.size, 1, none⟩ = some (.slice aI is.length cI) ∧ w''.cell? ⟨w6.heap.size, 2, none⟩ = some (.slice aR rs.length cR)) ∧ (w''.cell? ⟨w.heap.size, 0, none⟩ = some (.int .i64 0) ∧ w''.cell? ⟨w.heap.size, 1, none⟩ = some (.slice none 0 0) ∧ w''.cell? ⟨w.heap.size, 2, none⟩ = some (.slice none 0 0)) ∧ (w''.frozen? ⟨w.heap.size, 0, none⟩ = false ∧ w''.frozen? ⟨w.heap.size, 1, none⟩ = false ∧ w''.frozen? ⟨w.heap.size, 2, none⟩ = false) := by
    intro w'' hh
    obtain ⟨ba, bb⟩ := hkeep w'' hh
    exact ⟨⟨ba.cell 0 _ rfl, ba.cell 1 _ rfl, ba.cell 2 _ rfl⟩, ⟨bb.cell 0 _ rfl, bb.cell 1 _ rfl, bb.cell 2 _ rfl⟩, bb.frozen 0, bb.frozen 1, bb.frozen 2⟩
  have hne : w.heap.size < w6.heap.size := b6.lt
  have hne' : ¬ (w6.heap.size = w.heap.size) := by omega
  go_wp2_with fail
  rw [hW7.out]
  clear y0 y1 y2 e0 e1 e2
  have hh := hcells W7 (Below.refl _ _)
  go_region_held3 (fun w'' => w''.cell? ⟨w6.heap.size, 0, none⟩ = some (.int .i64 k) ∧ w''.cell? ⟨w6.heap.size, 1, none⟩ = some (.slice aI is.length cI) ∧ w''.cell? ⟨w6.heap.size, 2, none⟩ = some (.slice aR rs.length cR))
    (first | exact (hcells _ hw8).1 | exact ⟨((((hkeep _ hw8).1.other hne').other hne').other hne').cell 0 _ rfl, ((((hkeep _ hw8).1.other hne').other hne').other hne').cell 1 _ rfl, ((((hkeep _ hw8).1.other hne').other hne').other hne').cell 2 _ rfl⟩ | go_keep)
    (first | (go_at_call 21; refine (checkObj_any ⟨k, is, rs⟩ aI cI aR cR _ hO7.reads.drew (by simp only; omega) (by simp only; omega)).mono ?_; rintro e w8 ⟨hie, hb8⟩; obtain ⟨ev, rfl⟩ := isErr_ret hie; have hw8 : Below W7.heap.size W7 w8 := (Below.refl _ _).drew.trans hb8; obtain ⟨⟨m0, m1, m2⟩, ⟨y0, y1, y2⟩, e0, e1, e2⟩ := hcells _ hw8))
  obtain ⟨WF, hWF, bF, hwF, hsF⟩ := box3_fill (hkeep _ hw8).2 (.int .i64 k) (.slice aI is.length cI) (.slice aR rs.length cR)
  rw [hWF.out]
  go_wp2
  obtain ⟨q0, q1, q2, _, _, _⟩ := bF.three
  have hs8 := hw8.size
  have hOF : OwnO WF w4.heap.size w6.heap.size aI cI aR cR ⟨k, is, rs⟩ := (hO7.below hw8).within hwF (.inr (by omega))
  exact bodyPost_ret (v := .tuple #[.agg #[.int .i64 k, .slice aI is.length cI, .slice aR rs.length cR], ev]) (by simp [results, Tryz.results24, go_sem, q0, q1, q2]) rfl ⟨readAns_some HX.out hie (hOF.widen (by omega) (by omega) (Nat.le_refl _)), (B7.trans (hw8.mono B7.size)).trans (hwF.below (Nat.le_refl _) (by omega))⟩

set_option maxHeartbeats 4000000 in
set_option maxRecDepth 100000 in
theorem implParseObj_any (s : ByteArray) (w : World) (he : EnvP w) (hs : s.size ≤ 1048576) :
    Calls Tryz.prog 11 #[.string s] w fun e w' => ∃ aI cI aR cR o ok, e = .returned (.tuple #[.agg #[.int .i64 o.kind, .slice aI o.ints.length cI, .slice aR o.refs.length cR], .bool ok]) ∧ Hid (parsePair (sBytes s) = (o, ok)) ∧ OwnO w' w.heap.size w'.heap.size aI cI aR cR o ∧ Below w.heap.size w w' := by
  have HN : Hid (readText (sBytes s) = none → parsePair (sBytes s) = (noO, false)) := parsePair_none
  have HBD : Hid (∀ o, readText (sBytes s) = some o → okB o = false → parsePair (sBytes s) = (noO, false)) := fun o => parsePair_bad
  have HGD : Hid (∀ o, readText (sBytes s) = some o → okB o = true → parsePair (sBytes s) = (o, true)) := fun o => parsePair_some
  generalize parsePair (sBytes s) = PR at *
  obtain ⟨W, hW, b0, hbW, hsW⟩ := boxes1 w [.int .i64 0, .slice none 0 0, .slice none 0 0] 26
  have hg : ErrT w := he.text.err
  go_enter Tryz.func11, Tryz.ntmps11
  go_wp2_with fail
  rw [hW.out]
  refine (parseObj_any s W (he.keep hbW) hs).mono ?_
  rintro e w1 ⟨hans, hb1⟩
  have B1 : Below w.heap.size w w1 := hbW.trans (hb1.mono hbW.size)
  have b1 := b0.below hb1 b0.lt
  have hs1 := hb1.size
  cases hx : readText (sBytes s) with
  | none =>
    have HP : Hid (_ = _) := HN.out hx
    rw [hx] at hans
    obtain ⟨s, rfl⟩ := hans
    clear hx
    go_wp2_with fail
    refine (foundObj_no 0 none 0 0 none 0 0 s w1 (hg.keep B1)).mono ?_
    rintro e w2 ⟨rfl, hb2⟩
    have B2 : Below w.heap.size w w2 := B1.trans (hb2.mono B1.size)
    have b2 := b1.below hb2 b1.lt
    have hs2 := hb2.size
    obtain ⟨y0, y1, y2, f0, f1, f2⟩ := b2.three
    obtain ⟨WF, hWF, bF, hwF, _⟩ := box3_fill b2 (.int .i64 0) (.slice none 0 0) (.slice none 0 0)
    have HB : Hid (Below w.heap.size w WF) := B2.trans (hwF.below (by omega) (by omega))
    clear hwF
    go_wp2
    rw [hWF.out]
    obtain ⟨q0, q1, q2, _, _, _⟩ := bF.three
    exact bodyPost_ret (v := .tuple #[.agg #[.int .i64 0, .slice none 0 0, .slice none 0 0], .bool false]) (by simp [results, Tryz.results11, go_sem, q0, q1, q2]) rfl ⟨none, 0, none, 0, noO, false, rfl, HP.out, ⟨ownI_nil _ _ _ (Nat.le_refl _), ownI_nil _ _ _ (Nat.le_refl _), fun k hk => by cases hk⟩, HB.out⟩
  | some o =>
    rw [hx] at hans
    obtain ⟨aI, cI, aR, cR, ev, rfl, hie, ho⟩ := hans
    rcases hie with ⟨hok, hev⟩ | ⟨hok, s, hev⟩
    · obtain rfl : ev = .nilIface := by simpa using hev
      have HP : Hid (_ = _) := HGD.out o hx hok
      clear hx hok hev
      go_wp2_with fail
      refine (foundObj_ok o.kind aI o.ints.length cI aR o.refs.length cR w1).mono ?_
      rintro e w2 ⟨rfl, hb2⟩
      have B2 : Below w.heap.size w w2 := B1.trans (hb2.mono B1.size)
      have b2 := b1.below hb2 b1.lt
      have hs2 := hb2.size
      obtain ⟨y0, y1, y2, f0, f1, f2⟩ := b2.three
      obtain ⟨WF, hWF, bF, hwF, hsF⟩ := box3_fill b2 (.int .i64 o.kind) (.slice aI o.ints.length cI) (.slice aR o.refs.length cR)
      have HB : Hid (Below w.heap.size w WF) := B2.trans (hwF.below (by omega) (by omega))
      have HO : Hid (OwnO WF w.heap.size WF.heap.size aI cI aR cR o) := ((ho.below hb2).within hwF (.inr (by omega))).widen (by omega) (by omega) (Nat.le_refl _)
      clear hwF
      go_wp2
      rw [hWF.out]
      obtain ⟨q0, q1, q2, _, _, _⟩ := bF.three
      exact bodyPost_ret (v := .tuple #[.agg #[.int .i64 o.kind, .slice aI o.ints.length cI, .slice aR o.refs.length cR], .bool true]) (by simp [results, Tryz.results11, go_sem, q0, q1, q2]) rfl ⟨aI, cI, aR, cR, o, true, rfl, HP.out, HO.out, HB.out⟩
    · obtain rfl : ev = _ := by simpa using hev
      have HP : Hid (_ = _) := HBD.out o hx hok
      clear hx hok hev
      go_wp2_with fail
      refine (foundObj_no o.kind aI o.ints.length cI aR o.refs.length cR s w1 (hg.keep B1)).mono ?_
      rintro e w2 ⟨rfl, hb2⟩
      have B2 : Below w.heap.size w w2 := B1.trans (hb2.mono B1.size)
      have b2 := b1.below hb2 b1.lt
      have hs2 := hb2.size
      obtain ⟨y0, y1, y2, f0, f1, f2⟩ := b2.three
      obtain ⟨WF, hWF, bF, hwF, _⟩ := box3_fill b2 (.int .i64 0) (.slice none 0 0) (.slice none 0 0)
      have HB : Hid (Below w.heap.size w WF) := B2.trans (hwF.below (by omega) (by omega))
      clear hwF
      go_wp2
      rw [hWF.out]
      obtain ⟨q0, q1, q2, _, _, _⟩ := bF.three
      exact bodyPost_ret (v := .tuple #[.agg #[.int .i64 0, .slice none 0 0, .slice none 0 0], .bool false]) (by simp [results, Tryz.results11, go_sem, q0, q1, q2]) rfl ⟨none, 0, none, 0, noO, false, rfl, HP.out, ⟨ownI_nil _ _ _ (Nat.le_refl _), ownI_nil _ _ _ (Nat.le_refl _), fun k hk => by cases hk⟩, HB.out⟩
end Go.Proofs.YtdibmepjbabnnabGreatDoor

/- The walk of impl.ObjText. -/
namespace Go.Proofs.YtdibmepjbabnnabGreatDoor
open Go.RowKit

set_option maxHeartbeats 1000000 in
set_option maxRecDepth 100000 in
theorem implObjText_any (o : ObjV) (aI : Option Addr) (cI : Nat) (aR : Option Addr) (cR : Nat) (w : World) (he : EnvT w) (hr : ReadsO w aI cI aR cR o) (hnI : o.ints.length ≤ 140737488355328) (hnR : o.refs.length ≤ 140737488355328) :
    Calls Tryz.prog 7 #[.agg #[.int .i64 o.kind, .slice aI o.ints.length cI, .slice aR o.refs.length cR]] w fun e w' => e = .returned (.string (strOf (textObjOf o))) ∧ Below w.heap.size w w' := by
  have hok := fun w' (g : ErrT w') (h : ReadsO w' aI cI aR cR o) => implObjOk_any o aI cI aR cR w' g h hnI hnR
  have HPT : Hid (okB o = true → textObjOf o = textO o) := fun h => by unfold textObjOf; rw [if_pos h]
  have HPF : Hid (okB o = false → strOf (textObjOf o) = ⟨#[]⟩) := fun h => by unfold textObjOf; rw [if_neg (by rw [h]; decide)]; rfl
  have HLN : Hid (okB o = true → _) := fun h => okB_nums h
  have hcs : okB o = true ∨ okB o = false := by cases okB o <;> simp
  obtain ⟨k, ints, refs⟩ := o
  have hr' := hr
  obtain ⟨hI, hR, _, _⟩ := hr
  simp only at *
  obtain ⟨W, hW, b0, hbW, hsW⟩ := boxes1 w [.int .i64 k, .slice aI ints.length cI, .slice aR refs.length cR] 26
  go_enter Tryz.func7, Tryz.ntmps7
  go_wp2_with fail
  rw [hW.out]
  refine (hok W (he.err.keep hbW) (hr'.below hbW)).mono ?_
  rintro e w1 ⟨rfl, hb1⟩
  have hbw1 : Below w.heap.size w w1 := hbW.trans (hb1.mono hbW.size)
  have b1 := b0.below hb1 b0.lt
  rcases hcs with hB | hB
  · obtain ⟨hkb, h5, h6, hzI, hzR⟩ := HLN.out hB
    have HP : Hid (strOf (textObjOf ⟨k, ints, refs⟩) = ((((strOf (numText k) ++ ⟨#[40]⟩) ++ strOf (joinOf ints)) ++ ⟨#[59]⟩) ++ strOf (joinOf refs)) ++ ⟨#[41]⟩) := by
      rw [Hid, HPT.out hB]
      simp only [textO, strOf_append]
      rfl
    have hs1 : (strOf (numText k)).size ≤ 11 := by rw [strOf_size]; exact num_len k hkb
    have hs2 : (strOf (joinOf ints)).size ≤ 60 := by rw [strOf_size]; have := join_len ints hzI ints.length (Nat.le_refl _); unfold joinOf; omega
    have hs3 : (strOf (joinOf refs)).size ≤ 60 := by rw [strOf_size]; have := join_len refs hzR refs.length (Nat.le_refl _); unfold joinOf; omega
    have hK := fun w' (g : EnvT w') => itoa_any k (by omega) w' g
    have hJI := fun w' (g : EnvT w') (h : ReadsI w' aI ints) => partsText_any aI cI ints w' g h (by omega) hzI
    have hJR := fun w' (g : EnvT w') (h : ReadsI w' aR refs) => partsText_any aR cR refs w' g h (by omega) hzR
    have he1 := he.keep hbw1
    rw [hB]
    clear hB hok HPT HPF HLN
    generalize strOf (numText k) = SK at *
    generalize strOf (joinOf ints) = SI at *
    generalize strOf (joinOf refs) = SR at *
    have hlt1 := b1.lt
    have hkeep : ∀ w', Below w1.heap.size w1 w' → w'.cell? ⟨w.heap.size, 0, none⟩ = some (.int .i64 k) ∧ w'.cell? ⟨w.heap.size, 1, none⟩ = some (.slice aI ints.length cI) ∧ w'.cell? ⟨w.heap.size, 2, none⟩ = some (.slice aR refs.length cR) :=
      fun w' hh => ⟨(b1.below hh hlt1).cell 0 _ rfl, (b1.below hh hlt1).cell 1 _ rfl, (b1.below hh hlt1).cell 2 _ rfl⟩
    have c1 : SK.size + 1 ≤ 9223372036854775807 := by omega
    have c2 : SK.size + 1 + SI.size ≤ 9223372036854775807 := by omega
    have c3 : SK.size + 1 + SI.size + 1 ≤ 9223372036854775807 := by omega
    have c4 : SK.size + 1 + SI.size + 1 + SR.size ≤ 9223372036854775807 := by omega
    have c5 : SK.size + 1 + SI.size + 1 + SR.size + 1 ≤ 9223372036854775807 := by omega
    have n1 : ¬ 9223372036854775807 < SK.size + 1 := by omega
    have n2 : ¬ 9223372036854775807 < SK.size + 1 + SI.size := by omega
    have n3 : ¬ 9223372036854775807 < SK.size + 1 + SI.size + 1 := by omega
    have n4 : ¬ 9223372036854775807 < SK.size + 1 + SI.size + 1 + SR.size := by omega
    have n5 : ¬ 9223372036854775807 < SK.size + 1 + SI.size + 1 + SR.size + 1 := by omega
    have hh := hkeep w1 (Below.refl _ _)
    go_wp2_with fail
    go_region_held3 (fun w' => w'.cell? ⟨w.heap.size, 0, none⟩ = some (.int .i64 k) ∧ w'.cell? ⟨w.heap.size, 1, none⟩ = some (.slice aI ints.length cI) ∧ w'.cell? ⟨w.heap.size, 2, none⟩ = some (.slice aR refs.length cR))
      (first | exact hkeep _ hw4 | exact hkeep _ hw3 | exact hkeep _ hw2 | go_keep)
      (first
      | (go_at_call 17; refine (hK w1.drew (he1.keep (Below.refl _ _).drew)).mono ?_; rintro e w2 ⟨rfl, hb2⟩; have hw2 : Below w1.heap.size w1 w2 := (Below.refl _ _).drew.trans hb2)
      | (go_at_call_of 18 (Value.slice aI ints.length cI); refine (hJI w2 (he1.keep hw2) (hI.below (hbw1.trans (hw2.mono hbw1.size)))).mono ?_; rintro e w3 ⟨rfl, hb3⟩; have hw3 : Below w1.heap.size w1 w3 := hw2.trans (hb3.mono hw2.size))
      | (go_at_call_of 18 (Value.slice aR refs.length cR); refine (hJR w3 (he1.keep hw3) (hR.below (hbw1.trans (hw3.mono hbw1.size)))).mono ?_; rintro e w4 ⟨rfl, hb4⟩; have hw4 : Below w1.heap.size w1 w4 := hw3.trans (hb4.mono hw3.size)))
    go_wp2
    go_ret
    exact ⟨by rw [HP.out]; rfl, hbw1.trans (hw4.mono hbw1.size)⟩
  · have HP : Hid (_ = _) := HPF.out hB
    rw [hB]
    clear hB hok
    go_wp2
    go_ret
    exact ⟨by rw [HP.out]; rfl, hbw1⟩
end Go.Proofs.YtdibmepjbabnnabGreatDoor

/- The walk of impl.SameObj. -/
namespace Go.Proofs.YtdibmepjbabnnabGreatDoor
open Go.RowKit

set_option maxHeartbeats 400000 in
theorem equalInts_any (a b : Option Addr) (ca cb : Nat) (xs ys : List Int) (w : World) (ha : ReadsI w a xs) (hb : ReadsI w b ys) (hl : xs.length ≤ 1099511627776) (hl2 : ys.length ≤ 1099511627776) :
    Calls Tryz.prog 25 #[.slice a xs.length ca, .slice b ys.length cb] w fun e w' => e = .returned (.bool (decide (xs = ys))) ∧ ∃ n, w' = w.drewN n := by
  by_cases hle : xs.length = ys.length
  case neg =>
    have HE : Hid (_ = _) := ne_len hle
    have hle' : ((xs.length : Int) == (ys.length : Int)) = false := by simp; omega
    go_enter Tryz.func25, Tryz.ntmps25
    go_wp2
    go_ret
    exact ⟨ret_bool HE.out.symm, 0, rfl⟩
  case pos =>
  have HL : Hid (xs.length = ys.length) := hle
  have hle' : ((xs.length : Int) == (ys.length : Int)) = true := by simp; omega
  rcases ha.cases with rfl | ⟨b1, o1, rfl, hpos, hc1⟩
  · obtain rfl : ys = [] := List.length_eq_zero_iff.1 (by simpa using hle.symm)
    have HE : Hid (decide (([] : List Int) = []) = true) := by simp [Hid]
    clear hle hle' HL
    go_enter Tryz.func25, Tryz.ntmps25
    go_wp2
    refine wp_loop_rounds 1 ?_
    rw [rounds_succ]
    go_wp2
    go_ret
    exact ⟨ret_bool HE.out.symm, 0, rfl⟩
  · rcases hb.cases with rfl | ⟨b2, o2, rfl, _, hc2⟩
    · simp at hle; simp [hle] at hpos
    · clear hle
      go_enter Tryz.func25, Tryz.ntmps25
      go_wp2
      go_loopw [13] (fun i wr => ∃ k : Nat, k ≤ xs.length ∧ i = .int .i64 k ∧ Hid (∀ t, t < k → xs.getD t 0 = ys.getD t 0) ∧ ∃ n, wr = w.drewN n) (fun i _ => xs.length - (intOf i).toNat)
      case atStart => exact ⟨0, Nat.zero_le _, rfl, fun t ht => by omega, 0, rfl⟩
      case round =>
        obtain ⟨k, hk, rfl, hall, n, rfl⟩ := hrel
        by_cases hlt : k < xs.length
        · have h1 := hc1 k hlt
          have h2 := hc2 k (by have := HL.out; omega)
          have hlt2 : (k : Int) < (ys.length : Int) := by have := HL.out; omega
          clear hc1 hc2
          by_cases hz : xs.getD k 0 = ys.getD k 0
          · have HN : Hid (∀ t, t < k + 1 → xs.getD t 0 = ys.getD t 0) := by
              intro t ht
              by_cases e : t = k
              · rw [e]; exact hz
              · exact hall.out t (by omega)
            rw [← hz] at h2
            clear hz
            generalize xs.getD k 0 = z at *
            go_wp2
            go_quiet (fail)
            go_wp2
            go_roundw
            case rel => exact ⟨k + 1, by omega, by go_num, HN, _, rfl⟩
            case measure => simp [intOf]; omega
          · have HE : Hid (_ = _) := ne_at k hz
            have hzb : (xs.getD k 0 == ys.getD k 0) = false := by simpa using hz
            clear hz
            generalize xs.getD k 0 = z at *
            generalize ys.getD k 0 = y at *
            go_wp2
            go_quiet (fail)
            go_wp2
            go_ret
            exact ⟨ret_bool HE.out.symm, n + nq, by first | rfl | simp⟩
        · have HE : Hid (_ = _) := eq_all HL.out (fun t ht => hall.out t (by omega))
          go_wp2
          go_ret
          exact ⟨ret_bool HE.out.symm, n, rfl⟩

set_option maxHeartbeats 1000000 in
set_option maxRecDepth 100000 in
theorem implSameObj_any (o p : ObjV) (aI : Option Addr) (cI : Nat) (aR : Option Addr) (cR : Nat) (bI : Option Addr) (dI : Nat) (bR : Option Addr) (dR : Nat) (w : World) (ha : ReadsO w aI cI aR cR o) (hb : ReadsO w bI dI bR dR p) (h1 : o.ints.length ≤ 1099511627776) (h2 : o.refs.length ≤ 1099511627776) (h3 : p.ints.length ≤ 1099511627776) (h4 : p.refs.length ≤ 1099511627776) :
    Calls Tryz.prog 12 #[.agg #[.int .i64 o.kind, .slice aI o.ints.length cI, .slice aR o.refs.length cR], .agg #[.int .i64 p.kind, .slice bI p.ints.length dI, .slice bR p.refs.length dR]] w fun e w' => e = .returned (.bool (sameO o p)) ∧ Below w.heap.size w w' := by
  obtain ⟨k, ints, refs⟩ := o
  obtain ⟨k', ints', refs'⟩ := p
  obtain ⟨haI, haR, _, _⟩ := ha
  obtain ⟨hbI, hbR, _, _⟩ := hb
  simp only at *
  obtain ⟨W, hW, b0, b1, hbW, hsW⟩ := boxes2 w [.int .i64 k, .slice aI ints.length cI, .slice aR refs.length cR] [.int .i64 k', .slice bI ints'.length dI, .slice bR refs'.length dR] 26 26
  by_cases hk : k = k'
  case neg =>
    have HE : Hid (sameO ⟨k, ints, refs⟩ ⟨k', ints', refs'⟩ = false) := by simp [Hid, sameO, hk]
    have hkb : (k == k') = false := by simpa using hk
    clear hk
    go_enter Tryz.func12, Tryz.ntmps12
    go_wp2
    go_ret
    exact ⟨ret_bool HE.out.symm, by rw [hW.out]; exact hbW⟩
  case pos =>
  subst hk
  have HE : Hid (sameO ⟨k, ints, refs⟩ ⟨k, ints', refs'⟩ = (decide (ints = ints') && decide (refs = refs'))) := by simp [Hid, sameO]
  go_enter Tryz.func12, Tryz.ntmps12
  go_wp2_with fail
  rw [hW.out]
  refine (equalInts_any aI bI cI dI ints ints' W (haI.below hbW) (hbI.below hbW) h1 h3).mono ?_
  rintro e w1 ⟨rfl, n1, rfl⟩
  have c0 := (b0.drewN n1).cell 2 _ rfl
  have c1 := (b1.drewN n1).cell 2 _ rfl
  have hb1 : Below w.heap.size w (W.drewN n1) := below_drewN hbW n1
  cases hd : decide (ints = ints') with
  | false =>
    rw [hd] at HE
    clear hd
    go_wp2
    go_ret
    exact ⟨ret_bool (by rw [HE.out]; rfl), hb1⟩
  | true =>
    rw [hd] at HE
    clear hd
    go_wp2_with fail
    refine (equalInts_any aR bR cR dR refs refs' (W.drewN n1) (haR.below hb1) (hbR.below hb1) h2 h4).mono ?_
    rintro e w2 ⟨rfl, n2, rfl⟩
    generalize decide (refs = refs') = D at *
    go_wp2
    go_ret
    exact ⟨ret_bool (by rw [HE.out]; rfl), below_drewN hbW (n1 + n2)⟩
end Go.Proofs.YtdibmepjbabnnabGreatDoor

/- Plain mathematics: no object's bytes begin another's; an object's text comes back. -/
namespace Go.Proofs.YtdibmepjbabnnabGreatDoor
open Go.RowKit

theorem read_back_rest (o : ObjV) (h : okB o = true) (rest : List Int) : readO (putObjOf o ++ rest) = (o, false) := by
  obtain ⟨hk, h5, h6, hi, hr⟩ := okB_bd h
  rw [put_ok h]
  have e0 : putOf o.kind ++ putList o.ints ++ putList o.refs ++ rest = [] ++ putOf o.kind ++ (putList o.ints ++ (putList o.refs ++ rest)) := by simp
  have e1 : putOf o.kind ++ putList o.ints ++ putList o.refs ++ rest = putOf o.kind ++ putList o.ints ++ (putList o.refs ++ rest) := by simp
  have n1 := next_back [] (putList o.ints ++ (putList o.refs ++ rest)) o.kind (by omega)
  rw [← e0] at n1
  simp only [List.nil_append, List.length_nil, Int.natCast_zero] at n1
  have l1 := list_back (putOf o.kind) (putList o.refs ++ rest) o.ints h5 hi
  rw [← e1] at l1
  have l2 := list_back (putOf o.kind ++ putList o.ints) rest o.refs h6 (fun z hz => by have := hr z hz; omega)
  unfold readO
  simp only [show ((0 : Int), false) = (((0 : Nat) : Int), false) from rfl] at *
  rw [n1, l1, l2]

theorem put_pos {o : ObjV} (h : okB o = true) : 0 < (putObjOf o).length := by
  rw [put_ok h]
  have := (putOf_len o.kind).1
  simp; omega
theorem put_len_le (o : ObjV) : (putObjOf o).length ≤ 1000 := by
  by_cases h : okB o = true
  · obtain ⟨_, h5, h6, _, _⟩ := okB_bd h
    rw [put_ok h]
    have a1 := (putOf_len o.kind).2
    have a2 := (putOf_len (o.ints.length : Int)).2
    have a3 := (putOf_len (o.refs.length : Int)).2
    have b1 := flat_len o.ints
    have b2 := flat_len o.refs
    simp only [putList, List.length_append]
    omega
  · unfold putObjOf
    rw [if_neg h]
    simp

theorem pair_back {o : ObjV} (h : okB o = true) : getPair (putObjOf o) = (o, true) := by
  unfold getPair
  rw [getO_some h rfl]
theorem pair_cut {o : ObjV} (h : okB o = true) : getPair ((putObjOf o).take ((putObjOf o).length - 1)) = (noO, false) := by
  unfold getPair
  rw [getO_none]
  rintro ⟨p, hp, he⟩
  have e := drop_last (putObjOf o) (put_pos h)
  rw [← he] at e
  have r1 := read_back_rest p hp [(putObjOf o).getD ((putObjOf o).length - 1) 0]
  rw [← e] at r1
  have r2 := read_back o h
  rw [r1] at r2
  obtain rfl := (Prod.mk.inj r2).1
  have l1 := congrArg List.length he
  have := put_pos h
  rw [List.length_take] at l1
  omega

theorem join_byte (l : List Int) : ∀ z ∈ joinOf l, 0 ≤ z ∧ z < 256 := by
  intro z hz
  rcases joinOf_sign l z hz with rfl | rfl | h
  · decide
  · decide
  · omega
theorem text_byte (o : ObjV) : ∀ z ∈ textO o, 0 ≤ z ∧ z < 256 := by
  intro z hz
  rw [textO_eq] at hz
  simp only [List.mem_append, List.mem_cons, List.not_mem_nil, or_false] at hz
  rcases hz with h | h | h | h | h | h
  · rcases numText_sign _ z h with rfl | h
    · decide
    · omega
  · subst h; decide
  · exact join_byte _ z h
  · subst h; decide
  · exact join_byte _ z h
  · subst h; decide
theorem sBytes_strOf (L : List Int) (h : ∀ z ∈ L, 0 ≤ z ∧ z < 256) : sBytes (strOf L) = L := by
  rw [strOf_b8, sBytes_mk, List.map_map]
  conv => rhs; rw [← List.map_id L]
  apply List.map_congr_left
  intro z hz
  have := h z hz
  simp [toI, b8]
  omega
theorem text_pair {o : ObjV} (h : okB o = true) : parsePair (sBytes (strOf (textO o))) = (o, true) := by
  rw [sBytes_strOf _ (text_byte o)]
  unfold parsePair
  rw [spec_back o h]
theorem text_len {o : ObjV} (h : okB o = true) : (strOf (textO o)).size ≤ 1000 := by
  obtain ⟨hk, h5, h6, hi, hr⟩ := okB_bd h
  have e : (strOf (textO o)).size = (textO o).length := by rw [← sBytes_len, sBytes_strOf _ (text_byte o)]
  rw [e, textO_eq]
  have a1 := num_len o.kind (by omega)
  have a2 := join_len o.ints (fun z hz => by have := hi z hz; omega) o.ints.length (Nat.le_refl _)
  have a3 := join_len o.refs (fun z hz => by have := hr z hz; omega) o.refs.length (Nat.le_refl _)
  simp only [List.length_append, List.length_cons, List.length_nil, joinOf]
  omega
theorem sameO_refl (o : ObjV) : sameO o o = true := by simp [sameO]
theorem text_none {o : ObjV} (h : okB o = false) : strOf (textObjOf o) = ⟨#[]⟩ := by
  unfold textObjOf
  rw [if_neg (by simp [h])]
  rfl
theorem text_some {o : ObjV} (h : okB o = true) : strOf (textObjOf o) = strOf (textO o) := by
  unfold textObjOf
  rw [if_pos h]
theorem put_none {o : ObjV} (h : okB o = false) : putObjOf o = [] := by
  unfold putObjOf
  rw [if_neg (by simp [h])]
end Go.Proofs.YtdibmepjbabnnabGreatDoor

/- The cursor of a draw: what spec.l1Byte and spec.l1Below answer and leave. -/
namespace Go.Proofs.YtdibmepjbabnnabGreatDoor
open Go.RowKit

/-- A cursor over the bytes zs lies in block B. -/
def CurAt (w : World) (B : Nat) (zs : List Int) : Prop :=
  ∃ (a : Option Addr) (c i : Nat) (h : Int), w.heap[B]? = some (.cells #[.slice a zs.length c, .int .i64 i, .int .i64 h] 53 (0, 0)) ∧ i ≤ zs.length ∧ Reads w a zs ∧ (zs ≠ [] → ∀ b off, a = some ⟨b, off, none⟩ → b < B)

theorem cell_of3 {w : World} {B : Nat} {v0 v1 v2 : Value} {t : TypeId} (h : w.heap[B]? = some (.cells #[v0, v1, v2] t (0, 0))) :
    w.cell? ⟨B, 0, none⟩ = some v0 ∧ w.cell? ⟨B, 1, none⟩ = some v1 ∧ w.cell? ⟨B, 2, none⟩ = some v2 ∧ (∀ o, w.frozen? ⟨B, o, none⟩ = false) := by
  refine ⟨?_, ?_, ?_, fun o => ?_⟩
  · simp [World.cell?, h]
  · simp [World.cell?, h]
  · simp [World.cell?, h]
  · simp [World.frozen?, h]

theorem set_of3 {w : World} {B : Nat} {v0 v1 v2 u : Value} {t : TypeId} (h : w.heap[B]? = some (.cells #[v0, v1, v2] t (0, 0))) :
    (w.setCell ⟨B, 1, none⟩ u).heap[B]? = some (.cells #[v0, u, v2] t (0, 0)) ∧ (w.setCell ⟨B, 2, none⟩ u).heap[B]? = some (.cells #[v0, v1, u] t (0, 0)) := by
  constructor
  · rw [heap_setCell_same w B 1 _ t u h]; simp
  · rw [heap_setCell_same w B 2 _ t u h]; simp

theorem grown_set (w : World) (B o : Nat) (u : Value) : w.grownBy (w.setCell ⟨B, o, none⟩ u) (some B) :=
  ⟨rfl, rfl, rfl, by simp, fun k _ hk => heap_setCell_other w ⟨B, o, none⟩ k u (fun e => hk (by simp [e]))⟩

theorem grown_drew_set (w : World) (n B o : Nat) (u : Value) : w.grownBy ((w.drewN n).setCell ⟨B, o, none⟩ u) (some B) :=
  ⟨rfl, rfl, rfl, by simp, fun k _ hk => heap_setCell_other (w.drewN n) ⟨B, o, none⟩ k u (fun e => hk (by simp [e]))⟩

theorem Reads.grown {w w' : World} {a : Option Addr} {zs : List Int} {B : Nat} (h : Reads w a zs) (hg : w.grownBy w' (some B)) (hne : zs ≠ [] → ∀ b off, a = some ⟨b, off, none⟩ → b ≠ B) : Reads w' a zs := by
  refine ⟨h.1, fun e => ?_⟩
  obtain ⟨b, off, ha, hc⟩ := h.2 e
  refine ⟨b, off, ha, fun i hi => hg.cell (hc i hi) ?_⟩
  intro he
  exact hne e b off ha (Option.some.inj he)

theorem CurAt.lt {w : World} {B : Nat} {zs : List Int} (h : CurAt w B zs) : B < w.heap.size := by
  obtain ⟨a, c, i, h, hh, _⟩ := h
  exact (Array.getElem?_eq_some_iff.1 hh).1

theorem CurAt.kept {w w' : World} {B : Nat} {zs : List Int} {row : Option Nat} (h : CurAt w B zs) (hg : w.grownBy w' row) (hrow : ∀ k, row = some k → B < k) : CurAt w' B zs := by
  have hB := h.lt
  obtain ⟨a, c, i, h, hh, hi, hr, hlt⟩ := h
  refine ⟨a, c, i, h, ?_, hi, ⟨hr.1, fun e => ?_⟩, hlt⟩
  · rw [hg.block B hB (fun e => by have := hrow B e.symm; omega)]; exact hh
  · obtain ⟨b, off, ha, hc⟩ := hr.2 e
    refine ⟨b, off, ha, fun j hj => hg.cell (hc j hj) ?_⟩
    intro he
    have h1 := hlt e b off ha
    have h2 := hrow b he.symm
    omega

theorem CurAt.alloc {w : World} {B : Nat} {zs : List Int} (h : CurAt w B zs) (o : Obj) : CurAt (w.alloc o) B zs := h.kept (World.grownBy_alloc w o none) (fun k e => by cases e)

theorem CurAt.below {w w' : World} {B : Nat} {zs : List Int} (h : CurAt w B zs) (hb : Below w.heap.size w w') : CurAt w' B zs :=
  h.kept (row := none) ⟨hb.os, hb.tape, hb.output, hb.size, fun k hk _ => hb.block k hk⟩ (fun k e => by cases e)

theorem grownBy_new {w w1 w2 : World} {r row : Option Nat} (h : w.grownBy w1 r) (hg : w1.grownBy w2 row) (hrow : ∀ k, row = some k → w.heap.size ≤ k) : w.grownBy w2 r :=
  ⟨hg.os.trans h.os, hg.tape.trans h.tape, hg.output.trans h.output, Nat.le_trans h.size hg.size, fun k hk hr => (hg.block k (Nat.lt_of_lt_of_le hk h.size) (fun e => by have := hrow k e.symm; omega)).trans (h.block k hk hr)⟩

theorem i64_and255 (n : Int) : bits .and .i64 n 255 = n % 256 := by
  have h1 : (BitVec.ofInt 64 255).toNat = 2 ^ 8 - 1 := by decide
  have key : (BitVec.ofInt 64 n &&& BitVec.ofInt 64 255).toNat = (n % ((2 ^ 64 : Nat) : Int)).toNat % 2 ^ 8 := by
    rw [BitVec.toNat_and, BitVec.toNat_ofInt, h1, Nat.and_two_pow_sub_one_eq_mod]
  show IntKind.i64.wrap ((BitVec.ofInt 64 n &&& BitVec.ofInt 64 255).toNat : Nat) = n % 256
  rw [key, IntKind.wrap_i64]
  omega

theorem ret_nat {a : Int} (h0 : 0 ≤ a) : Ending.returned (.int .i64 a) = .returned (.int .i64 ((a.toNat : Nat) : Int)) := by rw [Int.toNat_of_nonneg h0]

set_option maxHeartbeats 1000000 in
theorem l1Byte_any (B : Nat) (zs : List Int) (w : World) (hc : CurAt w B zs) (hl : zs.length ≤ 70368744177664) :
    Calls Tryz.prog 55 #[.pointer (some ⟨B, 0, none⟩)] w fun e w' => ∃ x : Nat, e = .returned (.int .i64 x) ∧ x < 256 ∧ CurAt w' B zs ∧ w.grownBy w' (some B) := by
  obtain ⟨a, c, i, h, hh, hi, hr, hlt0⟩ := hc
  have hne : zs ≠ [] → ∀ b off, a = some ⟨b, off, none⟩ → b ≠ B := fun h b off e => Nat.ne_of_lt (hlt0 h b off e)
  obtain ⟨c0, c1, c2, hf⟩ := cell_of3 hh
  have hf2 := hf 2
  clear hf
  have ha := i64_and255
  go_enter Tryz.func55, Tryz.ntmps55
  go_wp2
  generalize wrap64 (wrap64 (h * 6364136223846793005) + 1442695040888963407) = h1
  have hh1 := (set_of3 (u := .int .i64 h1) hh).2
  have hg1 := grown_set w B 2 (.int .i64 h1)
  have hr1 := hr.grown hg1 hne
  clear c0 c1 c2 hf2 hh hr
  generalize w.setCell ⟨B, 2, none⟩ (.int .i64 h1) = w1 at *
  obtain ⟨c0, c1, c2, hf⟩ := cell_of3 hh1
  have hf1 := hf 1
  clear hf
  go_quiet (fail)
  go_wp2
  have hxb : 0 ≤ bits .xor .i64 (h1 / 8589934592) (h1 / 140737488355328) % 256 ∧ bits .xor .i64 (h1 / 8589934592) (h1 / 140737488355328) % 256 < 256 := by omega
  generalize bits .xor .i64 (h1 / 8589934592) (h1 / 140737488355328) % 256 = y at *
  by_cases hlt : i < zs.length
  · rcases hr1.cases with rfl | ⟨b, off, rfl, hpos, hcell⟩
    · simp at hlt
    have hck := hcell i hlt
    have hby := bytes_at hr1.byte i
    clear hcell
    generalize zs.getD i 0 = z at *
    go_quiet (fail)
    go_wp2
    go_quiet (fail)
    go_wp2
    go_ret
    refine ⟨((y + z) % 256).toNat, ret_nat (by omega), by omega, ⟨some ⟨b, off, none⟩, c, i + 1, h1, ?_, by omega, ?_, hlt0⟩, ?_⟩
    · exact (set_of3 (u := .int .i64 ((i : Int) + 1)) hh1).1
    · exact hr1.grown (grown_drew_set w1 _ B 1 _) hne
    · exact grownBy_trans hg1 (grown_drew_set w1 _ B 1 _)
  · go_quiet (fail)
    go_wp2
    go_ret
    exact ⟨y.toNat, ret_nat hxb.1, by omega, ⟨a, c, i, h1, hh1, hi, hr1, hlt0⟩, ⟨hg1.os, hg1.tape, hg1.output, hg1.size, hg1.block⟩⟩

set_option maxHeartbeats 400000 in
theorem l1Below_any (B : Nat) (zs : List Int) (n : Int) (w : World) (hc : CurAt w B zs) (hl : zs.length ≤ 70368744177664) (hn : n ≤ 1000000000) :
    Calls Tryz.prog 40 #[.pointer (some ⟨B, 0, none⟩), .int .i64 n] w fun e w' => ∃ x : Nat, e = .returned (.int .i64 x) ∧ (0 < n → (x : Int) < n) ∧ CurAt w' B zs ∧ w.grownBy w' (some B) := by
  by_cases h0 : n ≤ 0
  · go_enter Tryz.func40, Tryz.ntmps40
    go_wp2
    go_ret
    exact ⟨0, rfl, fun h => by omega, hc, World.grownBy.refl _ _⟩
  by_cases h1 : n ≤ 256
  · go_enter Tryz.func40, Tryz.ntmps40
    go_wp2_with fail
    refine (l1Byte_any B zs w hc hl).mono ?_
    rintro e w1 ⟨x, rfl, hx, hc1, hg1⟩
    have hnz : ¬ n = 0 := by omega
    go_wp2
    go_ret
    exact ⟨((x : Int) % n).toNat, ret_nat (Int.emod_nonneg _ hnz), fun h => by have := Int.emod_nonneg (x : Int) hnz; have := Int.emod_lt_of_pos (x : Int) h; omega, hc1, hg1⟩
  · go_enter Tryz.func40, Tryz.ntmps40
    go_wp2_with fail
    refine (l1Byte_any B zs w hc hl).mono ?_
    rintro e w1 ⟨x, rfl, hx, hc1, hg1⟩
    go_wp2_with fail
    refine (l1Byte_any B zs w1 hc1 hl).mono ?_
    rintro e w2 ⟨y, rfl, hy, hc2, hg2⟩
    go_wp2_with fail
    refine (l1Byte_any B zs w2 hc2 hl).mono ?_
    rintro e w3 ⟨z, rfl, hz, hc3, hg3⟩
    have hnz : ¬ n = 0 := by omega
    clear hc hc1 hc2
    go_wp2
    go_ret
    exact ⟨(((x : Int) * 65536 + (y : Int) * 256 + (z : Int)) % n).toNat, ret_nat (Int.emod_nonneg _ hnz), fun h => by have := Int.emod_nonneg ((x : Int) * 65536 + (y : Int) * 256 + (z : Int)) hnz; have := Int.emod_lt_of_pos ((x : Int) * 65536 + (y : Int) * 256 + (z : Int)) h; omega, hc3, grownBy_trans (grownBy_trans hg1 hg2) hg3⟩
end Go.Proofs.YtdibmepjbabnnabGreatDoor

/- The walks of spec.l1Int, l1Bytes and l1New. -/
namespace Go.Proofs.YtdibmepjbabnnabGreatDoor
open Go.RowKit

set_option maxHeartbeats 400000 in
theorem l1Int_any (B : Nat) (zs : List Int) (na : Option Addr) (nc : Nat) (ns : List Int) (w : World) (hc : CurAt w B zs) (hl : zs.length ≤ 70368744177664) (hn : ReadsI w na ns) (hne : ∀ b off, na = some ⟨b, off, none⟩ → b ≠ B) (h1 : 1 ≤ ns.length) (h2 : ns.length ≤ 1000) :
    Calls Tryz.prog 41 #[.pointer (some ⟨B, 0, none⟩), .slice na ns.length nc] w fun e w' => ∃ j : Nat, j < ns.length ∧ e = .returned (.int .i64 (ns.getD j 0)) ∧ CurAt w' B zs ∧ w.grownBy w' (some B) := by
  have HN : Hid (ReadsI w na ns) := hn
  have HNE : Hid (∀ b off, na = some ⟨b, off, none⟩ → b ≠ B) := hne
  obtain ⟨b, off, rfl, _⟩ := hn (by intro e; simp [e] at h1)
  clear hn hne
  go_enter Tryz.func41, Tryz.ntmps41
  go_wp2_with fail
  refine (l1Below_any B zs ns.length w hc hl (by omega)).mono ?_
  rintro e w1 ⟨x, rfl, hx, hc1, hg1⟩
  have hx' : x < ns.length := by have := hx (by omega); omega
  obtain ⟨b', off', hh, hcell⟩ := (HN.out.grown hg1 HNE.out) (by intro e; simp [e] at h1)
  cases hh
  have hcx := hcell x hx'
  clear hcell hx
  generalize hv : ns.getD x 0 = v at *
  have HV : Hid (ns.getD x 0 = v) := hv
  clear hv
  go_wp2
  go_ret
  exact ⟨x, hx', by rw [HV.out]; rfl, hc1, hg1⟩

set_option maxHeartbeats 400000 in
set_option maxRecDepth 100000 in
theorem l1New_any (a : Option Addr) (c : Nat) (zs : List Int) (w : World) (hr : Reads w a zs) (hl : zs.length ≤ 70368744177664) :
    Calls Tryz.prog 13 #[.slice a zs.length c] w fun e w' => e = .returned (.pointer (some ⟨w.heap.size, 0, none⟩)) ∧ CurAt w' w.heap.size zs ∧ Below w.heap.size w w' := by
  have HW : Hid (zs ≠ [] → ∀ b off, a = some ⟨b, off, none⟩ → b < w.heap.size) := by
    intro hne b off e
    obtain ⟨b', off', ha, hcc⟩ := hr.2 hne
    rw [ha] at e
    cases e
    exact block_lt (hcc 0 (List.length_pos_iff.2 hne))
  have HR : Hid (Reads w a zs) := hr
  have fin : ∀ h : Int, CurAt (w.alloc (.cells #[.slice a zs.length c, .int .i64 0, .int .i64 h] 53)) w.heap.size zs := fun h => ⟨a, c, 0, h, heap_alloc_new w _, by omega, HR.out.alloc _, HW.out⟩
  have FIN : Hid (∀ h : Int, CurAt (w.alloc (.cells #[.slice a zs.length c, .int .i64 0, .int .i64 h] 53)) w.heap.size zs) := fin
  clear fin
  rcases hr.cases with rfl | ⟨b, off, rfl, hpos, hcell⟩
  · clear hr
    go_enter Tryz.func13, Tryz.ntmps13
    go_wp2
    refine wp_loop_rounds 1 ?_
    rw [rounds_succ]
    go_wp2
    go_ret
    exact ⟨rfl, FIN.out _, (Below.refl _ _).alloc (Nat.le_refl _) _⟩
  · have hby := hr.byte
    clear hr
    go_enter Tryz.func13, Tryz.ntmps13
    go_wp2
    go_loop [3, 4] (fun hv i => ∃ (k : Nat) (h : Int), k ≤ zs.length ∧ k ≤ 4000 ∧ i = .int .i64 k ∧ hv = .int .i64 h) (fun _ i => 4000 - (intOf i).toNat)
    case atStart => exact ⟨0, _, by omega, by omega, rfl, rfl⟩
    case round =>
      obtain ⟨k, h, hk, hk4, rfl, rfl⟩ := hrel
      by_cases h1 : k < zs.length
      · by_cases h2 : k < 4000
        · have hck := hcell k h1
          have hbk := bytes_at hby k
          clear hcell hby
          generalize zs.getD k 0 = z at *
          go_wp2
          go_round
          case rel => exact ⟨k + 1, _, by omega, by omega, by go_num, rfl⟩
          case measure => simp [intOf]; omega
        · go_wp2
          go_ret
          exact ⟨rfl, FIN.out _, (Below.refl _ _).alloc (Nat.le_refl _) _⟩
      · go_wp2
        go_ret
        exact ⟨rfl, FIN.out _, (Below.refl _ _).alloc (Nat.le_refl _) _⟩
end Go.Proofs.YtdibmepjbabnnabGreatDoor

/- Appending numbers as a step of a region that draws its order; an object in a box of the call. -/
namespace Go.Proofs.YtdibmepjbabnnabGreatDoor
open Go.RowKit

theorem run_append_ints {w : World} (ty : TypeId) (lo hi : Nat) (a : Option Addr) (c : Nat) (xs : List Int) (hown : OwnI w lo hi a c xs)
    (sa : Option Addr) (sc : Nat) (zs : List Int) (hr : ReadsI w sa zs) (hc : sa = none → sc = 0) (hb : xs.length + zs.length ≤ 1099511627776) (hlo : lo ≤ w.heap.size) :
    ∃ a' c' ys w', (Builtin.append_ #[24, 24] ty #[.slice a xs.length c, .slice sa zs.length sc]).run Tryz.prog w = .ok (.slice a' ys.length c') w' ∧ Hid (ys = xs ++ zs) ∧ OwnI w' lo w'.heap.size a' c' ys ∧ w.grownBy w' (Value.slice a xs.length c).ownBlock ∧
      (∀ k, (Value.slice a' ys.length c').ownBlock = some k → (Value.slice a xs.length c).ownBlock = some k ∨ k = w.heap.size) := by
  obtain ⟨i0, hi0, hz0, hz1, hz2⟩ := info_parts Tryz.infoInt
  cases sa with
  | none =>
    have hz : zs = [] := by
      by_cases e : zs = []
      · exact e
      · obtain ⟨b, off, hh, _⟩ := hr e
        cases hh
    subst hz
    have := hc rfl
    subst this
    refine ⟨a, c, xs, w, run_append_owned_none (P := Tryz.prog) (w := w) lo 24 ty 3 i0 1 Tryz.underlying24 hi0 _ _ _ hown.1, (by simp [Hid]), ⟨hown.1, Nat.le_refl _, fun k hk => (hown.1.lt k hk).2⟩, World.grownBy.refl _ _, fun k hk => .inl hk⟩
  | some ad =>
    obtain ⟨v', w', h1, h2, h3, _, h5⟩ := run_append_own_at (P := Tryz.prog) w lo 24 ty 3 i0 (.int .i64 0) 1 8 Tryz.underlying24 hi0 hz0 hz1 hz2 rfl (by decide) _ _ _ hown.1 ad zs.length sc (zs.map (Value.int .i64)) (by simp) (by
      intro j u hj
      have hjl : j < zs.length := by
        by_cases e : j < zs.length
        · exact e
        · simp [List.getElem?_eq_none (Nat.le_of_not_lt e)] at hj
      have hne : zs ≠ [] := by intro e; simp [e] at hjl
      obtain ⟨b, off, hh, hcell⟩ := hr hne
      cases hh
      rw [Addr_add, hcell j hjl]
      simpa [hjl] using hj) (ints_oneCell _ _) (by simp only [maxLen]; omega) (by omega) hlo
    rw [← List.map_append, ← List.length_append] at h2
    have sh : ∃ a' c', v' = .slice a' (xs ++ zs).length c' := by
      rcases h2.2 with ⟨rfl, h0⟩ | ⟨g, cap, cur, rfl, _⟩
      · exact ⟨none, 0, by rw [h0]⟩
      · exact ⟨_, _, rfl⟩
    obtain ⟨a', c', rfl⟩ := sh
    refine ⟨a', c', xs ++ zs, w', h1, rfl, ⟨h2, Nat.le_refl _, fun k hk => (h2.lt k hk).2⟩, h3, fun k hk => ?_⟩
    rcases h5 with h5 | h5
    · exact .inl (by rw [← h5]; exact hk)
    · rw [h5] at hk
      exact .inr (Option.some.inj hk).symm

theorem step_append_ints {w : World} {ops : Array Oper} {o : Oper} {act : Act} {K : Act → World → Prop} {Q : Exit → Act → World → Prop} {E : Prop} (hgd : o.guard = none) (s x : Operand)
    (ho : o.op = .call { callee := .builtin .append, args := #[s, x], argTypes := #[24, 24] })
    (lo hi : Nat) (a : Option Addr) (c : Nat) (xs : List Int) (hs : act.eval s = .slice a xs.length c) (hown : OwnI w lo hi a c xs)
    (sa : Option Addr) (sc : Nat) (zs : List Int) (hx : act.eval x = .slice sa zs.length sc) (hr : ReadsI w sa zs) (hc : sa = none → sc = 0)
    (hb : xs.length + zs.length ≤ 1099511627776) (hlo : lo ≤ w.heap.size)
    (h : ∀ a' c' ys w', Hid (ys = xs ++ zs) → OwnI w' lo w'.heap.size a' c' ys → w.grownBy w' (Value.slice a xs.length c).ownBlock →
      (∀ k, (Value.slice a' ys.length c').ownBlock = some k → (Value.slice a xs.length c).ownBlock = some k ∨ k = w.heap.size) → K (act.put o.dst (.slice a' ys.length c')) w') :
    if Region.wanted o (yielded ops act.tmps) = true then Oper.wp Tryz.prog o act w K Q else E := by
  have hw : Region.wanted o (yielded ops act.tmps) = true := by simp [Region.wanted, hgd]
  rw [if_pos hw]
  obtain ⟨a', c', ys, w', hrun, h1, h2, h3, h4⟩ := run_append_ints (w := w) o.type lo hi a c xs hown sa sc zs hr hc hb hlo
  unfold Oper.wp execOp
  simp only [ho, resolve, invoke, builtin, Sem.run_bind, Sem.run_pure, Result.andThen_ok, List.map_toArray, List.map_cons, List.map_nil, hs, hx, hrun]
  exact h a' c' ys w' h1 h2 h3 h4

/-- An object lies in block Bo; its lists lie from lo on, and the call owns them. -/
structure ObjAt (w : World) (lo Bo : Nat) (o : ObjV) (aI : Option Addr) (cI : Nat) (aR : Option Addr) (cR : Nat) : Prop where
  box : Box w Bo [.int .i64 o.kind, .slice aI o.ints.length cI, .slice aR o.refs.length cR] 26
  own : OwnO w lo w.heap.size aI cI aR cR o
  lt : Bo < lo

theorem OwnO.kept {w w' : World} {lo hi : Nat} {aI : Option Addr} {cI : Nat} {aR : Option Addr} {cR : Nat} {o : ObjV} {B : Nat} (h : OwnO w lo hi aI cI aR cR o) (hg : w.grownBy w' (some B)) (hB : B < lo) : OwnO w' lo w'.heap.size aI cI aR cR o := by
  have h1 := h.ints.kept hg (fun k hk e => by have := (h.ints.lt k hk).1; cases e; omega)
  have h2 := h.refs.kept hg (fun k hk e => by have := (h.refs.lt k hk).1; cases e; omega)
  exact ⟨h1.widen (Nat.le_refl _) h1.2.1 (Nat.le_refl _), h2.widen (Nat.le_refl _) h2.2.1 (Nat.le_refl _), h.apart⟩

theorem ObjAt.kept {w w' : World} {lo Bo : Nat} {aI : Option Addr} {cI : Nat} {aR : Option Addr} {cR : Nat} {o : ObjV} {B : Nat} (h : ObjAt w lo Bo o aI cI aR cR) (hg : w.grownBy w' (some B)) (hB : B < Bo) : ObjAt w' lo Bo o aI cI aR cR :=
  ⟨h.box.block (hg.block Bo h.box.lt (fun e => by cases e; omega)), h.own.kept hg (by have := h.lt; omega), h.lt⟩
theorem ObjAt.alloc {w : World} {lo Bo : Nat} {aI : Option Addr} {cI : Nat} {aR : Option Addr} {cR : Nat} {o : ObjV} (h : ObjAt w lo Bo o aI cI aR cR) (ob : Obj) : ObjAt (w.alloc ob) lo Bo o aI cI aR cR :=
  ⟨h.box.alloc ob, (h.own.below ((Below.refl _ _).alloc (Nat.le_refl _) ob)).widen (Nat.le_refl _) (by simp) (Nat.le_refl _), h.lt⟩
theorem ObjAt.drew {w : World} {lo Bo : Nat} {aI : Option Addr} {cI : Nat} {aR : Option Addr} {cR : Nat} {o : ObjV} (h : ObjAt w lo Bo o aI cI aR cR) : ObjAt w.drew lo Bo o aI cI aR cR :=
  ⟨h.box, h.own.below (Below.refl _ _).drew, h.lt⟩
theorem ObjAt.three {w : World} {lo Bo : Nat} {aI : Option Addr} {cI : Nat} {aR : Option Addr} {cR : Nat} {o : ObjV} (h : ObjAt w lo Bo o aI cI aR cR) :
    w.cell? ⟨Bo, 0, none⟩ = some (.int .i64 o.kind) ∧ w.cell? ⟨Bo, 1, none⟩ = some (.slice aI o.ints.length cI) ∧ w.cell? ⟨Bo, 2, none⟩ = some (.slice aR o.refs.length cR) ∧ w.frozen? ⟨Bo, 0, none⟩ = false ∧ w.frozen? ⟨Bo, 1, none⟩ = false ∧ w.frozen? ⟨Bo, 2, none⟩ = false := h.box.three

theorem Box.grown {w w' : World} {C B : Nat} {vs : List Value} {t : TypeId} (h : Box w C vs t) (hg : w.grownBy w' (some B)) (hne : C ≠ B) : Box w' C vs t := h.block (hg.block C h.lt (fun e => hne (Option.some.inj e)))
theorem CurAt.drew {w : World} {B : Nat} {zs : List Int} (h : CurAt w B zs) : CurAt w.drew B zs := h
theorem grown_drew (w : World) (r : Option Nat) : w.grownBy w.drew r := ⟨rfl, rfl, rfl, Nat.le_refl _, fun _ _ _ => rfl⟩

/-- The lists after an append to the first: the object in its box, the cursor, and all that was there. -/
theorem ObjAt.pushI {w0 w w' : World} {lo Bo B : Nat} {aI : Option Addr} {cI : Nat} {aR : Option Addr} {cR : Nat} {o : ObjV} {zs : List Int} (h : ObjAt w lo Bo o aI cI aR cR) (hc : CurAt w B zs) (hB : B < Bo) (hg0 : w0.grownBy w (some B)) (h0 : w0.heap.size ≤ Bo)
    {a' : Option Addr} {c' : Nat} {ys : List Int} (ho : OwnI w' lo w'.heap.size a' c' ys) (hg : w.grownBy w' (Value.slice aI o.ints.length cI).ownBlock)
    (hat : ∀ k, (Value.slice a' ys.length c').ownBlock = some k → (Value.slice aI o.ints.length cI).ownBlock = some k ∨ k = w.heap.size) :
    (w'.cell? ⟨Bo, 1, none⟩ = some (.slice aI o.ints.length cI) ∧ w'.frozen? ⟨Bo, 1, none⟩ = false) ∧
    ObjAt (w'.setCell ⟨Bo, 1, none⟩ (.slice a' ys.length c')) lo Bo ⟨o.kind, ys, o.refs⟩ a' c' aR cR ∧ CurAt (w'.setCell ⟨Bo, 1, none⟩ (.slice a' ys.length c')) B zs ∧ w0.grownBy (w'.setCell ⟨Bo, 1, none⟩ (.slice a' ys.length c')) (some B) ∧ (∀ b, b < lo → b ≠ Bo → b < w.heap.size → (w'.setCell ⟨Bo, 1, none⟩ (.slice a' ys.length c')).heap[b]? = w.heap[b]?) := by
  have hlt := h.lt
  have hb' : Box w' Bo _ _ := h.box.block (hg.block Bo h.box.lt (fun e => by have := (h.own.ints.lt Bo e.symm).1; omega))
  have hbs := hb'.set 1 (.slice a' ys.length c')
  simp only [List.set] at hbs
  have hgs := grown_set w' Bo 1 (.slice a' ys.length c')
  have hR' := h.own.refs.kept hg (fun k hk e => h.own.apart k e hk)
  have hI2 := ho.kept hgs (fun k hk e => by have := (ho.lt k hk).1; cases e; omega)
  have hR2 := hR'.kept hgs (fun k hk e => by have := (hR'.lt k hk).1; cases e; omega)
  refine ⟨⟨hb'.cell 1 _ rfl, hb'.frozen 1⟩, ⟨hbs, ⟨hI2.widen (Nat.le_refl _) hI2.2.1 (Nat.le_refl _), hR2.widen (Nat.le_refl _) hR2.2.1 (Nat.le_refl _), fun k hk => ?_⟩, hlt⟩, ?_, ?_, ?_⟩
  · rcases hat k hk with e | e
    · exact h.own.apart k e
    · intro e'
      have := (h.own.refs.lt k e').2
      omega
  · exact (hc.kept hg (fun k e => by have := (h.own.ints.lt k e).1; omega)).kept hgs (fun k e => by cases e; omega)
  · exact grownBy_new (grownBy_new hg0 hg (fun k e => by have := (h.own.ints.lt k e).1; omega)) hgs (fun k e => by cases e; omega)
  · intro b hb hn hbl
    rw [hgs.block b (by have := hg.size; omega) (fun e => hn (Option.some.inj e))]
    exact hg.block b hbl (fun e => by have := (h.own.ints.lt b e.symm).1; omega)

theorem ObjAt.pushR {w0 w w' : World} {lo Bo B : Nat} {aI : Option Addr} {cI : Nat} {aR : Option Addr} {cR : Nat} {o : ObjV} {zs : List Int} (h : ObjAt w lo Bo o aI cI aR cR) (hc : CurAt w B zs) (hB : B < Bo) (hg0 : w0.grownBy w (some B)) (h0 : w0.heap.size ≤ Bo)
    {a' : Option Addr} {c' : Nat} {ys : List Int} (ho : OwnI w' lo w'.heap.size a' c' ys) (hg : w.grownBy w' (Value.slice aR o.refs.length cR).ownBlock)
    (hat : ∀ k, (Value.slice a' ys.length c').ownBlock = some k → (Value.slice aR o.refs.length cR).ownBlock = some k ∨ k = w.heap.size) :
    (w'.cell? ⟨Bo, 2, none⟩ = some (.slice aR o.refs.length cR) ∧ w'.frozen? ⟨Bo, 2, none⟩ = false) ∧
    ObjAt (w'.setCell ⟨Bo, 2, none⟩ (.slice a' ys.length c')) lo Bo ⟨o.kind, o.ints, ys⟩ aI cI a' c' ∧ CurAt (w'.setCell ⟨Bo, 2, none⟩ (.slice a' ys.length c')) B zs ∧ w0.grownBy (w'.setCell ⟨Bo, 2, none⟩ (.slice a' ys.length c')) (some B) ∧ (∀ b, b < lo → b ≠ Bo → b < w.heap.size → (w'.setCell ⟨Bo, 2, none⟩ (.slice a' ys.length c')).heap[b]? = w.heap[b]?) := by
  have hlt := h.lt
  have hb' : Box w' Bo _ _ := h.box.block (hg.block Bo h.box.lt (fun e => by have := (h.own.refs.lt Bo e.symm).1; omega))
  have hbs := hb'.set 2 (.slice a' ys.length c')
  simp only [List.set] at hbs
  have hgs := grown_set w' Bo 2 (.slice a' ys.length c')
  have hI' := h.own.ints.kept hg (fun k hk e => h.own.apart k hk e)
  have hR2 := ho.kept hgs (fun k hk e => by have := (ho.lt k hk).1; cases e; omega)
  have hI2 := hI'.kept hgs (fun k hk e => by have := (hI'.lt k hk).1; cases e; omega)
  refine ⟨⟨hb'.cell 2 _ rfl, hb'.frozen 2⟩, ⟨hbs, ⟨hI2.widen (Nat.le_refl _) hI2.2.1 (Nat.le_refl _), hR2.widen (Nat.le_refl _) hR2.2.1 (Nat.le_refl _), fun k hk => ?_⟩, hlt⟩, ?_, ?_, ?_⟩
  · intro e'
    rcases hat k e' with e | e
    · exact h.own.apart k hk e
    · have := (h.own.ints.lt k hk).2
      omega
  · exact (hc.kept hg (fun k e => by have := (h.own.refs.lt k e).1; omega)).kept hgs (fun k e => by cases e; omega)
  · exact grownBy_new (grownBy_new hg0 hg (fun k e => by have := (h.own.refs.lt k e).1; omega)) hgs (fun k e => by cases e; omega)
  · intro b hb hn hbl
    rw [hgs.block b (by have := hg.size; omega) (fun e => hn (Option.some.inj e))]
    exact hg.block b hbl (fun e => by have := (h.own.refs.lt b e.symm).1; omega)
end Go.Proofs.YtdibmepjbabnnabGreatDoor

/- The walk of spec.l2Obj. -/
namespace Go.Proofs.YtdibmepjbabnnabGreatDoor
open Go.RowKit
attribute [local go_sem ↓] Go.wp_at_zero Go.wp_at_succ

set_option maxHeartbeats 4000000 in
set_option maxRecDepth 100000 in
theorem l2Obj_any (B : Nat) (zs : List Int) (w : World) (hc : CurAt w B zs) (hl : zs.length ≤ 70368744177664) :
    Calls Tryz.prog 26 #[.pointer (some ⟨B, 0, none⟩)] w fun e w' => ∃ aI cI aR cR o, e = .returned (.agg #[.int .i64 o.kind, .slice aI o.ints.length cI, .slice aR o.refs.length cR]) ∧ o.ints.length ≤ 3 ∧ o.refs.length ≤ 3 ∧ OwnO w' w.heap.size w'.heap.size aI cI aR cR o ∧ CurAt w' B zs ∧ w.grownBy w' (some B) := by
  have hB := hc.lt
  obtain ⟨W, hW, b0, hbW, hsW⟩ := boxes1 w [.int .i64 0, .slice none 0 0, .slice none 0 0] 26
  have hg0 : w.grownBy W (some B) := ⟨hbW.os, hbW.tape, hbW.output, hbW.size, fun k hk _ => hbW.block k hk⟩
  have hcW : CurAt W B zs := hc.below hbW
  have hsW' : w.heap.size < W.heap.size := by omega
  clear hsW hc
  go_enter Tryz.func26, Tryz.ntmps26
  go_wp2_with fail
  rw [hW.out]
  clear hW hbW
  refine (l1Below_any B zs 5 W hcW hl (by omega)).mono ?_
  rintro e w1 ⟨x, rfl, hx, hc1, hg1⟩
  have hx5 : (x : Int) < 5 := hx (by omega)
  have b1 : Box w1 w.heap.size _ _ := b0.block (hg1.block w.heap.size b0.lt (fun e => by cases e; omega))
  have hg01 := grownBy_trans hg0 hg1
  have hs1 := hg1.size
  clear hx b0 hg1 hg0 hcW
  obtain ⟨W2, hW2, b2, hbW2, hsW2⟩ := boxes1 w1 [.int .i64 (1 + (x : Int)), .slice none 0 0, .slice none 0 0] 26
  have hb1' := b1.below hbW2 b1.lt
  have hc2 : CurAt W2 B zs := hc1.below hbW2
  have hg2 : w.grownBy W2 (some B) := grownBy_new (row := none) hg01 ⟨hbW2.os, hbW2.tape, hbW2.output, hbW2.size, fun k hk _ => hbW2.block k hk⟩ (fun k e => by cases e)
  have ho2 : ObjAt W2 (w1.heap.size + 1) w1.heap.size ⟨1 + (x : Int), [], []⟩ none 0 none 0 := ⟨b2, ⟨ownI_nil _ _ _ (Nat.le_refl _), ownI_nil _ _ _ (Nat.le_refl _), fun k hk => by cases hk⟩, by omega⟩
  have hsW2' : w1.heap.size < W2.heap.size := by omega
  clear hsW2 b1 b2 hbW2 hg01 hc1
  go_wp2_with fail
  rw [hW2.out]
  clear hW2
  generalize 1 + (x : Int) = q at *
  generalize w1.heap.size = Bo at *
  refine (l1Below_any B zs 3 W2 hc2 hl (by omega)).mono ?_
  rintro e w3 ⟨y, rfl, hy, hc3, hg3⟩
  have hy3 : (y : Int) < 3 := hy (by omega)
  have hBB : B < Bo := by omega
  have hwB : w.heap.size < Bo := by omega
  have b3 : Box w3 w.heap.size _ _ := hb1'.block (hg3.block w.heap.size hb1'.lt (fun e => by cases e; omega))
  have ho3 := ho2.kept hg3 hBB
  have hgw3 := grownBy_trans hg2 hg3
  clear hy hb1' hc2 hg2 hg3 ho2 hsW2' hs1 hsW' hx5
  go_wp2_with fail
  go_loopw [4] (fun i wr => ∃ (k : Nat) (aI : Option Addr) (cI : Nat) (is : List Int), i = .int .i64 k ∧ k ≤ 2 ∧ is.length + k ≤ 2 ∧ ObjAt wr (Bo + 1) Bo ⟨q, is, []⟩ aI cI none 0 ∧ Box wr w.heap.size [.int .i64 0, .slice none 0 0, .slice none 0 0] 26 ∧ CurAt wr B zs ∧ w.grownBy wr (some B))
    (fun i _ => (intOf i).toNat)
  case atStart => exact ⟨y, none, 0, [], rfl, by omega, by simp; omega, ho3, b3, hc3, hgw3⟩
  case round =>
    obtain ⟨k, aI, cI, is, rfl, hk, hik, ho, hb, hcr, hgr⟩ := hrel
    clear ho3 b3 hc3 hgw3 hy3
    cases k with
    | zero =>
      have hil : is.length ≤ 2 := by omega
      clear hik hk
      go_wp2_with fail
      refine (l1Below_any B zs 4 wr hcr hl (by omega)).mono ?_
      rintro e w4 ⟨z, rfl, hz, hc4, hg4⟩
      have hz4 : (z : Int) < 4 := hz (by omega)
      have b4 := hb.grown hg4 (by omega)
      have ho4 := ho.kept hg4 hBB
      have hgw4 := grownBy_trans hgr hg4
      clear hz hcr hb ho hgr hg4
      go_wp2_with fail
      go_loopw [5] (fun i wr => ∃ (k : Nat) (aR : Option Addr) (cR : Nat) (rs : List Int), i = .int .i64 k ∧ k ≤ 3 ∧ rs.length + k ≤ 3 ∧ ObjAt wr (Bo + 1) Bo ⟨q, is, rs⟩ aI cI aR cR ∧ Box wr w.heap.size [.int .i64 0, .slice none 0 0, .slice none 0 0] 26 ∧ CurAt wr B zs ∧ w.grownBy wr (some B))
        (fun i _ => (intOf i).toNat)
      case atStart => exact ⟨z, none, 0, [], rfl, by omega, by simp; omega, ho4, b4, hc4, hgw4⟩
      case round =>
        clear ho4 b4 hc4 hgw4 hz4 w4
        rename_i _ wx
        obtain ⟨k, aR, cR, rs, rfl, hk, hik, ho, hb, hcr, hgr⟩ := hrel
        cases k with
        | zero =>
          have hrl : rs.length ≤ 3 := by omega
          clear hik hk
          obtain ⟨c0, c1, c2, _, _, _⟩ := ho.three
          obtain ⟨x0, x1, x2, g0, g1, g2⟩ := hb.three
          obtain ⟨WF, hWF, bF, hwF, hsF⟩ := box3_fill hb (.int .i64 q) (.slice aI is.length cI) (.slice aR rs.length cR)
          go_wp2
          rw [hWF.out]
          obtain ⟨q0, q1, q2, _, _, _⟩ := bF.three
          have hlo := ho.lt
          have hgF : wr.grownBy WF (some w.heap.size) := ⟨hwF.os, hwF.tape, hwF.output, hwF.size, fun k hk hn => hwF.block k hk (fun h => hn (by rw [show k = w.heap.size by omega]))⟩
          exact bodyPost_ret (v := .agg #[.int .i64 q, .slice aI is.length cI, .slice aR rs.length cR]) (by simp [results, Tryz.results26, go_sem, q0, q1, q2]) rfl ⟨aI, cI, aR, cR, ⟨q, is, rs⟩, rfl, by simp only; omega, hrl, (ho.own.kept hgF (by omega)).widen (by omega) (Nat.le_refl _) (Nat.le_refl _), hcr.kept hgF (fun k e => by cases e; exact hB), grownBy_new hgr hgF (fun k e => by cases e; exact Nat.le_refl _)⟩
        | succ m =>
          have hkp : (0 : Int) < ((m + 1 : Nat) : Int) := by omega
          obtain ⟨_, _, c2, _, _, f2⟩ := ho.three
          go_wp2_with fail
          go_region_law ((first
            | (go_simp; go_at_call 40; refine (l1Below_any B zs 32 _ (by exact hcr.drew) hl (by omega)).mono ?_; rintro e u1 ⟨x, rfl, hx, hc1, hg1⟩; have hg1' := grownBy_trans (grown_drew _ (some B)) hg1; have ho1 := ho.kept hg1' hBB; obtain ⟨_, _, d2, _, _, _⟩ := ho1.three; have dA := fun ob => (ho1.alloc ob).three.2.2.1)
            | (go_simp; go_at_call 41; refine (l1Int_any B zs _ _ [0, 1, 2, 3, 5, 8, 12, 31, (x : Int)] _ (hc1.alloc _) hl (readsI_lit u1 _ _) (fun b off e => by cases e; have := hc1.lt; omega) (by simp) (by simp)).mono ?_; rintro e u2 ⟨j, hj, rfl, hc2, hg2⟩; generalize List.getD _ j (0 : Int) = n; have hg2' := grownBy_trans (World.grownBy_alloc u1 _ (some B)) hg2; have ho2 := ho1.kept hg2' hBB; obtain ⟨_, _, d2, _, _, _⟩ := ho2.three; have dA := fun ob => (ho2.alloc ob).three.2.2.1)
            | (refine step_append_ints rfl (.tmp 33) (.tmp 39) (by rfl) (Bo + 1) _ aR cR rs (by rfl) (ho2.alloc _).own.refs _ _ [n] (by rfl) (readsI_lit u2 [n] _) (by intro h; cases h) (by simp; omega) (by have := ho2.box.lt; simp; omega) ?_; intro a3 c3 y3 u3 hy3 ho3 hg3 hat3; obtain ⟨⟨d2, f2⟩, hO, hC, hG, hT⟩ := (ho2.alloc _).pushR (hc2.alloc _) hBB (grownBy_new (grownBy_trans (grownBy_trans hgr hg1') hg2') (World.grownBy_alloc u2 _ none) (fun j e => by cases e)) (by omega) ho3 hg3 hat3)))
          all_goals
            have hbF := (((hb.grown hg1' (by omega)).grown hg2' (by omega)).alloc _).block (hT w.heap.size (by omega) (by omega) (((hb.grown hg1' (by omega)).grown hg2' (by omega)).alloc _).lt)
            have hyl : y3.length + m ≤ 3 := by have := congrArg List.length hy3.out; simp at this; omega
            clear hT hat3 hg3 ho3 dA d2 f2 hc1 hc2 ho1 ho2 hg1' hg2' hcr hgr hb ho hg1 hg2 hy3
            generalize u3.setCell _ _ = wf at *
            go_wp2_with fail
            go_roundw
            case rel => exact ⟨m, a3, c3, y3, by go_num, by omega, hyl, hO, hbF, hC, hG⟩
            case measure => simp [intOf]
    | succ m =>
      have hkp : (0 : Int) < ((m + 1 : Nat) : Int) := by omega
      obtain ⟨_, c1, _, _, f1, _⟩ := ho.three
      go_wp2_with fail
      go_region_law ((first
        | (go_simp; go_at_call 40; refine (l1Below_any B zs 50 _ (by exact hcr.drew) hl (by omega)).mono ?_; rintro e u1 ⟨x, rfl, hx, hc1, hg1⟩; have hg1' := grownBy_trans (grown_drew wr (some B)) hg1; have ho1 := ho.kept hg1' hBB; obtain ⟨_, d1, _, _, _, _⟩ := ho1.three; have dA := fun ob => (ho1.alloc ob).three.2.1)
        | (go_simp; go_at_call 41; refine (l1Int_any B zs _ _ [0, 1, -1, 7, 1000000, -1000000, (x : Int)] _ (hc1.alloc _) hl (readsI_lit u1 _ _) (fun b off e => by cases e; have := hc1.lt; omega) (by simp) (by simp)).mono ?_; rintro e u2 ⟨j, hj, rfl, hc2, hg2⟩; generalize List.getD _ j (0 : Int) = n; have hg2' := grownBy_trans (World.grownBy_alloc u1 _ (some B)) hg2; have ho2 := ho1.kept hg2' hBB; obtain ⟨_, d1, _, _, _, _⟩ := ho2.three; have dA := fun ob => (ho2.alloc ob).three.2.1)
        | (refine step_append_ints rfl (.tmp 17) (.tmp 23) (by rfl) (Bo + 1) _ aI cI is (by rfl) (ho2.alloc _).own.ints _ _ [n] (by rfl) (readsI_lit u2 [n] _) (by intro h; cases h) (by simp; omega) (by have := ho2.box.lt; simp; omega) ?_; intro a3 c3 y3 u3 hy3 ho3 hg3 hat3; obtain ⟨⟨d1, f1⟩, hO, hC, hG, hT⟩ := (ho2.alloc _).pushI (hc2.alloc _) hBB (grownBy_new (grownBy_trans (grownBy_trans hgr hg1') hg2') (World.grownBy_alloc u2 _ none) (fun j e => by cases e)) (by omega) ho3 hg3 hat3)))
      all_goals
        have hbF := (((hb.grown hg1' (by omega)).grown hg2' (by omega)).alloc _).block (hT w.heap.size (by omega) (by omega) (((hb.grown hg1' (by omega)).grown hg2' (by omega)).alloc _).lt)
        have hyl : y3.length + m ≤ 2 := by have := congrArg List.length hy3.out; simp at this; omega
        clear hT hat3 hg3 ho3 dA d1 f1 hc1 hc2 ho1 ho2 hg1' hg2' hcr hgr hb ho hg1 hg2 hy3
        generalize u3.setCell _ _ = wf at *
        go_wp2_with fail
        go_roundw
        case rel => exact ⟨m, a3, c3, y3, by go_num, by omega, hyl, hO, hbF, hC, hG⟩
        case measure => simp [intOf]
end Go.Proofs.YtdibmepjbabnnabGreatDoor
