/- Several texts in one, in their order. -/
import Derived.Test.YtdibmepjbabnnacDoorPart5
import Derived.Deep.RegionHeld3
import Derived.Test.YtdibmepjbabnnacDoorPart4
import Derived.Test.YtdibmepjbabnnacDoorPart2
import Derived.Test.YtdibmepjbabnnacDoorProg
import Derived.Deep.QuietTactic
import Derived.BigQuiet
/- The walks of impl.readObj and impl.GetObj. -/
namespace Go.Proofs.YtdibmepjbabnnacDoor
open Go.RowKit

/-- What readObj answers. -/
def ReadAns (w' : World) (lo : Nat) (x : Option ObjV) (e : Ending) : Prop := match x with
  | some o => ∃ aI cI aR cR ev, e = .returned (.tuple #[.agg #[.int .i64 o.kind, .slice aI o.ints.length cI, .slice aR o.refs.length cR], ev]) ∧ IsErr (okB o) (.returned ev) ∧ OwnO w' lo w'.heap.size aI cI aR cR o
  | none => ∃ s, e = .returned (.tuple #[.agg #[.int .i64 0, .slice none 0 0, .slice none 0 0], .iface 72 (.agg #[.string s])])
theorem readAns_none {w' : World} {lo : Nat} {x : Option ObjV} (h : x = none) (s : ByteArray) : ReadAns w' lo x (.returned (.tuple #[.agg #[.int .i64 0, .slice none 0 0, .slice none 0 0], .iface 72 (.agg #[.string s])])) := by
  subst h; exact ⟨s, rfl⟩
theorem readAns_some {w' : World} {lo : Nat} {x : Option ObjV} {o : ObjV} (h : x = some o) {aI : Option Addr} {cI : Nat} {aR : Option Addr} {cR : Nat} {ev : Value} (he : IsErr (okB o) (.returned ev)) (ho : OwnO w' lo w'.heap.size aI cI aR cR o) : ReadAns w' lo x (.returned (.tuple #[.agg #[.int .i64 o.kind, .slice aI o.ints.length cI, .slice aR o.refs.length cR], ev])) := by
  subst h; exact ⟨aI, cI, aR, cR, ev, rfl, he, ho⟩
theorem isErr_ret {ok : Bool} {e : Ending} (h : IsErr ok e) : ∃ ev, e = .returned ev := by
  rcases h with ⟨_, rfl⟩ | ⟨_, s, rfl⟩
  · exact ⟨_, rfl⟩
  · exact ⟨_, rfl⟩

theorem readAll_none0 {zs : List Int} (h : getAt zs 0 = none) : readAll zs = none := by unfold readAll; rw [h]
theorem readAll_none1 {zs : List Int} {k : Int} {p : Nat} (h : getAt zs 0 = some (k, p)) (h1 : partsAt zs p = none) : readAll zs = none := by unfold readAll; rw [h]; simp only; rw [h1]
theorem readAll_none2 {zs : List Int} {k : Int} {p q : Nat} {is : List Int} (h : getAt zs 0 = some (k, p)) (h1 : partsAt zs p = some (is, q)) (h2 : partsAt zs q = none) : readAll zs = none := by
  unfold readAll; rw [h]; simp only; rw [h1]; simp only; rw [h2]
theorem readAll_at {zs : List Int} {k : Int} {p q r : Nat} {is rs : List Int} (h : getAt zs 0 = some (k, p)) (h1 : partsAt zs p = some (is, q)) (h2 : partsAt zs q = some (rs, r)) : readAll zs = if r = zs.length then some ⟨k, is, rs⟩ else none := by
  unfold readAll; rw [h]; simp only; rw [h1]; simp only; rw [h2]

set_option maxHeartbeats 4000000 in
set_option maxRecDepth 100000 in
theorem readObj_any (a : Option Addr) (c : Nat) (zs : List Int) (w : World) (hr : Reads w a zs) (hl : zs.length ≤ 70368744177664) (hcap : zs.length ≤ c) :
    Calls Tryd.prog 26 #[.slice a zs.length c] w fun e w' => ReadAns w' w.heap.size (readAll zs) e ∧ Below w.heap.size w w' := by
  generalize hXX : readAll zs = X
  have HXX : Hid (readAll zs = X) := hXX
  clear hXX
  obtain ⟨W, hW, b0, hbW, hsW⟩ := boxes1 w [.int .i64 0, .slice none 0 0, .slice none 0 0] 25
  obtain ⟨x0, x1, x2, f0, f1, f2⟩ := b0.three
  have hrW := hr.below hbW
  have hblt := b0.lt
  cases hg : getAt zs 0 with
  | none =>
    have HX : Hid (X = none) := HXX.out ▸ readAll_none0 hg
    have HG : Hid (_ = _) := hg
    clear hg
    obtain ⟨WF, hWF, bF, hwF, _⟩ := box3_fill b0 (.int .i64 0) (.slice none 0 0) (.slice none 0 0)
    have HB : Hid (Below w.heap.size w WF) := hbW.trans (hwF.below (by omega) (by omega))
    clear hwF
    go_enter Tryd.func26, Tryd.ntmps26
    go_wp2_with fail
    rw [hW.out]
    refine (implGetInt_any a c zs 0 W hrW hl hcap).mono ?_
    rintro e w' ⟨rfl, rfl⟩
    rw [HG.out]
    simp only [triple]
    go_wp2
    rw [hWF.out]
    obtain ⟨q0, q1, q2, _, _, _⟩ := bF.three
    exact bodyPost_ret (v := .tuple #[.agg #[.int .i64 0, .slice none 0 0, .slice none 0 0], .iface 72 (.agg #[.string _])]) (by simp [results, Tryd.results26, go_sem, q0, q1, q2]; rfl) rfl ⟨readAns_none HX.out _, HB.out⟩
  | some t =>
  obtain ⟨k, p⟩ := t
  have HG : Hid (_ = _) := hg
  go_enter Tryd.func26, Tryd.ntmps26
  go_wp2_with fail
  rw [hW.out]
  refine (implGetInt_any a c zs 0 W hrW hl hcap).mono ?_
  rintro e w' ⟨rfl, rfl⟩
  rw [HG.out]
  simp only [triple]
  go_wp2_with fail
  refine (readParts_any a c zs p w' hrW hl hcap).mono ?_
  rintro e w1 ⟨hans, hb1⟩
  have B1 : Below w.heap.size w w1 := hbW.trans (hb1.mono hbW.size)
  have b1 := b0.below hb1 b0.lt
  obtain ⟨y0, y1, y2, e0, e1, e2⟩ := b1.three
  have hs1 := hb1.size
  cases hp : partsAt zs p with
  | none =>
    rw [hp] at hans
    obtain ⟨s, rfl⟩ := hans
    have HX : Hid (X = none) := HXX.out ▸ readAll_none1 hg hp
    clear hg hp
    obtain ⟨WF, hWF, bF, hwF, _⟩ := box3_fill b1 (.int .i64 0) (.slice none 0 0) (.slice none 0 0)
    have HB : Hid (Below w.heap.size w WF) := B1.trans (hwF.below (by omega) (by omega))
    clear hwF
    go_wp2
    rw [hWF.out]
    obtain ⟨q0, q1, q2, _, _, _⟩ := bF.three
    exact bodyPost_ret (v := .tuple #[.agg #[.int .i64 0, .slice none 0 0, .slice none 0 0], .iface 72 (.agg #[.string s])]) (by simp [results, Tryd.results26, go_sem, q0, q1, q2]) rfl ⟨readAns_none HX.out _, HB.out⟩
  | some t =>
  obtain ⟨is, q⟩ := t
  rw [hp] at hans
  obtain ⟨aI, cI, rfl, hoI⟩ := hans
  have hq5 := (partsAt_canon zs hr.1 p is q hp).1
  go_wp2_with fail
  refine (readParts_any a c zs q w1 (hr.below B1) hl hcap).mono ?_
  rintro e w2 ⟨hans, hb2⟩
  have B2 : Below w.heap.size w w2 := B1.trans (hb2.mono B1.size)
  have b2 := b1.below hb2 b1.lt
  obtain ⟨z0, z1, z2, g0, g1, g2⟩ := b2.three
  have hs2 := hb2.size
  have hoI2 := hoI.below hb2
  clear y0 y1 y2 e0 e1 e2 x0 x1 x2 f0 f1 f2
  cases hp2 : partsAt zs q with
  | none =>
    rw [hp2] at hans
    obtain ⟨s, rfl⟩ := hans
    have HX : Hid (X = none) := HXX.out ▸ readAll_none2 hg hp hp2
    clear hg hp hp2
    obtain ⟨WF, hWF, bF, hwF, _⟩ := box3_fill b2 (.int .i64 0) (.slice none 0 0) (.slice none 0 0)
    have HB : Hid (Below w.heap.size w WF) := B2.trans (hwF.below (by omega) (by omega))
    clear hwF
    go_wp2
    rw [hWF.out]
    obtain ⟨q0, q1, q2, _, _, _⟩ := bF.three
    exact bodyPost_ret (v := .tuple #[.agg #[.int .i64 0, .slice none 0 0, .slice none 0 0], .iface 72 (.agg #[.string s])]) (by simp [results, Tryd.results26, go_sem, q0, q1, q2]) rfl ⟨readAns_none HX.out _, HB.out⟩
  | some t =>
  obtain ⟨rs, r⟩ := t
  rw [hp2] at hans
  obtain ⟨aR, cR, rfl, hoR⟩ := hans
  have hr5 := (partsAt_canon zs hr.1 q rs r hp2).1
  have hX := readAll_at hg hp hp2
  clear hg hp hp2
  by_cases hrl : r = zs.length
  case neg =>
    have HX : Hid (X = none) := by rw [Hid, ← HXX.out, hX, if_neg hrl]
    have hrb : ((r : Int) == (zs.length : Int)) = false := by simp; omega
    clear hX hrl
    obtain ⟨WF, hWF, bF, hwF, _⟩ := box3_fill b2 (.int .i64 0) (.slice none 0 0) (.slice none 0 0)
    have HB : Hid (Below w.heap.size w WF) := B2.trans (hwF.below (by omega) (by omega))
    clear hwF
    go_wp2
    rw [hWF.out]
    obtain ⟨q0, q1, q2, _, _, _⟩ := bF.three
    exact bodyPost_ret (v := .tuple #[.agg #[.int .i64 0, .slice none 0 0, .slice none 0 0], .iface 72 (.agg #[.string _])]) (by simp [results, Tryd.results26, go_sem, q0, q1, q2]; rfl) rfl ⟨readAns_none HX.out _, HB.out⟩
  case pos =>
  have HX : Hid (X = some ⟨k, is, rs⟩) := by rw [Hid, ← HXX.out, hX, if_pos hrl]
  have hrb : ((r : Int) == (zs.length : Int)) = true := by simp; omega
  clear hX hrl
  obtain ⟨W3, hW3, b3, hbW3, hsW3⟩ := boxes1 w2 [.int .i64 k, .slice aI is.length cI, .slice aR rs.length cR] 25
  have hO3 : OwnO W3 w'.heap.size w2.heap.size aI cI aR cR ⟨k, is, rs⟩ := ⟨(hoI2.below hbW3).widen (Nat.le_refl _) (by omega) (by omega), (hoR.below hbW3).widen (by omega) (by omega) (by omega), fun j hj hj' => by have := (hoI.lt j hj).2; have := (hoR.lt j hj').1; omega⟩
  have b2' := b2.below hbW3 b2.lt
  have hkeep : ∀ w'', Below W3.heap.size W3 w'' → Box w'' w2.heap.size [.int .i64 k, .slice aI is.length cI, .slice aR rs.length cR] 25 ∧ Box w'' w.heap.size [.int .i64 0, .slice none 0 0, .slice none 0 0] 25 :=
    fun w'' hh => ⟨b3.below hh b3.lt, b2'.below hh b2'.lt⟩
  have B3 : Below w.heap.size w W3 := B2.trans (hbW3.mono B2.size)
  go_wp2_with fail
  rw [hW3.out]
  have hk0 := hkeep W3 (Below.refl _ _)
  have hcells : ∀ w'', Below W3.heap.size W3 w'' → (w''.cell? ⟨w2.heap.size, 0, none⟩ = some (.int .i64 k) ∧ w''.cell? ⟨w2.heap.size, 1, none⟩ = some (.slice aI is.length cI) ∧ w''.cell? ⟨w2.heap.size, 2, none⟩ = some (.slice aR rs.length cR)) ∧ (w''.cell? ⟨w.heap.size, 0, none⟩ = some (.int .i64 0) ∧ w''.cell? ⟨w.heap.size, 1, none⟩ = some (.slice none 0 0) ∧ w''.cell? ⟨w.heap.size, 2, none⟩ = some (.slice none 0 0)) ∧ (w''.frozen? ⟨w.heap.size, 0, none⟩ = false ∧ w''.frozen? ⟨w.heap.size, 1, none⟩ = false ∧ w''.frozen? ⟨w.heap.size, 2, none⟩ = false) := by
    intro w'' hh
    obtain ⟨ba, bb⟩ := hkeep w'' hh
    exact ⟨⟨ba.cell 0 _ rfl, ba.cell 1 _ rfl, ba.cell 2 _ rfl⟩, ⟨bb.cell 0 _ rfl, bb.cell 1 _ rfl, bb.cell 2 _ rfl⟩, bb.frozen 0, bb.frozen 1, bb.frozen 2⟩
  have hh := hcells W3 (Below.refl _ _)
  clear hk0
  have hne : w.heap.size < w2.heap.size := by omega
  have hne' : ¬ (w2.heap.size = w.heap.size) := by omega
  go_region_held3 (fun w'' => w''.cell? ⟨w2.heap.size, 0, none⟩ = some (.int .i64 k) ∧ w''.cell? ⟨w2.heap.size, 1, none⟩ = some (.slice aI is.length cI) ∧ w''.cell? ⟨w2.heap.size, 2, none⟩ = some (.slice aR rs.length cR))
    (first | exact (hcells _ hw5).1 | exact ⟨((((hkeep _ hw5).1.other hne').other hne').other hne').cell 0 _ rfl, ((((hkeep _ hw5).1.other hne').other hne').other hne').cell 1 _ rfl, ((((hkeep _ hw5).1.other hne').other hne').other hne').cell 2 _ rfl⟩ | go_keep)
    (first | (go_at_call 48; refine (checkObj_any ⟨k, is, rs⟩ aI cI aR cR _ hO3.reads.drew (by simp only; omega) (by simp only; omega)).mono ?_; rintro e w5 ⟨hie, hb5⟩; obtain ⟨ev, rfl⟩ := isErr_ret hie; have hw5 : Below W3.heap.size W3 w5 := (Below.refl _ _).drew.trans hb5; obtain ⟨⟨m0, m1, m2⟩, ⟨y0, y1, y2⟩, e0, e1, e2⟩ := hcells _ hw5))
  obtain ⟨WF, hWF, bF, hwF, hsF⟩ := box3_fill (hkeep _ hw5).2 (.int .i64 k) (.slice aI is.length cI) (.slice aR rs.length cR)
  rw [hWF.out]
  go_wp2
  obtain ⟨q0, q1, q2, _, _, _⟩ := bF.three
  have hs5 := hw5.size
  have hOF : OwnO WF w'.heap.size w2.heap.size aI cI aR cR ⟨k, is, rs⟩ := (hO3.below hw5).within hwF (.inr (by omega))
  exact bodyPost_ret (v := .tuple #[.agg #[.int .i64 k, .slice aI is.length cI, .slice aR rs.length cR], ev]) (by simp [results, Tryd.results26, go_sem, q0, q1, q2]) rfl ⟨readAns_some HX.out hie (hOF.widen (by omega) (by omega) (Nat.le_refl _)), (B3.trans (hw5.mono B3.size)).trans (hwF.below (Nat.le_refl _) (by omega))⟩

set_option maxHeartbeats 4000000 in
set_option maxRecDepth 100000 in
theorem implGetObj_any (a : Option Addr) (c : Nat) (zs : List Int) (w : World) (hg : ErrT w) (hr : Reads w a zs) (hl : zs.length ≤ 70368744177664) (hcap : zs.length ≤ c) :
    Calls Tryd.prog 8 #[.slice a zs.length c] w fun e w' => ∃ aI cI aR cR o ok, e = .returned (.tuple #[.agg #[.int .i64 o.kind, .slice aI o.ints.length cI, .slice aR o.refs.length cR], .bool ok]) ∧ Hid (getPair zs = (o, ok)) ∧ OwnO w' w.heap.size w'.heap.size aI cI aR cR o ∧ Below w.heap.size w w' := by
  have HN : Hid (readAll zs = none → getPair zs = (noO, false)) := getPair_none zs
  have HBD : Hid (∀ o, readAll zs = some o → okB o = false → getPair zs = (noO, false)) := fun o => getPair_bad zs o
  have HGD : Hid (∀ o, readAll zs = some o → okB o = true → getPair zs = (o, true)) := fun o => getPair_some zs hr.1 o
  generalize getPair zs = PR at *
  obtain ⟨W, hW, b0, hbW, hsW⟩ := boxes1 w [.int .i64 0, .slice none 0 0, .slice none 0 0] 25
  go_enter Tryd.func8, Tryd.ntmps8
  go_wp2_with fail
  rw [hW.out]
  refine (readObj_any a c zs W (hr.below hbW) hl hcap).mono ?_
  rintro e w1 ⟨hans, hb1⟩
  have B1 : Below w.heap.size w w1 := hbW.trans (hb1.mono hbW.size)
  have b1 := b0.below hb1 b0.lt
  have hs1 := hb1.size
  cases hx : readAll zs with
  | none =>
    have HP : Hid (_ = _) := HN.out hx
    rw [hx] at hans
    obtain ⟨s, rfl⟩ := hans
    clear hx
    go_wp2_with fail
    refine (foundObj_no 0 none 0 0 none 0 0 s w1 (hg.keep B1)).mono ?_
    rintro e w2 ⟨rfl, hb2⟩
    have B2 : Below w.heap.size w w2 := B1.trans (hb2.mono B1.size)
    have b2 := b1.below hb2 b1.lt
    have hs2 := hb2.size
    obtain ⟨y0, y1, y2, f0, f1, f2⟩ := b2.three
    obtain ⟨WF, hWF, bF, hwF, _⟩ := box3_fill b2 (.int .i64 0) (.slice none 0 0) (.slice none 0 0)
    have HB : Hid (Below w.heap.size w WF) := B2.trans (hwF.below (by omega) (by omega))
    clear hwF
    go_wp2
    rw [hWF.out]
    obtain ⟨q0, q1, q2, _, _, _⟩ := bF.three
    exact bodyPost_ret (v := .tuple #[.agg #[.int .i64 0, .slice none 0 0, .slice none 0 0], .bool false]) (by simp [results, Tryd.results8, go_sem, q0, q1, q2]) rfl ⟨none, 0, none, 0, noO, false, rfl, HP.out, ⟨ownI_nil _ _ _ (Nat.le_refl _), ownI_nil _ _ _ (Nat.le_refl _), fun k hk => by cases hk⟩, HB.out⟩
  | some o =>
    rw [hx] at hans
    obtain ⟨aI, cI, aR, cR, ev, rfl, hie, ho⟩ := hans
    rcases hie with ⟨hok, hev⟩ | ⟨hok, s, hev⟩
    · obtain rfl : ev = .nilIface := by simpa using hev
      have HP : Hid (_ = _) := HGD.out o hx hok
      clear hx hok hev
      go_wp2_with fail
      refine (foundObj_ok o.kind aI o.ints.length cI aR o.refs.length cR w1).mono ?_
      rintro e w2 ⟨rfl, hb2⟩
      have B2 : Below w.heap.size w w2 := B1.trans (hb2.mono B1.size)
      have b2 := b1.below hb2 b1.lt
      have hs2 := hb2.size
      obtain ⟨y0, y1, y2, f0, f1, f2⟩ := b2.three
      obtain ⟨WF, hWF, bF, hwF, hsF⟩ := box3_fill b2 (.int .i64 o.kind) (.slice aI o.ints.length cI) (.slice aR o.refs.length cR)
      have HB : Hid (Below w.heap.size w WF) := B2.trans (hwF.below (by omega) (by omega))
      have HO : Hid (OwnO WF w.heap.size WF.heap.size aI cI aR cR o) := ((ho.below hb2).within hwF (.inr (by omega))).widen (by omega) (by omega) (Nat.le_refl _)
      clear hwF
      go_wp2
      rw [hWF.out]
      obtain ⟨q0, q1, q2, _, _, _⟩ := bF.three
      exact bodyPost_ret (v := .tuple #[.agg #[.int .i64 o.kind, .slice aI o.ints.length cI, .slice aR o.refs.length cR], .bool true]) (by simp [results, Tryd.results8, go_sem, q0, q1, q2]) rfl ⟨aI, cI, aR, cR, o, true, rfl, HP.out, HO.out, HB.out⟩
    · obtain rfl : ev = _ := by simpa using hev
      have HP : Hid (_ = _) := HBD.out o hx hok
      clear hx hok hev
      go_wp2_with fail
      refine (foundObj_no o.kind aI o.ints.length cI aR o.refs.length cR s w1 (hg.keep B1)).mono ?_
      rintro e w2 ⟨rfl, hb2⟩
      have B2 : Below w.heap.size w w2 := B1.trans (hb2.mono B1.size)
      have b2 := b1.below hb2 b1.lt
      have hs2 := hb2.size
      obtain ⟨y0, y1, y2, f0, f1, f2⟩ := b2.three
      obtain ⟨WF, hWF, bF, hwF, _⟩ := box3_fill b2 (.int .i64 0) (.slice none 0 0) (.slice none 0 0)
      have HB : Hid (Below w.heap.size w WF) := B2.trans (hwF.below (by omega) (by omega))
      clear hwF
      go_wp2
      rw [hWF.out]
      obtain ⟨q0, q1, q2, _, _, _⟩ := bF.three
      exact bodyPost_ret (v := .tuple #[.agg #[.int .i64 0, .slice none 0 0, .slice none 0 0], .bool false]) (by simp [results, Tryd.results8, go_sem, q0, q1, q2]) rfl ⟨none, 0, none, 0, noO, false, rfl, HP.out, ⟨ownI_nil _ _ _ (Nat.le_refl _), ownI_nil _ _ _ (Nat.le_refl _), fun k hk => by cases hk⟩, HB.out⟩
end Go.Proofs.YtdibmepjbabnnacDoor

/- The walks of impl.parseObj and impl.ParseObj. -/
namespace Go.Proofs.YtdibmepjbabnnacDoor
open Go.RowKit

/-- What parseObj reads, right or not. -/
def readText (L : List Int) : Option ObjV := match cutOf 40 L with
  | none => none
  | some (kt, r1) => match cutOf 59 r1 with
    | none => none
    | some (it, r2) => match cutOf 41 r2 with
      | none => none
      | some (rt, r3) => if r3 = [] then (match pNum kt, partsBy pNum it, partsBy pNum rt with
        | some k, some is, some rs => some ⟨k, is, rs⟩
        | _, _, _ => none) else none
theorem implParse_read (L : List Int) : implParse L = match readText L with
    | none => none
    | some o => if okB o then some o else none := by
  unfold implParse readText
  cases cutOf 40 L with
  | none => rfl
  | some p =>
    obtain ⟨kt, r1⟩ := p
    simp only
    cases cutOf 59 r1 with
    | none => rfl
    | some p =>
      obtain ⟨it, r2⟩ := p
      simp only
      cases cutOf 41 r2 with
      | none => rfl
      | some p =>
        obtain ⟨rt, r3⟩ := p
        simp only
        by_cases h : r3 = []
        · rw [if_pos h, if_pos h]
          unfold okO
          cases pNum kt <;> cases partsBy pNum it <;> cases partsBy pNum rt <;> rfl
        · rw [if_neg h, if_neg h]

/-- What is answered of a text. -/
def parsePair (L : List Int) : ObjV × Bool := match specParse L with
  | some o => (o, true)
  | none => (noO, false)
theorem parsePair_none {L : List Int} (h : readText L = none) : parsePair L = (noO, false) := by
  unfold parsePair; rw [← parse_one, implParse_read, h]
theorem parsePair_bad {L : List Int} {o : ObjV} (h : readText L = some o) (hok : okB o = false) : parsePair L = (noO, false) := by
  unfold parsePair; rw [← parse_one, implParse_read, h]; simp [hok]
theorem parsePair_some {L : List Int} {o : ObjV} (h : readText L = some o) (hok : okB o = true) : parsePair L = (o, true) := by
  unfold parsePair; rw [← parse_one, implParse_read, h]; simp [hok]

theorem readText_none1 {L : List Int} (h : cutOf 40 L = none) : readText L = none := by unfold readText; rw [h]
theorem readText_none2 {L kt r1 : List Int} (h : cutOf 40 L = some (kt, r1)) (h2 : cutOf 59 r1 = none) : readText L = none := by unfold readText; rw [h]; simp only; rw [h2]
theorem readText_none3 {L kt r1 it r2 : List Int} (h : cutOf 40 L = some (kt, r1)) (h2 : cutOf 59 r1 = some (it, r2)) (h3 : cutOf 41 r2 = none) : readText L = none := by
  unfold readText; rw [h]; simp only; rw [h2]; simp only; rw [h3]
theorem readText_at {L kt r1 it r2 rt r3 : List Int} (h : cutOf 40 L = some (kt, r1)) (h2 : cutOf 59 r1 = some (it, r2)) (h3 : cutOf 41 r2 = some (rt, r3)) : readText L = if r3 = [] then (match pNum kt, partsBy pNum it, partsBy pNum rt with
        | some k, some is, some rs => some ⟨k, is, rs⟩
        | _, _, _ => none) else none := by
  unfold readText; rw [h]; simp only; rw [h2]; simp only; rw [h3]

/-- The number of parts that are parsed is no more than the text is long. -/
theorem allBy_len (f : List Int → Option Int) : ∀ (ps : List (List Int)) (l : List Int), allBy f ps = some l → l.length = ps.length := by
  intro ps
  induction ps with
  | nil => intro l h; simp [allBy] at h; subst h; rfl
  | cons p r ih =>
    intro l h
    unfold allBy at h
    cases hp : f p with
    | none => rw [hp] at h; cases h
    | some z =>
      rw [hp] at h
      cases hr : allBy f r with
      | none => simp [hr] at h
      | some l' =>
        simp only [hr, Option.map_some, Option.some.injEq] at h
        subst h
        simp [ih l' hr]
theorem partsBy_len (f : List Int → Option Int) (L l : List Int) (h : partsBy f L = some l) : l.length ≤ L.length + 1 := by
  unfold partsBy at h
  split at h
  · simp only [Option.some.injEq] at h
    subst h; simp
  · rw [allBy_len f _ _ h]; exact split_len 44 L

theorem cutAns_true {s : ByteArray} {c : UInt8} {A B : ByteArray} (h : CutAns s c A B true) : cutOf (toI c) (sBytes s) = some (sBytes A, sBytes B) := by
  rcases h with ⟨_, h⟩ | ⟨h, _⟩
  · exact h
  · cases h
theorem cutAns_false {s : ByteArray} {c : UInt8} {A B : ByteArray} (h : CutAns s c A B false) : cutOf (toI c) (sBytes s) = none := by
  rcases h with ⟨h, _⟩ | ⟨_, h⟩
  · cases h
  · exact h
theorem toI_40 : toI 40 = 40 := rfl
theorem toI_59 : toI 59 = 59 := rfl
theorem toI_41 : toI 41 = 41 := rfl

set_option maxHeartbeats 8000000 in
set_option maxRecDepth 100000 in
theorem parseObj_any (s : ByteArray) (w : World) (he : EnvP w) (hs : s.size ≤ 1048576) :
    Calls Tryd.prog 40 #[.string s] w fun e w' => ReadAns w' w.heap.size (readText (sBytes s)) e ∧ Below w.heap.size w w' := by
  generalize hXX : readText (sBytes s) = X
  have HXX : Hid (readText (sBytes s) = X) := hXX
  clear hXX
  obtain ⟨W, hW, b0, hbW, hsW⟩ := boxes1 w [.int .i64 0, .slice none 0 0, .slice none 0 0] 25
  have hsW' : w.heap.size < W.heap.size := b0.lt
  clear hsW
  go_enter Tryd.func40, Tryd.ntmps40
  go_wp2_with fail
  rw [hW.out]
  refine (cutS_any s 40 W (he.keep hbW) hs).mono ?_
  rintro e w1 ⟨K, R1, f1, rfl, hc1, hk1, hr1, hb1⟩
  have B1 : Below w.heap.size w w1 := hbW.trans (hb1.mono hbW.size)
  have hs1 := hb1.size
  go_wp2_with fail
  refine (cutS_any R1 59 w1 (he.keep B1) (by omega)).mono ?_
  rintro e w2 ⟨I, R2, f2, rfl, hc2, hk2, hr2, hb2⟩
  have B2 : Below w.heap.size w w2 := B1.trans (hb2.mono B1.size)
  have hs2 := hb2.size
  go_wp2_with fail
  refine (cutS_any R2 41 w2 (he.keep B2) (by omega)).mono ?_
  rintro e w3 ⟨F, R3, f3, rfl, hc3, hk3, hr3, hb3⟩
  have B3 : Below w.heap.size w w3 := B2.trans (hb3.mono B2.size)
  have hs3 := hb3.size
  have M3 : Below W.heap.size W w3 := (hb1.trans (hb2.mono hs1)).trans (hb3.mono (by omega))
  have b3 := b0.below M3 b0.lt
  obtain ⟨y0, y1, y2, e0, e1, e2⟩ := b3.three
  have he3 := he.keep B3
  -- what is answered where the signs are wrong
  have hbad : ∀ (G : Prop), (X = none → G) → (f1 = false ∨ f2 = false ∨ f3 = false ∨ ¬ sBytes R3 = []) → G := by
    intro G hG hf
    apply hG
    rw [← HXX.out]
    cases f1 with
    | false => have := cutAns_false hc1; rw [toI_40] at this; exact readText_none1 this
    | true =>
      have h1 := cutAns_true hc1
      rw [toI_40] at h1
      cases f2 with
      | false => have := cutAns_false hc2; rw [toI_59] at this; exact readText_none2 h1 this
      | true =>
        have h2 := cutAns_true hc2
        rw [toI_59] at h2
        cases f3 with
        | false => have := cutAns_false hc3; rw [toI_41] at this; exact readText_none3 h1 h2 this
        | true =>
          have h3 := cutAns_true hc3
          rw [toI_41] at h3
          rw [readText_at h1 h2 h3, if_neg]
          rcases hf with h | h | h | h
          · cases h
          · cases h
          · cases h
          · exact h
  by_cases hgood : f1 = true ∧ f2 = true ∧ f3 = true ∧ sBytes R3 = []
  case neg =>
    have HX : Hid (X = none) := by
      apply hbad _ id
      cases f1 <;> cases f2 <;> cases f3 <;> simp_all
    obtain ⟨WF, hWF, bF, hwF, _⟩ := box3_fill b3 (.int .i64 0) (.slice none 0 0) (.slice none 0 0)
    have HB : Hid (Below w.heap.size w WF) := B3.trans (hwF.below (by omega) (by omega))
    have hcs : f1 = false ∨ (f1 = true ∧ f2 = false) ∨ (f1 = true ∧ f2 = true ∧ f3 = false) ∨ (f1 = true ∧ f2 = true ∧ f3 = true ∧ (R3.toList == []) = false) := by
      cases f1 with
      | false => exact .inl rfl
      | true =>
        cases f2 with
        | false => exact .inr (.inl ⟨rfl, rfl⟩)
        | true =>
          cases f3 with
          | false => exact .inr (.inr (.inl ⟨rfl, rfl, rfl⟩))
          | true =>
            refine .inr (.inr (.inr ⟨rfl, rfl, rfl, ?_⟩))
            rw [beq_eq_false_iff_ne]
            intro e
            apply hgood
            refine ⟨rfl, rfl, rfl, ?_⟩
            rw [ByteArray.toList_eq] at e
            rw [sBytes_toI, e]; rfl
    clear hwF hbad hgood hc1 hc2 hc3
    rcases hcs with rfl | ⟨rfl, rfl⟩ | ⟨rfl, rfl, rfl⟩ | ⟨rfl, rfl, rfl, hne⟩
    all_goals
      go_wp2
      rw [hWF.out]
      obtain ⟨q0, q1, q2, _, _, _⟩ := bF.three
      exact bodyPost_ret (v := .tuple #[.agg #[.int .i64 0, .slice none 0 0, .slice none 0 0], .iface 72 (.agg #[.string _])]) (by simp [results, Tryd.results40, go_sem, q0, q1, q2]; rfl) rfl ⟨readAns_none HX.out _, HB.out⟩
  case pos =>
  obtain ⟨rfl, rfl, rfl, hr0⟩ := hgood
  have h1 := cutAns_true hc1
  have h2 := cutAns_true hc2
  have h3 := cutAns_true hc3
  rw [toI_40] at h1
  rw [toI_59] at h2
  rw [toI_41] at h3
  have hX := readText_at h1 h2 h3
  rw [if_pos hr0, HXX.out] at hX
  have hempty : (R3.toList == []) = true := by
    have : R3 = ⟨#[]⟩ := sBytes_inj (by rw [hr0]; rfl)
    rw [this, ByteArray.toList_eq]; rfl
  clear hbad h1 h2 h3 hc1 hc2 hc3 hr0 HXX
  have hpn := parseNumber_any K w3 he3 (by omega)
  cases hkn : pNum (sBytes K) with
  | none =>
    rw [hkn] at hpn hX
    have HX : Hid (X = none) := hX
    clear hX hkn
    simp only [numAns] at hpn
    go_wp2_with fail
    refine hpn.mono ?_
    clear hpn
    rintro e w4 ⟨rfl, hb4⟩
    have hs4 := hb4.size
    have B4 : Below w.heap.size w w4 := B3.trans (hb4.mono B3.size)
    have b4 := b3.below hb4 b3.lt
    clear y0 y1 y2 e0 e1 e2
    obtain ⟨y0, y1, y2, e0, e1, e2⟩ := b4.three
    obtain ⟨WF, hWF, bF, hwF, _⟩ := box3_fill b4 (.int .i64 0) (.slice none 0 0) (.slice none 0 0)
    have HB : Hid (Below w.heap.size w WF) := B4.trans (hwF.below (by omega) (by omega))
    clear hwF
    go_wp2
    rw [hWF.out]
    obtain ⟨q0, q1, q2, _, _, _⟩ := bF.three
    exact bodyPost_ret (v := .tuple #[.agg #[.int .i64 0, .slice none 0 0, .slice none 0 0], .iface 72 (.agg #[.string _])]) (by simp [results, Tryd.results40, go_sem, q0, q1, q2]; rfl) rfl ⟨readAns_none HX.out _, HB.out⟩
  | some k =>
  rw [hkn] at hpn hX
  simp only [numAns] at hpn
  clear hkn
  go_wp2_with fail
  refine hpn.mono ?_
  clear hpn
  rintro e w4 ⟨rfl, hb4⟩
  have hs4 := hb4.size
  have B4 : Below w.heap.size w w4 := B3.trans (hb4.mono B3.size)
  have b4 := b3.below hb4 b3.lt
  clear y0 y1 y2 e0 e1 e2
  go_wp2_with fail
  refine (parseParts_any I w4 (he.keep B4) (by omega)).mono ?_
  rintro e w5 ⟨hans, hb5⟩
  have hs5 := hb5.size
  have B5 : Below w.heap.size w w5 := B4.trans (hb5.mono B4.size)
  have b5 := b4.below hb5 b4.lt
  obtain ⟨y0, y1, y2, e0, e1, e2⟩ := b5.three
  cases hin : partsBy pNum (sBytes I) with
  | none =>
    rw [hin] at hans hX
    obtain ⟨sI, rfl⟩ := hans
    have HX : Hid (X = none) := hX
    clear hX hin
    obtain ⟨WF, hWF, bF, hwF, _⟩ := box3_fill b5 (.int .i64 0) (.slice none 0 0) (.slice none 0 0)
    have HB : Hid (Below w.heap.size w WF) := B5.trans (hwF.below (by omega) (by omega))
    clear hwF
    go_wp2
    rw [hWF.out]
    obtain ⟨q0, q1, q2, _, _, _⟩ := bF.three
    exact bodyPost_ret (v := .tuple #[.agg #[.int .i64 0, .slice none 0 0, .slice none 0 0], .iface 72 (.agg #[.string sI])]) (by simp [results, Tryd.results40, go_sem, q0, q1, q2]) rfl ⟨readAns_none HX.out _, HB.out⟩
  | some is =>
  have hil := partsBy_len pNum _ _ hin
  rw [sBytes_len] at hil
  rw [hin] at hans hX
  obtain ⟨aI, cI, rfl, hoI⟩ := hans
  clear hin y0 y1 y2 e0 e1 e2
  go_wp2_with fail
  refine (parseParts_any F w5 (he.keep B5) (by omega)).mono ?_
  rintro e w6 ⟨hans, hb6⟩
  have hs6 := hb6.size
  have B6 : Below w.heap.size w w6 := B5.trans (hb6.mono B5.size)
  have b6 := b5.below hb6 b5.lt
  obtain ⟨y0, y1, y2, e0, e1, e2⟩ := b6.three
  have hoI6 := hoI.below hb6
  cases hrn : partsBy pNum (sBytes F) with
  | none =>
    rw [hrn] at hans hX
    obtain ⟨sI, rfl⟩ := hans
    have HX : Hid (X = none) := hX
    clear hX hrn
    obtain ⟨WF, hWF, bF, hwF, _⟩ := box3_fill b6 (.int .i64 0) (.slice none 0 0) (.slice none 0 0)
    have HB : Hid (Below w.heap.size w WF) := B6.trans (hwF.below (by omega) (by omega))
    clear hwF
    go_wp2
    rw [hWF.out]
    obtain ⟨q0, q1, q2, _, _, _⟩ := bF.three
    exact bodyPost_ret (v := .tuple #[.agg #[.int .i64 0, .slice none 0 0, .slice none 0 0], .iface 72 (.agg #[.string sI])]) (by simp [results, Tryd.results40, go_sem, q0, q1, q2]) rfl ⟨readAns_none HX.out _, HB.out⟩
  | some rs =>
  have hrl := partsBy_len pNum _ _ hrn
  rw [sBytes_len] at hrl
  rw [hrn] at hans hX
  obtain ⟨aR, cR, rfl, hoR⟩ := hans
  have HX : Hid (X = some ⟨k, is, rs⟩) := hX
  clear hX hrn
  obtain ⟨W7, hW7, b7, hbW7, hsW7⟩ := boxes1 w6 [.int .i64 k, .slice aI is.length cI, .slice aR rs.length cR] 25
  have hO7 : OwnO W7 w4.heap.size w6.heap.size aI cI aR cR ⟨k, is, rs⟩ := ⟨(hoI6.below hbW7).widen (Nat.le_refl _) (by omega) (by omega), (hoR.below hbW7).widen (by omega) (by omega) (by omega), fun j hj hj' => by have := (hoI.lt j hj).2; have := (hoR.lt j hj').1; omega⟩
  have b6' := b6.below hbW7 b6.lt
  have hkeep : ∀ w'', Below W7.heap.size W7 w'' → Box w'' w6.heap.size [.int .i64 k, .slice aI is.length cI, .slice aR rs.length cR] 25 ∧ Box w'' w.heap.size [.int .i64 0, .slice none 0 0, .slice none 0 0] 25 :=
    fun w'' hh => ⟨b7.below hh b7.lt, b6'.below hh b6'.lt⟩
  have B7 : Below w.heap.size w W7 := B6.trans (hbW7.mono B6.size)
  have hcells : ∀ w'', Below W7.heap.size W7 w'' → (w''.cell? ⟨w6.heap.size, 0, none⟩ = some (.int .i64 k) ∧ w''.cell? ⟨w6.heap.size, 1, none⟩ = some (.slice aI is.length cI) ∧ w''.cell? ⟨w6.heap.size, 2, none⟩ = some (.slice aR rs.length cR)) ∧ (w''.cell? ⟨w.heap.size, 0, none⟩ = some (.int .i64 0) ∧ w''.cell? ⟨w.heap.size, 1, none⟩ = some (.slice none 0 0) ∧ w''.cell? ⟨w.heap.size, 2, none⟩ = some (.slice none 0 0)) ∧ (w''.frozen? ⟨w.heap.size, 0, none⟩ = false ∧ w''.frozen? ⟨w.heap.size, 1, none⟩ = false ∧ w''.frozen? ⟨w.heap.size, 2, none⟩ = false) := by
    intro w'' hh
    obtain ⟨ba, bb⟩ := hkeep w'' hh
    exact ⟨⟨ba.cell 0 _ rfl, ba.cell 1 _ rfl, ba.cell 2 _ rfl⟩, ⟨bb.cell 0 _ rfl, bb.cell 1 _ rfl, bb.cell 2 _ rfl⟩, bb.frozen 0, bb.frozen 1, bb.frozen 2⟩
  have hne : w.heap.size < w6.heap.size := b6.lt
  have hne' : ¬ (w6.heap.size = w.heap.size) := by omega
  go_wp2_with fail
  rw [hW7.out]
  clear y0 y1 y2 e0 e1 e2
  have hh := hcells W7 (Below.refl _ _)
  go_region_held3 (fun w'' => w''.cell? ⟨w6.heap.size, 0, none⟩ = some (.int .i64 k) ∧ w''.cell? ⟨w6.heap.size, 1, none⟩ = some (.slice aI is.length cI) ∧ w''.cell? ⟨w6.heap.size, 2, none⟩ = some (.slice aR rs.length cR))
    (first | exact (hcells _ hw8).1 | exact ⟨((((hkeep _ hw8).1.other hne').other hne').other hne').cell 0 _ rfl, ((((hkeep _ hw8).1.other hne').other hne').other hne').cell 1 _ rfl, ((((hkeep _ hw8).1.other hne').other hne').other hne').cell 2 _ rfl⟩ | go_keep)
    (first | (go_at_call 48; refine (checkObj_any ⟨k, is, rs⟩ aI cI aR cR _ hO7.reads.drew (by simp only; omega) (by simp only; omega)).mono ?_; rintro e w8 ⟨hie, hb8⟩; obtain ⟨ev, rfl⟩ := isErr_ret hie; have hw8 : Below W7.heap.size W7 w8 := (Below.refl _ _).drew.trans hb8; obtain ⟨⟨m0, m1, m2⟩, ⟨y0, y1, y2⟩, e0, e1, e2⟩ := hcells _ hw8))
  obtain ⟨WF, hWF, bF, hwF, hsF⟩ := box3_fill (hkeep _ hw8).2 (.int .i64 k) (.slice aI is.length cI) (.slice aR rs.length cR)
  rw [hWF.out]
  go_wp2
  obtain ⟨q0, q1, q2, _, _, _⟩ := bF.three
  have hs8 := hw8.size
  have hOF : OwnO WF w4.heap.size w6.heap.size aI cI aR cR ⟨k, is, rs⟩ := (hO7.below hw8).within hwF (.inr (by omega))
  exact bodyPost_ret (v := .tuple #[.agg #[.int .i64 k, .slice aI is.length cI, .slice aR rs.length cR], ev]) (by simp [results, Tryd.results40, go_sem, q0, q1, q2]) rfl ⟨readAns_some HX.out hie (hOF.widen (by omega) (by omega) (Nat.le_refl _)), (B7.trans (hw8.mono B7.size)).trans (hwF.below (Nat.le_refl _) (by omega))⟩

set_option maxHeartbeats 4000000 in
set_option maxRecDepth 100000 in
theorem implParseObj_any (s : ByteArray) (w : World) (he : EnvP w) (hs : s.size ≤ 1048576) :
    Calls Tryd.prog 19 #[.string s] w fun e w' => ∃ aI cI aR cR o ok, e = .returned (.tuple #[.agg #[.int .i64 o.kind, .slice aI o.ints.length cI, .slice aR o.refs.length cR], .bool ok]) ∧ Hid (parsePair (sBytes s) = (o, ok)) ∧ OwnO w' w.heap.size w'.heap.size aI cI aR cR o ∧ Below w.heap.size w w' := by
  have HN : Hid (readText (sBytes s) = none → parsePair (sBytes s) = (noO, false)) := parsePair_none
  have HBD : Hid (∀ o, readText (sBytes s) = some o → okB o = false → parsePair (sBytes s) = (noO, false)) := fun o => parsePair_bad
  have HGD : Hid (∀ o, readText (sBytes s) = some o → okB o = true → parsePair (sBytes s) = (o, true)) := fun o => parsePair_some
  generalize parsePair (sBytes s) = PR at *
  obtain ⟨W, hW, b0, hbW, hsW⟩ := boxes1 w [.int .i64 0, .slice none 0 0, .slice none 0 0] 25
  have hg : ErrT w := he.text.err
  go_enter Tryd.func19, Tryd.ntmps19
  go_wp2_with fail
  rw [hW.out]
  refine (parseObj_any s W (he.keep hbW) hs).mono ?_
  rintro e w1 ⟨hans, hb1⟩
  have B1 : Below w.heap.size w w1 := hbW.trans (hb1.mono hbW.size)
  have b1 := b0.below hb1 b0.lt
  have hs1 := hb1.size
  cases hx : readText (sBytes s) with
  | none =>
    have HP : Hid (_ = _) := HN.out hx
    rw [hx] at hans
    obtain ⟨s, rfl⟩ := hans
    clear hx
    go_wp2_with fail
    refine (foundObj_no 0 none 0 0 none 0 0 s w1 (hg.keep B1)).mono ?_
    rintro e w2 ⟨rfl, hb2⟩
    have B2 : Below w.heap.size w w2 := B1.trans (hb2.mono B1.size)
    have b2 := b1.below hb2 b1.lt
    have hs2 := hb2.size
    obtain ⟨y0, y1, y2, f0, f1, f2⟩ := b2.three
    obtain ⟨WF, hWF, bF, hwF, _⟩ := box3_fill b2 (.int .i64 0) (.slice none 0 0) (.slice none 0 0)
    have HB : Hid (Below w.heap.size w WF) := B2.trans (hwF.below (by omega) (by omega))
    clear hwF
    go_wp2
    rw [hWF.out]
    obtain ⟨q0, q1, q2, _, _, _⟩ := bF.three
    exact bodyPost_ret (v := .tuple #[.agg #[.int .i64 0, .slice none 0 0, .slice none 0 0], .bool false]) (by simp [results, Tryd.results19, go_sem, q0, q1, q2]) rfl ⟨none, 0, none, 0, noO, false, rfl, HP.out, ⟨ownI_nil _ _ _ (Nat.le_refl _), ownI_nil _ _ _ (Nat.le_refl _), fun k hk => by cases hk⟩, HB.out⟩
  | some o =>
    rw [hx] at hans
    obtain ⟨aI, cI, aR, cR, ev, rfl, hie, ho⟩ := hans
    rcases hie with ⟨hok, hev⟩ | ⟨hok, s, hev⟩
    · obtain rfl : ev = .nilIface := by simpa using hev
      have HP : Hid (_ = _) := HGD.out o hx hok
      clear hx hok hev
      go_wp2_with fail
      refine (foundObj_ok o.kind aI o.ints.length cI aR o.refs.length cR w1).mono ?_
      rintro e w2 ⟨rfl, hb2⟩
      have B2 : Below w.heap.size w w2 := B1.trans (hb2.mono B1.size)
      have b2 := b1.below hb2 b1.lt
      have hs2 := hb2.size
      obtain ⟨y0, y1, y2, f0, f1, f2⟩ := b2.three
      obtain ⟨WF, hWF, bF, hwF, hsF⟩ := box3_fill b2 (.int .i64 o.kind) (.slice aI o.ints.length cI) (.slice aR o.refs.length cR)
      have HB : Hid (Below w.heap.size w WF) := B2.trans (hwF.below (by omega) (by omega))
      have HO : Hid (OwnO WF w.heap.size WF.heap.size aI cI aR cR o) := ((ho.below hb2).within hwF (.inr (by omega))).widen (by omega) (by omega) (Nat.le_refl _)
      clear hwF
      go_wp2
      rw [hWF.out]
      obtain ⟨q0, q1, q2, _, _, _⟩ := bF.three
      exact bodyPost_ret (v := .tuple #[.agg #[.int .i64 o.kind, .slice aI o.ints.length cI, .slice aR o.refs.length cR], .bool true]) (by simp [results, Tryd.results19, go_sem, q0, q1, q2]) rfl ⟨aI, cI, aR, cR, o, true, rfl, HP.out, HO.out, HB.out⟩
    · obtain rfl : ev = _ := by simpa using hev
      have HP : Hid (_ = _) := HBD.out o hx hok
      clear hx hok hev
      go_wp2_with fail
      refine (foundObj_no o.kind aI o.ints.length cI aR o.refs.length cR s w1 (hg.keep B1)).mono ?_
      rintro e w2 ⟨rfl, hb2⟩
      have B2 : Below w.heap.size w w2 := B1.trans (hb2.mono B1.size)
      have b2 := b1.below hb2 b1.lt
      have hs2 := hb2.size
      obtain ⟨y0, y1, y2, f0, f1, f2⟩ := b2.three
      obtain ⟨WF, hWF, bF, hwF, _⟩ := box3_fill b2 (.int .i64 0) (.slice none 0 0) (.slice none 0 0)
      have HB : Hid (Below w.heap.size w WF) := B2.trans (hwF.below (by omega) (by omega))
      clear hwF
      go_wp2
      rw [hWF.out]
      obtain ⟨q0, q1, q2, _, _, _⟩ := bF.three
      exact bodyPost_ret (v := .tuple #[.agg #[.int .i64 0, .slice none 0 0, .slice none 0 0], .bool false]) (by simp [results, Tryd.results19, go_sem, q0, q1, q2]) rfl ⟨none, 0, none, 0, noO, false, rfl, HP.out, ⟨ownI_nil _ _ _ (Nat.le_refl _), ownI_nil _ _ _ (Nat.le_refl _), fun k hk => by cases hk⟩, HB.out⟩
end Go.Proofs.YtdibmepjbabnnacDoor

/- The walk of spec.ParseObj. -/
namespace Go.Proofs.YtdibmepjbabnnacDoor
open Go.RowKit

theorem openAt_before (L : List Int) : ∀ j, j < openAt L → L.getD j 0 ≠ 40 := by
  induction L with
  | nil => intro j hj; simp [openAt] at hj
  | cons z r ih =>
    intro j hj
    unfold openAt at hj
    split at hj
    · omega
    · rename_i hz
      cases j with
      | zero => simpa using hz
      | succ j => simpa using ih j (by omega)
theorem openAt_hit (L : List Int) (h : openAt L < L.length) : L.getD (openAt L) 0 = 40 := by
  have e := openAt_at L h
  have hl : (L.take (openAt L)).length = openAt L := by rw [List.length_take]; omega
  have : (L.take (openAt L) ++ 40 :: L.drop (openAt L + 1)).getD (openAt L) 0 = 40 := by
    simp only [List.getD]
    rw [List.getElem?_append_right (by omega), hl, Nat.sub_self]
    rfl
  rwa [← e] at this

def pairOf : Option ObjV → ObjV × Bool
  | some o => (o, true)
  | none => (noO, false)
theorem pair_of {L : List Int} {x : Option ObjV} (h : specParse L = x) : parsePair L = pairOf x := by
  subst h
  unfold parsePair pairOf
  cases specParse L <;> rfl

/-- What ParseObj answers. -/
def ObjAns (w w' : World) (pr : ObjV × Bool) (e : Ending) : Prop := ∃ aI cI aR cR o ok, e = .returned (.tuple #[.agg #[.int .i64 o.kind, .slice aI o.ints.length cI, .slice aR o.refs.length cR], .bool ok]) ∧ Hid (pr = (o, ok)) ∧ OwnO w' w.heap.size w'.heap.size aI cI aR cR o ∧ Below w.heap.size w w'
theorem objAns_no {w w' : World} {pr : ObjV × Bool} (h : pr = (noO, false)) (hb : Below w.heap.size w w') : ObjAns w w' pr (.returned (.tuple #[.agg #[.int .i64 0, .slice none 0 0, .slice none 0 0], .bool false])) :=
  ⟨none, 0, none, 0, noO, false, rfl, h, ⟨ownI_nil _ _ _ (Nat.le_refl _), ownI_nil _ _ _ (Nat.le_refl _), fun k hk => by cases hk⟩, hb⟩
theorem objAns_yes {w w' : World} {pr : ObjV × Bool} {o : ObjV} {aI : Option Addr} {cI : Nat} {aR : Option Addr} {cR : Nat} (h : pr = (o, true)) (ho : OwnO w' w.heap.size w'.heap.size aI cI aR cR o) (hb : Below w.heap.size w w') : ObjAns w w' pr (.returned (.tuple #[.agg #[.int .i64 o.kind, .slice aI o.ints.length cI, .slice aR o.refs.length cR], .bool true])) :=
  ⟨aI, cI, aR, cR, o, true, rfl, h, ho, hb⟩

theorem specParse_short {L : List Int} (h : L.length < openAt L + 2) : parsePair L = (noO, false) := by
  have : specParse L = none := by unfold specParse; rw [if_pos (.inl h)]
  rw [pair_of this]; rfl
theorem specParse_last {L : List Int} (h : L.getD (L.length - 1) 0 ≠ 41) : parsePair L = (noO, false) := by
  have : specParse L = none := by unfold specParse; rw [if_pos (.inr h)]
  rw [pair_of this]; rfl
theorem specParse_split {L : List Int} (h : (splitOf 59 (midOf L)).length ≠ 2) : parsePair L = (noO, false) := by
  have : specParse L = none := by
    unfold specParse
    split
    · rfl
    · split
      · rename_i h0 h1 hs; rw [hs] at h; simp at h
      · rfl
  rw [pair_of this]; rfl
theorem specParse_two {L h0 h1 : List Int} (h2 : openAt L + 2 ≤ L.length) (hl : L.getD (L.length - 1) 0 = 41) (hs : splitOf 59 (midOf L) = [h0, h1]) : parsePair L = pairOf (okO (numberOf (L.take (openAt L))) (numbersOf h0) (numbersOf h1)) := by
  have : specParse L = okO (numberOf (L.take (openAt L))) (numbersOf h0) (numbersOf h1) := by
    unfold specParse
    rw [if_neg (by rw [hl]; omega), hs]
  rw [pair_of this]

theorem midOf_extract (s : ByteArray) (p : Nat) (h : openAt (sBytes s) = p) : sBytes (s.extract (p + 1) (s.size - 1)) = midOf (sBytes s) := by
  unfold midOf
  rw [sBytes_extract, h, sBytes_len]
theorem head_extract (s : ByteArray) (p : Nat) : sBytes (s.extract 0 p) = (sBytes s).take p := by
  rw [sBytes_extract]; simp

set_option maxHeartbeats 8000000 in
set_option maxRecDepth 100000 in
theorem specParseObj_any (s : ByteArray) (w : World) (hs : s.size ≤ 1048576) :
    Calls Tryd.prog 18 #[.string s] w fun e w' => ObjAns w w' (parsePair (sBytes s)) e := by
  have HSH : Hid (s.size < openAt (sBytes s) + 2 → parsePair (sBytes s) = (noO, false)) := fun h => specParse_short (by rw [sBytes_len]; exact h)
  have HLA : Hid ((sBytes s).getD (s.size - 1) 0 ≠ 41 → parsePair (sBytes s) = (noO, false)) := fun h => specParse_last (by rw [sBytes_len]; exact h)
  have HSP : Hid (∀ ss : List ByteArray, ss.map sBytes = splitOf 59 (midOf (sBytes s)) → ss.length ≠ 2 → parsePair (sBytes s) = (noO, false)) := fun ss h h2 => specParse_split (by rw [← h, List.length_map]; exact h2)
  have HTW : Hid (∀ A B : ByteArray, openAt (sBytes s) + 2 ≤ s.size → (sBytes s).getD (s.size - 1) 0 = 41 → [A, B].map sBytes = splitOf 59 (midOf (sBytes s)) → parsePair (sBytes s) = pairOf (okO (numberOf ((sBytes s).take (openAt (sBytes s)))) (numbersOf (sBytes A)) (numbersOf (sBytes B)))) := fun A B h1 h2 h3 => specParse_two (by rw [sBytes_len]; exact h1) (by rw [sBytes_len]; exact h2) h3.symm
  have hple := openAt_le (sBytes s)
  rw [sBytes_len] at hple
  have HBF : Hid (∀ j, j < openAt (sBytes s) → (sBytes s).getD j 0 ≠ 40) := openAt_before (sBytes s)
  have HHT : Hid (openAt (sBytes s) < s.size → (sBytes s).getD (openAt (sBytes s)) 0 = 40) := fun h => openAt_hit (sBytes s) (by rw [sBytes_len]; exact h)
  have HMI : Hid (sBytes (s.extract (openAt (sBytes s) + 1) (s.size - 1)) = midOf (sBytes s)) := midOf_extract s _ rfl
  have HHE : Hid (sBytes (s.extract 0 (openAt (sBytes s))) = (sBytes s).take (openAt (sBytes s))) := head_extract s _
  have HBT : Hid (∀ j (h : j < s.size), (((s[j]'h).toNat : Nat) : Int) = (sBytes s).getD j 0) := fun j h => byte_at s j h
  generalize parsePair (sBytes s) = PR at *
  generalize openAt (sBytes s) = p at *
  obtain ⟨W, hW, b0, hbW, hsW⟩ := boxes1 w [.int .i64 0, .slice none 0 0, .slice none 0 0] 25
  have hsW' : w.heap.size < W.heap.size := b0.lt
  clear hsW
  obtain ⟨y0, y1, y2, e0, e1, e2⟩ := b0.three
  -- what is answered of what is none, in the first world
  obtain ⟨WF, hWF, bF, hwF, _⟩ := box3_fill b0 (.int .i64 0) (.slice none 0 0) (.slice none 0 0)
  have HB0 : Hid (Below w.heap.size w WF) := hbW.trans (hwF.below (by omega) (by omega))
  clear hwF
  go_enter Tryd.func18, Tryd.ntmps18
  go_wp2
  rw [hW.out]
  go_loop [4] (fun i => ∃ j : Nat, j ≤ p ∧ i = .int .i64 j) (fun i => p - (intOf i).toNat)
  case atStart => exact ⟨0, Nat.zero_le _, rfl⟩
  case round =>
    obtain ⟨j, hj, rfl⟩ := hrel
    by_cases hjp : j < p
    · have hjs : j < s.size := by omega
      have hb := HBT.out j hjs
      have hne := HBF.out j hjp
      have hneb : ((((s[j]'hjs).toNat : Nat) : Int) == 40) = false := by rw [hb]; simpa using hne
      clear hb hne
      go_wp2
      go_round
      case rel => exact ⟨j + 1, by omega, by go_num⟩
      case measure => simp [intOf]; omega
    · obtain rfl : j = p := by omega
      by_cases hps : j < s.size
      case neg =>
        have HP : Hid (PR = (noO, false)) := HSH.out (by omega)
        go_wp2
        rw [hWF.out]
        obtain ⟨q0, q1, q2, _, _, _⟩ := bF.three
        exact bodyPost_ret (v := .tuple #[.agg #[.int .i64 0, .slice none 0 0, .slice none 0 0], .bool false]) (by simp [results, Tryd.results18, go_sem, q0, q1, q2]) rfl (objAns_no HP.out HB0.out)
      case pos =>
      have h40 : ((((s[j]'hps).toNat : Nat) : Int) == 40) = true := by rw [HBT.out j hps, HHT.out hps]; decide
      by_cases hlen : j + 2 ≤ s.size
      case neg =>
        have HP : Hid (PR = (noO, false)) := HSH.out (by omega)
        have hgt : (s.size : Int) < (j : Int) + 2 := by omega
        go_wp2
        rw [hWF.out]
        obtain ⟨q0, q1, q2, _, _, _⟩ := bF.three
        exact bodyPost_ret (v := .tuple #[.agg #[.int .i64 0, .slice none 0 0, .slice none 0 0], .bool false]) (by simp [results, Tryd.results18, go_sem, q0, q1, q2]) rfl (objAns_no HP.out HB0.out)
      case pos =>
      have hls : s.size - 1 < s.size := by omega
      have hlb := HBT.out (s.size - 1) hls
      have hcast : ((s.size : Int) - 1) = ((s.size - 1 : Nat) : Int) := by omega
      have hd2 : decide ((s.size : Int) < (j : Int) + 2) = false := by simp; omega
      by_cases hl41 : (sBytes s).getD (s.size - 1) 0 = 41
      case neg =>
        have HP : Hid (PR = (noO, false)) := HLA.out hl41
        have hl41b : ((((s[s.size - 1]'hls).toNat : Nat) : Int) != 41) = true := by rw [hlb]; simpa using hl41
        have hor : (decide ((s.size : Int) < (j : Int) + 2) || ((((s[s.size - 1]'hls).toNat : Nat) : Int) != 41)) = true := by rw [hl41b]; simp
        clear hlb hl41 hcast
        go_wp2
        rw [hWF.out]
        obtain ⟨q0, q1, q2, _, _, _⟩ := bF.three
        exact bodyPost_ret (v := .tuple #[.agg #[.int .i64 0, .slice none 0 0, .slice none 0 0], .bool false]) (by simp [results, Tryd.results18, go_sem, q0, q1, q2]) rfl (objAns_no HP.out HB0.out)
      case pos =>
      have HL41 : Hid (_ = _) := hl41
      have hl41b : ((((s[s.size - 1]'hls).toNat : Nat) : Int) != 41) = false := by rw [hlb, hl41]; decide
      have hor : (decide ((s.size : Int) < (j : Int) + 2) || ((((s[s.size - 1]'hls).toNat : Nat) : Int) != 41)) = false := by rw [hl41b, hd2]; rfl
      clear hlb hl41
      have hsl1 : ∀ wx : World, (Instr.slice 9 (.string s) (some (.int .i64 ((j : Int) + 1))) (some (.int .i64 ((s.size - 1 : Nat) : Int))) none).run Tryd.prog wx = .ok (.string (s.extract (j + 1) (s.size - 1))) wx := by
        intro wx
        have h := run_slice_string wx 9 s .i64 .i64 ((j : Int) + 1) ((s.size - 1 : Nat) : Int) Tryd.underlying9 (by omega) (by omega) (by omega)
        rw [h]
        congr 2
      generalize hM : s.extract (j + 1) (s.size - 1) = M at *
      have hMs : M.size ≤ s.size := by rw [← hM]; simp; omega
      clear hM
      go_wp2_with fail
      refine (l2Split_any M 59 W (by omega)).mono ?_
      rintro e w1 ⟨aS, cS, ss, rfl, HSS, hoS, hb1⟩
      have hs1 := hb1.size
      have B1 : Below w.heap.size w w1 := hbW.trans (hb1.mono hbW.size)
      have b1 := b0.below hb1 b0.lt
      clear y0 y1 y2 e0 e1 e2
      obtain ⟨y0, y1, y2, e0, e1, e2⟩ := b1.three
      have HSS' : Hid (ss.map sBytes = splitOf 59 (midOf (sBytes s))) := by rw [Hid, HSS.out, HMI.out]; rfl
      by_cases h2 : ss.length = 2
      case neg =>
        have HP : Hid (PR = (noO, false)) := HSP.out ss HSS'.out h2
        have h2b : ((ss.length : Int) == 2) = false := by simp; omega
        have h2c : ((ss.length : Int) != 2) = true := by simp; omega
        obtain ⟨WG, hWG, bG, hwG, _⟩ := box3_fill b1 (.int .i64 0) (.slice none 0 0) (.slice none 0 0)
        have HB1 : Hid (Below w.heap.size w WG) := B1.trans (hwG.below (by omega) (by omega))
        clear hwG h2
        go_wp2
        rw [hWG.out]
        obtain ⟨q0, q1, q2, _, _, _⟩ := bG.three
        exact bodyPost_ret (v := .tuple #[.agg #[.int .i64 0, .slice none 0 0, .slice none 0 0], .bool false]) (by simp [results, Tryd.results18, go_sem, q0, q1, q2]) rfl (objAns_no HP.out HB1.out)
      case pos =>
      obtain ⟨A, B, rfl⟩ : ∃ A B, ss = [A, B] := by
        match ss, h2 with
        | [A, B], _ => exact ⟨A, B, rfl⟩
      clear h2
      have hAB : A.size ≤ 1048576 ∧ B.size ≤ 1048576 := by
        have hA : sBytes A ∈ splitOf 59 (sBytes M) := by
          have := HSS.out
          rw [show ((59 : Nat) : Int) = 59 from rfl] at this
          rw [← this]; simp
        have hB : sBytes B ∈ splitOf 59 (sBytes M) := by
          have := HSS.out
          rw [show ((59 : Nat) : Int) = 59 from rfl] at this
          rw [← this]; simp
        have h1 := piece_len 59 _ _ hA
        have h2 := piece_len 59 _ _ hB
        rw [sBytes_len, sBytes_len] at h1 h2
        omega
      have HPR : Hid (_ = _) := HTW.out A B hlen HL41.out HSS'.out
      obtain ⟨g, hgS, hcS⟩ := hoS.cell (by simp)
      have c0 := hcS 0 (by simp)
      have c1 := hcS 1 (by simp)
      simp only [List.getElem_cons_zero, List.getElem_cons_succ] at c0 c1
      have hgw : g < w1.heap.size := block_lt c0
      subst hgS
      have hsl2 : ∀ wx : World, (Instr.slice 9 (.string s) none (some (.int .i64 (j : Int))) none).run Tryd.prog wx = .ok (.string (s.extract 0 j)) wx := by
        intro wx
        have h := run_slice_string wx 9 s .i64 .i64 (0 : Int) (j : Int) Tryd.underlying9 (by omega) (by omega) (by omega)
        simp [Instr.slice, Instr.sliceBounds, Instr.sliceBound, asIntOf, run_underlying Tryd.underlying9] at h ⊢
        exact h
      clear hcS HSS HSS' HTW HSP HLA HSH HMI HBF HHT
      generalize hK : s.extract 0 j = K at *
      have hKs : K.size ≤ 1048576 := by rw [← hK]; simp; omega
      clear hK
      rw [← HHE.out] at HPR
      have hnum := l2Number_any K w1 hKs
      have hAall := fun w' => l2Numbers_any A w' hAB.1
      have hBall := fun w' => l2Numbers_any B w' hAB.2
      have hAl : ∀ ns, numbersOf (sBytes A) = some ns → ns.length ≤ 2000000 := by
        intro ns h
        rw [numbersOf_by] at h
        have := partsBy_len _ _ _ h
        rw [sBytes_len] at this
        omega
      have hBl : ∀ ns, numbersOf (sBytes B) = some ns → ns.length ≤ 2000000 := by
        intro ns h
        rw [numbersOf_by] at h
        have := partsBy_len _ _ _ h
        rw [sBytes_len] at this
        omega
      have HAL : Hid (∀ ns, numbersOf (sBytes A) = some ns → ns.length ≤ 2000000) := hAl
      have HBL : Hid (∀ ns, numbersOf (sBytes B) = some ns → ns.length ≤ 2000000) := hBl
      clear hAB HHE HBT hAl hBl
      obtain ⟨k0, okK, hka, hkb⟩ : ∃ (k0 : Int) (okK : Bool), numAns (numberOf (sBytes K)) = .tuple #[.int .i64 k0, .bool okK] ∧ numberOf (sBytes K) = (if okK then some k0 else none) := by
        cases numberOf (sBytes K) with
        | none => exact ⟨0, false, rfl, rfl⟩
        | some z => exact ⟨z, true, rfl, rfl⟩
      have HKB : Hid (_ = _) := hkb
      rw [hka] at hnum
      clear hka hkb
      go_wp2_with fail
      refine hnum.mono ?_
      clear hnum
      rintro e w9 ⟨rfl, rfl⟩
      go_wp2_with fail
      refine (hAall w9).mono ?_
      rintro e w2 ⟨aI, cI, ns, okI, rfl, HNI, hoI, hb2⟩
      have hs2 := hb2.size
      have B2 : Below w.heap.size w w2 := B1.trans (hb2.mono B1.size)
      have b2 := b1.below hb2 b1.lt
      have c1' : w2.cell? ⟨g, 1, none⟩ = some (.string B) := by rw [hb2.cell (p := ⟨g, 1, none⟩) hgw]; exact c1
      clear y0 y1 y2 e0 e1 e2 c0 c1 hAall
      go_wp2_with fail
      refine (hBall w2).mono ?_
      rintro e w3 ⟨aR, cR, ms, okR, rfl, HNR, hoR, hb3⟩
      have hs3 := hb3.size
      have B3 : Below w.heap.size w w3 := B2.trans (hb3.mono B2.size)
      have b3 := b2.below hb3 b2.lt
      clear c1' hBall
      obtain ⟨W4, hW4, b4, hbW4, hsW4⟩ := boxes1 w3 [.int .i64 k0, .slice aI ns.length cI, .slice aR ms.length cR] 25
      have B4 : Below w.heap.size w W4 := B3.trans (hbW4.mono B3.size)
      have bR4 := b3.below hbW4 b3.lt
      have hs4 : w3.heap.size < W4.heap.size := b4.lt
      have hO4 : OwnO W4 w9.heap.size w3.heap.size aI cI aR cR ⟨k0, ns, ms⟩ := ⟨((hoI.below hb3).below hbW4).widen (Nat.le_refl _) (by omega) (by omega), (hoR.below hbW4).widen (by omega) (by omega) (by omega), fun j hj hj' => by have := (hoI.lt j hj).2; have := (hoR.lt j hj').1; omega⟩
      have hne : w.heap.size < w3.heap.size := b3.lt
      clear hsW4
      obtain ⟨y0, y1, y2, e0, e1, e2⟩ := bR4.three
      obtain ⟨x0, x1, x2, _, _, _⟩ := b4.three
      have W4e := hW4.out
      by_cases hall : okK = true ∧ okI = true ∧ okR = true
      case neg =>
        have HP : Hid (PR = (noO, false)) := by
          rw [Hid, HPR.out, HKB.out, HNI.out, HNR.out]
          cases okK <;> cases okI <;> cases okR <;> simp [okO, pairOf] at hall ⊢
        obtain ⟨WG, hWG, bG, hwG, _⟩ := box3_fill bR4 (.int .i64 0) (.slice none 0 0) (.slice none 0 0)
        have HB1 : Hid (Below w.heap.size w WG) := B4.trans (hwG.below (by omega) (by omega))
        have hcs : okK = false ∨ (okK = true ∧ okI = false) ∨ (okK = true ∧ okI = true ∧ okR = false) := by
          cases okK <;> cases okI <;> cases okR <;> simp at hall ⊢
        clear hwG hall
        rcases hcs with rfl | ⟨rfl, rfl⟩ | ⟨rfl, rfl, rfl⟩
        all_goals
          go_wp2
          rw [hWG.out]
          obtain ⟨q0, q1, q2, _, _, _⟩ := bG.three
          exact bodyPost_ret (v := .tuple #[.agg #[.int .i64 0, .slice none 0 0, .slice none 0 0], .bool false]) (by simp [results, Tryd.results18, go_sem, q0, q1, q2]) rfl (objAns_no HP.out HB1.out)
      case pos =>
      obtain ⟨rfl, rfl, rfl⟩ := hall
      have HPO : Hid (PR = pairOf (okO (some k0) (some ns) (some ms))) := by
        rw [Hid, HPR.out, HKB.out, HNI.out, HNR.out]; rfl
      have hl1 := HAL.out ns HNI.out
      have hl2 := HBL.out ms HNR.out
      have hok := specObjOk_any ⟨k0, ns, ms⟩ aI cI aR cR W4 hO4.reads (by simp only; omega) (by simp only; omega)
      clear HPR HKB HNI HNR HAL HBL
      go_wp2_with fail
      refine hok.mono ?_
      clear hok
      rintro e w5 ⟨rfl, hb5⟩
      clear W4e y0 y1 y2 e0 e1 e2 x0 x1 x2
      have hs5 := hb5.size
      have B5 : Below w.heap.size w w5 := B4.trans (hb5.mono B4.size)
      have b5 := bR4.below hb5 bR4.lt
      obtain ⟨y0, y1, y2, e0, e1, e2⟩ := b5.three
      obtain ⟨x0, x1, x2, _, _, _⟩ := (b4.below hb5 b4.lt).three
      cases hB : okB ⟨k0, ns, ms⟩ with
      | false =>
        have HP : Hid (PR = (noO, false)) := by
          rw [Hid, HPO.out, okO]
          rw [if_neg (by rw [hB]; decide)]; rfl
        clear hB
        obtain ⟨WG, hWG, bG, hwG, _⟩ := box3_fill b5 (.int .i64 0) (.slice none 0 0) (.slice none 0 0)
        have HB1 : Hid (Below w.heap.size w WG) := B5.trans (hwG.below (by omega) (by omega))
        clear hwG
        go_wp2
        rw [hWG.out]
        obtain ⟨q0, q1, q2, _, _, _⟩ := bG.three
        exact bodyPost_ret (v := .tuple #[.agg #[.int .i64 0, .slice none 0 0, .slice none 0 0], .bool false]) (by simp [results, Tryd.results18, go_sem, q0, q1, q2]) rfl (objAns_no HP.out HB1.out)
      | true =>
        have HP : Hid (PR = (⟨k0, ns, ms⟩, true)) := by
          rw [Hid, HPO.out, okO]
          rw [if_pos hB]; rfl
        clear hB
        obtain ⟨WG, hWG, bG, hwG, hsG⟩ := box3_fill b5 (.int .i64 k0) (.slice aI ns.length cI) (.slice aR ms.length cR)
        have HB1 : Hid (Below w.heap.size w WG) := B5.trans (hwG.below (by omega) (by omega))
        have HO : Hid (OwnO WG w.heap.size WG.heap.size aI cI aR cR ⟨k0, ns, ms⟩) := ((hO4.below hb5).within hwG (.inr (by omega))).widen (by omega) (by omega) (Nat.le_refl _)
        clear hwG
        go_wp2
        rw [hWG.out]
        obtain ⟨q0, q1, q2, _, _, _⟩ := bG.three
        exact bodyPost_ret (v := .tuple #[.agg #[.int .i64 k0, .slice aI ns.length cI, .slice aR ms.length cR], .bool true]) (by simp [results, Tryd.results18, go_sem, q0, q1, q2]) rfl (objAns_yes HP.out HO.out HB1.out)
end Go.Proofs.YtdibmepjbabnnacDoor

/- The walk of laws.toIntS: a new row with the same numbers. -/
namespace Go.Proofs.YtdibmepjbabnnacDoor
open Go.RowKit

def partI (zs : List Int) (k : Nat) : List Int := zs.take k ++ List.replicate (zs.length - k) 0

theorem partI_len (zs : List Int) (k : Nat) (h : k ≤ zs.length) : (partI zs k).length = zs.length := by simp [partI]; omega
theorem partI_all (zs : List Int) : partI zs zs.length = zs := by simp [partI]
theorem partI_none (zs : List Int) : partI zs 0 = List.replicate zs.length 0 := by simp [partI]
theorem partI_set (zs : List Int) (k : Nat) (h : k < zs.length) : (partI zs k).set k (zs.getD k 0) = partI zs (k + 1) := by
  unfold partI
  rw [List.set_append, if_neg (by simp; omega), List.take_succ_eq_append_getElem h]
  have e : zs.length - k = (zs.length - (k + 1)) + 1 := by omega
  have e2 : k - (List.take k zs).length = 0 := by simp; omega
  rw [e2, e, List.replicate_succ, List.set_cons_zero]
  simp only [List.getD, h, List.getElem?_eq_getElem, Option.getD_some, List.append_assoc, List.singleton_append]
theorem partI_set_map (zs : List Int) (k : Nat) (h : k < zs.length) : ((partI zs k).map (Value.int .i64)).set k (.int .i64 (zs.getD k 0)) = (partI zs (k + 1)).map (Value.int .i64) := by
  rw [← partI_set zs k h, List.map_set]

set_option maxHeartbeats 400000 in
theorem toIntS_any (a : Option Addr) (cap : Nat) (zs : List Int) (w : World) (hr : ReadsI w a zs) (hl : zs.length ≤ 1099511627776) :
    Calls Tryd.prog 33 #[.slice a zs.length cap] w fun e w' => e = .returned (.slice (some ⟨w.heap.size, 0, none⟩) zs.length zs.length) ∧
      w'.ownsRow w.heap.size 3 1 (.slice (some ⟨w.heap.size, 0, none⟩) zs.length zs.length) zs.length (zs.map (Value.int .i64)) ∧ Below w.heap.size w w' := by
  obtain ⟨i0, hi, hz0, hz1, hz2⟩ := info_parts Tryd.infoInt
  rcases hr.cases with rfl | ⟨b, off, rfl, hpos, hcell⟩
  · go_enter Tryd.func33, Tryd.ntmps33
    go_wp2_with (at_make; refine wpList_make_full _ rfl _ _ 23 rfl w.heap.size 3 i0 (.int .i64 0) 1 Tryd.underlying23 hi hz0 hz1 _ _ _ _ 0 rfl rfl (by simp) (by simp) (by omega) (by simp [maxLen]) (Nat.le_refl _) ?_)
    intro w0 hown0 hgrow0
    go_wp2
    refine wp_loop_rounds 1 ?_
    rw [rounds_succ]
    go_wp2
    go_ret
    exact ⟨rfl, by simpa [toList_madeCells_one] using hown0, (Below.refl _ _).grown hgrow0 (Nat.le_refl _) (fun k h => by cases h)⟩
  · have hbB : b < w.heap.size := by
      have := hcell 0 hpos
      simp only [World.cell?] at this
      by_cases hb : b < w.heap.size
      · exact hb
      · simp [Array.getElem?_eq_none (Nat.le_of_not_lt hb)] at this
    go_enter Tryd.func33, Tryd.ntmps33
    go_wp2_with (at_make; refine wpList_make_full _ rfl _ _ 23 rfl w.heap.size 3 i0 (.int .i64 0) 1 Tryd.underlying23 hi hz0 hz1 _ _ _ _ zs.length rfl rfl rfl rfl (by rw [hz2]; omega) (by simp [maxLen]; omega) (Nat.le_refl _) ?_)
    intro w0 hown0 hgrow0
    have hown1 : w0.ownsRow w.heap.size 3 1 (.slice (some ⟨w.heap.size, 0, none⟩) zs.length zs.length) zs.length ((partI zs 0).map (Value.int .i64)) := by
      rw [partI_none, List.map_replicate]
      simpa [Value.cells, toList_madeCells_one] using hown0
    have hb0 : Below w.heap.size w w0 := (Below.refl _ _).grown hgrow0 (Nat.le_refl _) (fun k h => by cases h)
    clear hown0 hgrow0
    go_wp2
    go_loopw [4] (fun i wr => ∃ k : Nat, k ≤ zs.length ∧ i = .int .i64 k ∧ wr.ownsRow w.heap.size 3 1 (.slice (some ⟨w.heap.size, 0, none⟩) zs.length zs.length) zs.length ((partI zs k).map (Value.int .i64)) ∧ Below w.heap.size w wr)
      (fun i _ => zs.length - (intOf i).toNat)
    case atStart => exact ⟨0, Nat.zero_le _, rfl, hown1, hb0⟩
    case round =>
      obtain ⟨k, hk, rfl, hown, hnx⟩ := hrel
      by_cases hlt : k < zs.length
      · have hc : wr.cell? ⟨b, off + k, none⟩ = some (.int .i64 (zs.getD k 0)) := (hnx.cell (by exact hbB)).trans (hcell k hlt)
        have hfz := hown.frozenAt k
        have hct := hown.cellAt k (by omega)
        have hp := partI_len zs k hk
        have HS := hown.stored k (.int .i64 (zs.getD k 0))
        rw [partI_set_map zs k hlt] at HS
        have HN : Below w.heap.size w (wr.setCell ⟨w.heap.size, k, none⟩ (.int .i64 (zs.getD k 0))) := hnx.setCell (Nat.le_refl _) _
        have HSS : Hid (_ ∧ _) := ⟨HS.1, HN⟩
        clear HS HN hown hcell hnx hown1 hb0
        generalize zs.getD k 0 = z at *
        go_wp2
        go_roundw
        case rel => exact ⟨k + 1, by omega, by go_num, HSS.out.1, HSS.out.2⟩
        case measure => simp [intOf]; omega
      · have HE : Hid (wr.ownsRow w.heap.size 3 1 (.slice (some ⟨w.heap.size, 0, none⟩) zs.length zs.length) zs.length (zs.map (Value.int .i64))) := by
          have e : k = zs.length := by omega
          rw [e, partI_all] at hown
          exact hown
        go_wp2
        go_ret
        exact ⟨rfl, HE.out, hnx⟩

theorem toIntS_own (a : Option Addr) (cap : Nat) (zs : List Int) (w : World) (hr : ReadsI w a zs) (hl : zs.length ≤ 1099511627776) :
    Calls Tryd.prog 33 #[.slice a zs.length cap] w fun e w' => ∃ a' c', e = .returned (.slice a' zs.length c') ∧ OwnI w' w.heap.size w'.heap.size a' c' zs ∧ Below w.heap.size w w' := by
  refine (toIntS_any a cap zs w hr hl).mono ?_
  rintro e w' ⟨rfl, ho, hb⟩
  exact ⟨_, _, rfl, ⟨ho, Nat.le_refl _, fun k hk => (ho.lt k hk).2⟩, hb⟩
end Go.Proofs.YtdibmepjbabnnacDoor

/- The walk of laws.toObj. -/
namespace Go.Proofs.YtdibmepjbabnnacDoor
open Go.RowKit

set_option maxHeartbeats 400000 in
set_option maxRecDepth 100000 in
theorem toObj_own (o : ObjV) (aI : Option Addr) (cI : Nat) (aR : Option Addr) (cR : Nat) (w : World) (hr : ReadsO w aI cI aR cR o) (hlI : o.ints.length ≤ 1099511627776) (hlR : o.refs.length ≤ 1099511627776) :
    Calls Tryd.prog 16 #[.agg #[.int .i64 o.kind, .slice aI o.ints.length cI, .slice aR o.refs.length cR]] w fun e w' => ∃ aI' cI' aR' cR', e = .returned (.agg #[.int .i64 o.kind, .slice aI' o.ints.length cI', .slice aR' o.refs.length cR']) ∧
      OwnO w' w.heap.size w'.heap.size aI' cI' aR' cR' o ∧ Below w.heap.size w w' := by
  obtain ⟨k, ints, refs⟩ := o
  obtain ⟨hI, hR, _, _⟩ := hr
  simp only at *
  go_enter Tryd.func16, Tryd.ntmps16
  go_wp2_with fail
  obtain ⟨W, hW, b0, b1, b2, hbW, hsW⟩ := boxes3 w [.int .i64 k, .slice aI ints.length cI, .slice aR refs.length cR] [.int .i64 0, .slice none 0 0, .slice none 0 0] [.int .i64 k, .slice none 0 0, .slice none 0 0] 34 25 25
  rw [hW.out]
  clear hW
  refine (toIntS_own aI cI ints W (hI.below hbW) hlI).mono ?_
  rintro e w1 ⟨a1, c1, rfl, ho1, hb1⟩
  have b0' := b0.below hb1 b0.lt
  have b1' := b1.below hb1 b1.lt
  have b2' := b2.below hb1 b2.lt
  have h02 := b0'.cell 2 _ rfl
  have h21 := b2'.cell 1 _ rfl
  have f21 := b2'.frozen 1
  go_wp2_with fail
  obtain ⟨W2, hW2, b2s, hw2, hs2⟩ := box_set b2' 1 (.slice a1 ints.length c1)
  rw [hW2.out]
  clear hW2
  have hWb : Below w.heap.size w W2 := (hbW.trans (hb1.mono (by omega))).trans (hw2.below (by omega) (by have := hb1.size; omega))
  have ho1' : OwnI W2 W.heap.size w1.heap.size a1 c1 ints := ho1.within hw2 (.inr (by omega))
  refine (toIntS_own aR cR refs W2 (hR.below hWb) hlR).mono ?_
  rintro e w3 ⟨a3, c3, rfl, ho3, hb3⟩
  have ho13 := ho1'.below hb3
  have b23 := b2s.below hb3 b2s.lt
  have b13 := (b1'.within hw2 (by omega)).below hb3 (by have := (b1'.within hw2 (by omega)).lt; exact this)
  simp only [List.set] at b23
  have g22 := b23.cell 2 _ rfl
  have e22 := b23.frozen 2
  have bS := b23.set 2 (.slice a3 refs.length c3)
  have bT := b13.other (C := w.heap.size + 1 + 1) (i := 2) (v := .slice a3 refs.length c3) (by omega)
  simp only [List.set] at bS
  have s0 := bS.cell 0 _ rfl
  have s1 := bS.cell 1 _ rfl
  have s2 := bS.cell 2 _ rfl
  have t0 := bT.cell 0 _ rfl
  have t1 := bT.cell 1 _ rfl
  have t2 := bT.cell 2 _ rfl
  have u0 := bT.frozen 0
  have u1 := bT.frozen 1
  have u2 := bT.frozen 2
  have bF := ((bT.set 0 (.int .i64 k)).set 1 (.slice a1 ints.length c1)).set 2 (.slice a3 refs.length c3)
  simp only [List.set] at bF
  have hwF : Within (w.heap.size + 1) (w.heap.size + 3) w3 _ := (((within_set w3 (w.heap.size + 1 + 1) 2 (.slice a3 refs.length c3) (by omega)).trans (within_set _ (w.heap.size + 1) 0 (.int .i64 k) (by omega))).trans (within_set _ (w.heap.size + 1) 1 (.slice a1 ints.length c1) (by omega))).trans (within_set _ (w.heap.size + 1) 2 (.slice a3 refs.length c3) (by omega))
  have HF : Hid (_ ∧ _ ∧ _ ∧ _) := ⟨bF.cell 0 _ rfl, bF.cell 1 _ rfl, bF.cell 2 _ rfl, hwF⟩
  clear bF hwF
  go_wp2
  obtain ⟨f0, f1, f2, hwF⟩ := HF.out
  generalize (((w3.setCell ⟨w.heap.size + 1 + 1, 2, none⟩ (.slice a3 refs.length c3)).setCell ⟨w.heap.size + 1, 0, none⟩ (.int .i64 k)).setCell ⟨w.heap.size + 1, 1, none⟩ (.slice a1 ints.length c1)).setCell ⟨w.heap.size + 1, 2, none⟩ (.slice a3 refs.length c3) = WF at *
  have hs3 := hb3.size
  have hs1 := hb1.size
  have hsF := hwF.size
  refine bodyPost_ret (v := .agg #[.int .i64 k, .slice a1 ints.length c1, .slice a3 refs.length c3]) (by simp [results, Tryd.results16, go_sem, f0, f1, f2]) rfl ⟨a1, c1, a3, c3, rfl, ⟨(ho13.within hwF (.inr (by omega))).widen (by omega) (by omega) (Nat.le_refl _), (ho3.within hwF (.inr (by omega))).widen (by omega) (by omega) (Nat.le_refl _), fun j hj hj' => by have := (ho1.lt j hj).2; have := (ho3.lt j hj').1; omega⟩, (hWb.trans (hb3.mono (by omega))).trans (hwF.below (by omega) (by omega))⟩
end Go.Proofs.YtdibmepjbabnnacDoor

/- The walk of laws.eqIntS. -/
namespace Go.Proofs.YtdibmepjbabnnacDoor
open Go.RowKit

set_option maxHeartbeats 400000 in
/-- Two slices that read alike are alike. -/
theorem eqIntS_same (a b : Option Addr) (ca cb : Nat) (zs : List Int) (w : World) (ha : ReadsI w a zs) (hb : ReadsI w b zs) (hl : zs.length ≤ 1099511627776) :
    Calls Tryd.prog 27 #[.slice a zs.length ca, .slice b zs.length cb] w fun e w' => e = .returned (.bool true) ∧ ∃ n, w' = w.drewN n := by
  rcases ha.cases with rfl | ⟨b1, o1, rfl, hpos, hc1⟩
  · go_enter Tryd.func27, Tryd.ntmps27
    go_wp2
    refine wp_loop_rounds 1 ?_
    rw [rounds_succ]
    go_wp2
    go_ret
    exact ⟨rfl, 0, rfl⟩
  · rcases hb.cases with rfl | ⟨b2, o2, rfl, _, hc2⟩
    · simp at hpos
    · go_enter Tryd.func27, Tryd.ntmps27
      go_wp2
      go_loopw [5] (fun i wr => ∃ k : Nat, k ≤ zs.length ∧ i = .int .i64 k ∧ ∃ n, wr = w.drewN n) (fun i _ => zs.length - (intOf i).toNat)
      case atStart => exact ⟨0, Nat.zero_le _, rfl, 0, rfl⟩
      case round =>
        obtain ⟨k, hk, rfl, n, rfl⟩ := hrel
        by_cases hlt : k < zs.length
        · have h1 := hc1 k hlt
          have h2 := hc2 k hlt
          clear hc1 hc2
          generalize zs.getD k 0 = z at *
          go_wp2
          go_quiet (fail)
          go_wp2
          go_roundw
          case rel => exact ⟨k + 1, by omega, by go_num, _, rfl⟩
          case measure => simp [intOf]; omega
        · go_wp2
          go_ret
          exact ⟨rfl, n, rfl⟩
end Go.Proofs.YtdibmepjbabnnacDoor

/- The walks of laws.markIntS and laws.heldIntS. -/
namespace Go.Proofs.YtdibmepjbabnnacDoor
open Go.RowKit

def marksI (k0 : Int) (n : Nat) : List Int := (List.range n).map fun i : Nat => k0 + i

theorem marksI_len (k0 : Int) (n : Nat) : (marksI k0 n).length = n := by simp [marksI]
theorem marksI_at (k0 : Int) (n i : Nat) (h : i < n) : (marksI k0 n).getD i 0 = k0 + i := by
  simp [marksI, List.getD, h]
theorem marksI_succ (k0 : Int) (n : Nat) : marksI k0 (n + 1) = marksI k0 n ++ [k0 + n] := by
  simp [marksI, List.range_succ]

def markedI (k0 : Int) (xs : List Int) (k : Nat) : List Int := marksI k0 k ++ xs.drop k
theorem markedI_set (k0 : Int) (xs : List Int) (k : Nat) (h : k < xs.length) : (markedI k0 xs k).set k (k0 + k) = markedI k0 xs (k + 1) := by
  unfold markedI
  rw [List.set_append, if_neg (by rw [marksI_len]; omega), marksI_len, Nat.sub_self, marksI_succ, List.drop_eq_getElem_cons h, List.set_cons_zero]
  simp
theorem markedI_set_map (k0 : Int) (xs : List Int) (k : Nat) (h : k < xs.length) : ((markedI k0 xs k).map (Value.int .i64)).set k (.int .i64 (k0 + k)) = (markedI k0 xs (k + 1)).map (Value.int .i64) := by
  rw [← markedI_set k0 xs k h, List.map_set]
theorem markedI_all (k0 : Int) (xs : List Int) : markedI k0 xs xs.length = marksI k0 xs.length := by simp [markedI]

set_option maxHeartbeats 400000 in
theorem markIntS_any (base : Nat) (a : Option Addr) (cap : Nat) (k0 : Int) (xs : List Int) (w : World)
    (hown : w.ownsRow base 3 1 (.slice a xs.length cap) xs.length (xs.map (Value.int .i64))) (h0 : 0 ≤ k0) (hl : k0 + xs.length ≤ 4611686018427387904) :
    Calls Tryd.prog 28 #[.slice a xs.length cap, .int .i64 k0] w fun e w' => e = .returned (.int .i64 (k0 + xs.length)) ∧
      w'.ownsRow base 3 1 (.slice a xs.length cap) xs.length ((marksI k0 xs.length).map (Value.int .i64)) ∧ w.grownBy w' (Value.slice a xs.length cap).ownBlock := by
  have hlen := hown.1
  rcases hown.2 with ⟨hv, h00⟩ | ⟨g, cap', cur, hv, hg, hgg, hr⟩
  · simp only [Value.slice.injEq] at hv
    obtain ⟨rfl, h00', rfl⟩ := hv
    obtain rfl := List.length_eq_zero_iff.1 h00
    go_enter Tryd.func28, Tryd.ntmps28
    go_wp2
    refine wp_loop_rounds 1 ?_
    rw [rounds_succ]
    go_wp2
    go_ret
    exact ⟨by simp, World.ownsRow_nil _ _ _ _, World.grownBy.refl _ _⟩
  · simp only [Value.slice.injEq] at hv
    obtain ⟨rfl, _, rfl⟩ := hv
    clear hgg hr hlen
    have hM : w.ownsRow base 3 1 (.slice (some ⟨g, 0, none⟩) xs.length cap) xs.length ((markedI k0 xs 0).map (Value.int .i64)) := by simpa [markedI, marksI] using hown
    clear hown
    go_enter Tryd.func28, Tryd.ntmps28
    go_wp2
    go_loopw [1, 5] (fun kk i wr => ∃ k : Nat, k ≤ xs.length ∧ i = .int .i64 k ∧ kk = .int .i64 (k0 + k) ∧ wr.ownsRow base 3 1 (.slice (some ⟨g, 0, none⟩) xs.length cap) xs.length ((markedI k0 xs k).map (Value.int .i64)) ∧ w.grownBy wr (some g))
      (fun _ i _ => xs.length - (intOf i).toNat)
    case atStart => exact ⟨0, Nat.zero_le _, rfl, by simp, hM, World.grownBy.refl _ _⟩
    case round =>
      obtain ⟨k, hk, rfl, rfl, hown, hgr⟩ := hrel
      clear hM
      by_cases hlt : k < xs.length
      · have hfz := hown.frozenAt k
        obtain ⟨u, hct⟩ := own_cell hown k hlt
        have HS := hown.stored k (.int .i64 (k0 + k))
        rw [markedI_set_map k0 xs k hlt] at HS
        have HSS : Hid (_ ∧ _) := HS
        clear HS hown
        go_wp2
        go_roundw
        case rel => exact ⟨k + 1, by omega, by go_num, by go_num, HSS.out.1, grownBy_trans hgr HSS.out.2⟩
        case measure => simp [intOf]; omega
      · have HE : Hid (wr.ownsRow base 3 1 (.slice (some ⟨g, 0, none⟩) xs.length cap) xs.length ((marksI k0 xs.length).map (Value.int .i64)) ∧ k = xs.length) := by
          have e : k = xs.length := by omega
          rw [e, markedI_all] at hown
          exact ⟨hown, e⟩
        go_wp2
        go_ret
        exact ⟨ret_int (by have := HE.out.2; omega), HE.out.1, hgr⟩

set_option maxHeartbeats 400000 in
theorem heldIntS_any (a : Option Addr) (cap : Nat) (k0 : Int) (n : Nat) (w : World) (hr : ReadsI w a (marksI k0 n)) (h0 : 0 ≤ k0) (hl : k0 + n ≤ 4611686018427387904) :
    Calls Tryd.prog 29 #[.slice a n cap, .int .i64 k0] w fun e w' => e = .returned (.int .i64 (k0 + n)) ∧ w' = w := by
  rcases hr.cases with h | ⟨b, off, rfl, hpos, hcell⟩
  · have h' := congrArg List.length h
    rw [marksI_len] at h'
    simp at h'
    subst h'
    go_enter Tryd.func29, Tryd.ntmps29
    go_wp2
    refine wp_loop_rounds 1 ?_
    rw [rounds_succ]
    go_wp2
    go_ret
    exact ⟨by simp, rfl⟩
  · rw [marksI_len] at hpos hcell
    go_enter Tryd.func29, Tryd.ntmps29
    go_wp2
    go_loop [1, 5] (fun kk i => ∃ k : Nat, k ≤ n ∧ i = .int .i64 k ∧ kk = .int .i64 (k0 + k)) (fun _ i => n - (intOf i).toNat)
    case atStart => exact ⟨0, Nat.zero_le _, rfl, by simp⟩
    case round =>
      obtain ⟨k, hk, rfl, rfl⟩ := hrel
      by_cases hlt : k < n
      · have hc := hcell k hlt
        rw [marksI_at k0 n k hlt] at hc
        clear hcell
        go_wp2
        go_round
        case rel => exact ⟨k + 1, by omega, by go_num, by go_num⟩
        case measure => simp [intOf]; omega
      · have HE : Hid (k = n) := by show k = n; omega
        go_wp2
        go_ret
        exact ⟨ret_int (by have := HE.out; omega), rfl⟩

theorem markIntS_own (lo hi : Nat) (a : Option Addr) (cap : Nat) (k0 : Int) (xs : List Int) (w : World) (ho : OwnI w lo hi a cap xs) (h0 : 0 ≤ k0) (hl : k0 + xs.length ≤ 4611686018427387904) :
    Calls Tryd.prog 28 #[.slice a xs.length cap, .int .i64 k0] w fun e w' => e = .returned (.int .i64 (k0 + xs.length)) ∧ OwnI w' lo hi a cap (marksI k0 xs.length) ∧ Within lo hi w w' := by
  refine (markIntS_any lo a cap k0 xs w ho.1 h0 hl).mono ?_
  rintro e w' ⟨rfl, h1, h2⟩
  refine ⟨rfl, ⟨?_, Nat.le_trans ho.2.1 h2.size, ?_⟩, Within.of_grown h2 (fun k hk => ho.lt k hk)⟩
  · rw [marksI_len]; exact h1
  · rw [marksI_len]; exact ho.2.2

theorem heldIntS_own (lo hi : Nat) (a : Option Addr) (cap : Nat) (k0 : Int) (n : Nat) (w : World) (ho : OwnI w lo hi a cap (marksI k0 n)) (h0 : 0 ≤ k0) (hl : k0 + n ≤ 4611686018427387904) :
    Calls Tryd.prog 29 #[.slice a n cap, .int .i64 k0] w fun e w' => e = .returned (.int .i64 (k0 + n)) ∧ w' = w :=
  heldIntS_any a cap k0 n w ho.reads h0 hl
end Go.Proofs.YtdibmepjbabnnacDoor

/- The walks of laws.eqObj, markObj, heldObj. -/
namespace Go.Proofs.YtdibmepjbabnnacDoor
open Go.RowKit

set_option maxHeartbeats 400000 in
set_option maxRecDepth 100000 in
theorem eqObj_same (o : ObjV) (aI : Option Addr) (cI : Nat) (aR : Option Addr) (cR : Nat) (bI : Option Addr) (dI : Nat) (bR : Option Addr) (dR : Nat) (w : World) (ha : ReadsO w aI cI aR cR o) (hb : ReadsO w bI dI bR dR o) (hlI : o.ints.length ≤ 1099511627776) (hlR : o.refs.length ≤ 1099511627776) :
    Calls Tryd.prog 9 #[.agg #[.int .i64 o.kind, .slice aI o.ints.length cI, .slice aR o.refs.length cR], .agg #[.int .i64 o.kind, .slice bI o.ints.length dI, .slice bR o.refs.length dR]] w fun e w' => e = .returned (.bool true) ∧ Below w.heap.size w w' := by
  obtain ⟨k, ints, refs⟩ := o
  obtain ⟨haI, haR, _, _⟩ := ha
  obtain ⟨hbI, hbR, _, _⟩ := hb
  simp only at *
  obtain ⟨W, hW, b0, b1, hbW, hsW⟩ := boxes2 w [.int .i64 k, .slice aI ints.length cI, .slice aR refs.length cR] [.int .i64 k, .slice bI ints.length dI, .slice bR refs.length dR] 25 25
  go_enter Tryd.func9, Tryd.ntmps9
  go_wp2_with fail
  rw [hW.out]
  refine (eqIntS_same aI bI cI dI ints W (haI.below hbW) (hbI.below hbW) hlI).mono ?_
  rintro e w1 ⟨rfl, n1, rfl⟩
  have c0 := (b0.drewN n1).cell 2 _ rfl
  have c1 := (b1.drewN n1).cell 2 _ rfl
  have hb1 : Below w.heap.size w (W.drewN n1) := below_drewN hbW n1
  go_wp2_with fail
  refine (eqIntS_same aR bR cR dR refs (W.drewN n1) (haR.below hb1) (hbR.below hb1) hlR).mono ?_
  rintro e w2 ⟨rfl, n2, rfl⟩
  go_wp2
  go_ret
  exact ⟨rfl, below_drewN hbW (n1 + n2)⟩

def markO (o : ObjV) (k0 : Int) : ObjV := ⟨o.kind, marksI k0 o.ints.length, marksI (k0 + o.ints.length) o.refs.length⟩

set_option maxHeartbeats 400000 in
set_option maxRecDepth 100000 in
theorem markObj_own (o : ObjV) (lo hi : Nat) (aI : Option Addr) (cI : Nat) (aR : Option Addr) (cR : Nat) (k0 : Int) (w : World) (ho : OwnO w lo hi aI cI aR cR o) (h0 : 0 ≤ k0) (hlI : o.ints.length ≤ 1099511627776) (hlR : o.refs.length ≤ 1099511627776) (hk : k0 ≤ 1099511627776) :
    Calls Tryd.prog 12 #[.agg #[.int .i64 o.kind, .slice aI o.ints.length cI, .slice aR o.refs.length cR], .int .i64 k0] w fun e w' => e = .returned (.int .i64 (k0 + o.ints.length + o.refs.length)) ∧ OwnO w' lo hi aI cI aR cR (markO o k0) ∧ Within lo hi w w' := by
  obtain ⟨k, ints, refs⟩ := o
  obtain ⟨hI, hR, hap⟩ := ho
  simp only at *
  obtain ⟨W, hW, b0, hbW, hsW⟩ := boxes1 w [.int .i64 k, .slice aI ints.length cI, .slice aR refs.length cR] 25
  have hI' := hI.below hbW
  have hR' := hR.below hbW
  go_enter Tryd.func12, Tryd.ntmps12
  go_wp2_with fail
  rw [hW.out]
  refine (markIntS_any lo aI cI k0 ints W hI'.1 h0 (by omega)).mono ?_
  rintro e w1 ⟨rfl, h1, h2⟩
  have hR1 := hR'.kept h2 (fun k hk e => hap k e hk)
  have b1 := b0.block (h2.block _ (by omega) (fun e => by have h3 := (hI.lt _ e.symm).2; have := hI.2.1; omega))
  have c2 := b1.cell 2 _ rfl
  have hI1 : OwnI w1 lo hi aI cI (marksI k0 ints.length) := ⟨by rw [marksI_len]; exact h1, Nat.le_trans hI'.2.1 h2.size, by rw [marksI_len]; exact hI.2.2⟩
  go_wp2_with fail
  refine (markIntS_any lo aR cR (k0 + ints.length) refs w1 hR1.1 (by omega) (by omega)).mono ?_
  rintro e w2 ⟨rfl, h3, h4⟩
  have hI2 := hI1.kept h4 (fun k hk e => by rw [marksI_len] at hk; exact hap k hk e)
  have hR2 : OwnI w2 lo hi aR cR (marksI (k0 + ints.length) refs.length) := ⟨by rw [marksI_len]; exact h3, Nat.le_trans hR1.2.1 h4.size, by rw [marksI_len]; exact hR.2.2⟩
  go_wp2
  go_ret
  refine ⟨rfl, ⟨hI2, hR2, ?_⟩, ((Within.of_below hbW).trans (Within.of_grown h2 (fun j hj => hI.lt j hj))).trans (Within.of_grown h4 (fun j hj => hR.lt j hj))⟩
  simp only [markO, marksI_len]
  exact hap

set_option maxHeartbeats 400000 in
set_option maxRecDepth 100000 in
theorem heldObj_own (o : ObjV) (lo hi : Nat) (aI : Option Addr) (cI : Nat) (aR : Option Addr) (cR : Nat) (k0 : Int) (w : World) (ho : OwnO w lo hi aI cI aR cR (markO o k0)) (h0 : 0 ≤ k0) (hlI : o.ints.length ≤ 1099511627776) (hlR : o.refs.length ≤ 1099511627776) (hk : k0 ≤ 1099511627776) :
    Calls Tryd.prog 13 #[.agg #[.int .i64 o.kind, .slice aI o.ints.length cI, .slice aR o.refs.length cR], .int .i64 k0] w fun e w' => e = .returned (.int .i64 (k0 + o.ints.length + o.refs.length)) ∧ Below w.heap.size w w' := by
  obtain ⟨k, ints, refs⟩ := o
  obtain ⟨hI, hR, hap⟩ := ho
  simp only [markO] at *
  obtain ⟨W, hW, b0, hbW, hsW⟩ := boxes1 w [.int .i64 k, .slice aI ints.length cI, .slice aR refs.length cR] 25
  have hI' := hI.below hbW
  have hR' := hR.below hbW
  have c2 := b0.cell 2 _ rfl
  go_enter Tryd.func13, Tryd.ntmps13
  go_wp2_with fail
  rw [hW.out]
  refine (heldIntS_own lo hi aI cI k0 ints.length W hI' h0 (by omega)).mono ?_
  rintro e w1 ⟨rfl, rfl⟩
  go_wp2_with fail
  refine (heldIntS_own lo hi aR cR (k0 + ints.length) refs.length w1 hR' (by omega) (by omega)).mono ?_
  rintro e w2 ⟨rfl, rfl⟩
  go_wp2
  go_ret
  exact ⟨rfl, hbW⟩
end Go.Proofs.YtdibmepjbabnnacDoor

/- The walks of laws.szIntS and szObj. -/
namespace Go.Proofs.YtdibmepjbabnnacDoor
open Go.RowKit

/-- What is left of a size. -/
def szOf (n : Nat) (left : Int) : Int := if left - n < 0 then -1 else left - n

set_option maxHeartbeats 400000 in
theorem szIntS_any (a : Option Addr) (c n : Nat) (left : Int) (w : World) (hn : n ≤ 9223372036854775807) (h0 : 0 ≤ left ∧ left ≤ 1048576) :
    Calls Tryd.prog 30 #[.slice a n c, .int .i64 left] w fun e w' => e = .returned (.int .i64 (szOf n left)) ∧ w' = w := by
  by_cases h : left - n < 0
  · have HS : Hid (szOf n left = -1) := by unfold szOf; rw [Hid, if_pos h]
    go_enter Tryd.func30, Tryd.ntmps30
    go_wp2
    go_ret
    exact ⟨ret_int HS.out.symm, rfl⟩
  · have HS : Hid (szOf n left = left - n) := by unfold szOf; rw [Hid, if_neg h]
    go_enter Tryd.func30, Tryd.ntmps30
    go_wp2
    go_ret
    exact ⟨ret_int HS.out.symm, rfl⟩

def szObjOf (o : ObjV) (left : Int) : Int := if left - o.ints.length < 0 then -1 else if left - o.ints.length - o.refs.length < 0 then -1 else left - o.ints.length - o.refs.length

set_option maxHeartbeats 400000 in
set_option maxRecDepth 100000 in
theorem szObj_any (o : ObjV) (aI : Option Addr) (cI : Nat) (aR : Option Addr) (cR : Nat) (left : Int) (w : World) (hnI : o.ints.length ≤ 9223372036854775807) (hnR : o.refs.length ≤ 9223372036854775807) (h0 : 0 ≤ left ∧ left ≤ 1048576) :
    Calls Tryd.prog 14 #[.agg #[.int .i64 o.kind, .slice aI o.ints.length cI, .slice aR o.refs.length cR], .int .i64 left] w fun e w' => e = .returned (.int .i64 (szObjOf o left)) ∧ Below w.heap.size w w' := by
  obtain ⟨k, ints, refs⟩ := o
  simp only at *
  obtain ⟨W, hW, b0, hbW, hsW⟩ := boxes1 w [.int .i64 k, .slice aI ints.length cI, .slice aR refs.length cR] 34
  have c2 := b0.cell 2 _ rfl
  by_cases h : left - ints.length < 0
  · have HS : Hid (szObjOf ⟨k, ints, refs⟩ left = -1) := by unfold szObjOf; rw [Hid, if_pos h]
    have HZ : Hid (szOf ints.length left = -1) := by unfold szOf; rw [Hid, if_pos h]
    go_enter Tryd.func14, Tryd.ntmps14
    go_wp2_with fail
    rw [hW.out]
    refine (szIntS_any aI cI ints.length left W hnI h0).mono ?_
    rintro e w' ⟨rfl, rfl⟩
    rw [HZ.out]
    go_wp2
    go_ret
    exact ⟨ret_int HS.out.symm, hbW⟩
  · have HZ : Hid (szOf ints.length left = left - ints.length) := by unfold szOf; rw [Hid, if_neg h]
    have hn1 : ¬ left < ints.length := by omega
    by_cases h2 : left - ints.length - refs.length < 0
    · have HS : Hid (szObjOf ⟨k, ints, refs⟩ left = -1) := by unfold szObjOf; rw [Hid, if_neg h, if_pos h2]
      have HZ2 : Hid (szOf refs.length (left - ints.length) = -1) := by unfold szOf; rw [Hid, if_pos h2]
      go_enter Tryd.func14, Tryd.ntmps14
      go_wp2_with fail
      rw [hW.out]
      refine (szIntS_any aI cI ints.length left W hnI h0).mono ?_
      rintro e w' ⟨rfl, rfl⟩
      rw [HZ.out]
      go_wp2_with fail
      refine (szIntS_any aR cR refs.length (left - ints.length) _ hnR (by omega)).mono ?_
      rintro e w' ⟨rfl, rfl⟩
      rw [HZ2.out]
      go_wp2
      go_ret
      exact ⟨ret_int HS.out.symm, hbW⟩
    · have HS : Hid (szObjOf ⟨k, ints, refs⟩ left = left - ints.length - refs.length) := by unfold szObjOf; rw [Hid, if_neg h, if_neg h2]
      have HZ2 : Hid (szOf refs.length (left - ints.length) = left - ints.length - refs.length) := by unfold szOf; rw [Hid, if_neg h2]
      go_enter Tryd.func14, Tryd.ntmps14
      go_wp2_with fail
      rw [hW.out]
      refine (szIntS_any aI cI ints.length left W hnI h0).mono ?_
      rintro e w' ⟨rfl, rfl⟩
      rw [HZ.out]
      go_wp2_with fail
      refine (szIntS_any aR cR refs.length (left - ints.length) _ hnR (by omega)).mono ?_
      rintro e w' ⟨rfl, rfl⟩
      rw [HZ2.out]
      go_wp2
      go_ret
      exact ⟨ret_int HS.out.symm, hbW⟩

end Go.Proofs.YtdibmepjbabnnacDoor

/- What the laws do with objects, together. -/
