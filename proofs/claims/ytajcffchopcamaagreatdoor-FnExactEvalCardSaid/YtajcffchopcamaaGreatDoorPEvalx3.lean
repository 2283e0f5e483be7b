/- Several texts in one, in their order. -/
import Derived.Test.YtajcffchopcamaaGreatDoorPEvalx2
import Derived.Deep.AppendLies
import Derived.Laws.AppendOwnNone
/- Objects: what they are, what a walk reads and owns of them. -/
namespace Go.Proofs.YtajcffchopcamaaGreatDoor
open Go.RowKit

structure ObjV where
  kind : Int
  ints : List Int
  refs : List Int

/-- The value of an object whose lists lie at aI and aR. -/
def ObjV.val (o : ObjV) (aI : Option Addr) (cI : Nat) (aR : Option Addr) (cR : Nat) : Value := .agg #[.int .i64 o.kind, .slice aI o.ints.length cI, .slice aR o.refs.length cR]

structure ReadsO (w : World) (aI : Option Addr) (cI : Nat) (aR : Option Addr) (cR : Nat) (o : ObjV) : Prop where
  ints : ReadsI w aI o.ints
  refs : ReadsI w aR o.refs
  ni : aI = none → cI = 0
  nr : aR = none → cR = 0

structure OwnO (w : World) (lo hi : Nat) (aI : Option Addr) (cI : Nat) (aR : Option Addr) (cR : Nat) (o : ObjV) : Prop where
  ints : OwnI w lo hi aI cI o.ints
  refs : OwnI w lo hi aR cR o.refs
  apart : ∀ k, (Value.slice aI o.ints.length cI).ownBlock = some k → (Value.slice aR o.refs.length cR).ownBlock ≠ some k

theorem ReadsO.below {w w' : World} {aI : Option Addr} {cI : Nat} {aR : Option Addr} {cR : Nat} {o : ObjV} (h : ReadsO w aI cI aR cR o) (hb : Below w.heap.size w w') : ReadsO w' aI cI aR cR o := ⟨h.ints.below hb, h.refs.below hb, h.ni, h.nr⟩
theorem ReadsO.drew {w : World} {aI : Option Addr} {cI : Nat} {aR : Option Addr} {cR : Nat} {o : ObjV} (h : ReadsO w aI cI aR cR o) : ReadsO w.drew aI cI aR cR o := h.below (Below.refl _ _).drew
theorem OwnO.reads {w : World} {lo hi : Nat} {aI : Option Addr} {cI : Nat} {aR : Option Addr} {cR : Nat} {o : ObjV} (h : OwnO w lo hi aI cI aR cR o) : ReadsO w aI cI aR cR o := ⟨h.ints.reads, h.refs.reads, h.ints.nocap, h.refs.nocap⟩
theorem OwnO.within {w w' : World} {lo hi l r : Nat} {aI : Option Addr} {cI : Nat} {aR : Option Addr} {cR : Nat} {o : ObjV} (h : OwnO w lo hi aI cI aR cR o) (hw : Within l r w w') (hd : hi ≤ l ∨ r ≤ lo) : OwnO w' lo hi aI cI aR cR o := ⟨h.ints.within hw hd, h.refs.within hw hd, h.apart⟩
theorem OwnO.below {w w' : World} {lo hi : Nat} {aI : Option Addr} {cI : Nat} {aR : Option Addr} {cR : Nat} {o : ObjV} (h : OwnO w lo hi aI cI aR cR o) (hb : Below w.heap.size w w') : OwnO w' lo hi aI cI aR cR o := ⟨h.ints.below hb, h.refs.below hb, h.apart⟩
theorem OwnO.widen {w : World} {lo hi lo' hi' : Nat} {aI : Option Addr} {cI : Nat} {aR : Option Addr} {cR : Nat} {o : ObjV} (h : OwnO w lo hi aI cI aR cR o) (h1 : lo' ≤ lo) (h2 : hi ≤ hi') (h3 : hi' ≤ w.heap.size) : OwnO w lo' hi' aI cI aR cR o := ⟨h.ints.widen h1 h2 h3, h.refs.widen h1 h2 h3, h.apart⟩

theorem OwnI.kept {w w' : World} {lo hi : Nat} {a : Option Addr} {c : Nat} {ns : List Int} {row : Option Nat} (h : OwnI w lo hi a c ns) (hg : w.grownBy w' row) (hne : ∀ k, (Value.slice a ns.length c).ownBlock = some k → row ≠ some k) : OwnI w' lo hi a c ns :=
  ⟨ownsRow_block h.1 (fun k hk => hg.block k (h.1.lt k hk).2 (fun e => hne k hk e.symm)), Nat.le_trans h.2.1 hg.size, h.2.2⟩
end Go.Proofs.YtajcffchopcamaaGreatDoor

/- A box of three cells, filled. -/
namespace Go.Proofs.YtajcffchopcamaaGreatDoor
open Go.RowKit

/-- The facts that a walk wants of a box of three cells. -/
theorem Box.three {w : World} {B : Nat} {x0 x1 x2 : Value} {t : TypeId} (b : Box w B [x0, x1, x2] t) :
    w.cell? ⟨B, 0, none⟩ = some x0 ∧ w.cell? ⟨B, 1, none⟩ = some x1 ∧ w.cell? ⟨B, 2, none⟩ = some x2 ∧ w.frozen? ⟨B, 0, none⟩ = false ∧ w.frozen? ⟨B, 1, none⟩ = false ∧ w.frozen? ⟨B, 2, none⟩ = false :=
  ⟨b.cell 0 _ rfl, b.cell 1 _ rfl, b.cell 2 _ rfl, b.frozen 0, b.frozen 1, b.frozen 2⟩

end Go.Proofs.YtajcffchopcamaaGreatDoor

/- Appending numbers as a step of a region that draws its order; an object in a box of the call. -/
namespace Go.Proofs.YtajcffchopcamaaGreatDoor
open Go.RowKit

theorem run_append_ints {w : World} (ty : TypeId) (lo hi : Nat) (a : Option Addr) (c : Nat) (xs : List Int) (hown : OwnI w lo hi a c xs)
    (sa : Option Addr) (sc : Nat) (zs : List Int) (hr : ReadsI w sa zs) (hc : sa = none → sc = 0) (hb : xs.length + zs.length ≤ 1099511627776) (hlo : lo ≤ w.heap.size) :
    ∃ a' c' ys w', (Builtin.append_ #[33, 33] ty #[.slice a xs.length c, .slice sa zs.length sc]).run Tryz.prog w = .ok (.slice a' ys.length c') w' ∧ Hid (ys = xs ++ zs) ∧ OwnI w' lo w'.heap.size a' c' ys ∧ w.grownBy w' (Value.slice a xs.length c).ownBlock ∧
      (∀ k, (Value.slice a' ys.length c').ownBlock = some k → (Value.slice a xs.length c).ownBlock = some k ∨ k = w.heap.size) := by
  obtain ⟨i0, hi0, hz0, hz1, hz2⟩ := info_parts Tryz.infoInt
  cases sa with
  | none =>
    have hz : zs = [] := by
      by_cases e : zs = []
      · exact e
      · obtain ⟨b, off, hh, _⟩ := hr e
        cases hh
    subst hz
    have := hc rfl
    subst this
    refine ⟨a, c, xs, w, run_append_owned_none (P := Tryz.prog) (w := w) lo 33 ty 3 i0 1 Tryz.underlying33 hi0 _ _ _ hown.1, (by simp [Hid]), ⟨hown.1, Nat.le_refl _, fun k hk => (hown.1.lt k hk).2⟩, World.grownBy.refl _ _, fun k hk => .inl hk⟩
  | some ad =>
    obtain ⟨v', w', h1, h2, h3, _, h5⟩ := run_append_own_at (P := Tryz.prog) w lo 33 ty 3 i0 (.int .i64 0) 1 8 Tryz.underlying33 hi0 hz0 hz1 hz2 rfl (by decide) _ _ _ hown.1 ad zs.length sc (zs.map (Value.int .i64)) (by simp) (by
      intro j u hj
      have hjl : j < zs.length := by
        by_cases e : j < zs.length
        · exact e
        · simp [List.getElem?_eq_none (Nat.le_of_not_lt e)] at hj
      have hne : zs ≠ [] := by intro e; simp [e] at hjl
      obtain ⟨b, off, hh, hcell⟩ := hr hne
      cases hh
      rw [Addr_add, hcell j hjl]
      simpa [hjl] using hj) (ints_oneCell _ _) (by simp only [maxLen]; omega) (by omega) hlo
    rw [← List.map_append, ← List.length_append] at h2
    have sh : ∃ a' c', v' = .slice a' (xs ++ zs).length c' := by
      rcases h2.2 with ⟨rfl, h0⟩ | ⟨g, cap, cur, rfl, _⟩
      · exact ⟨none, 0, by rw [h0]⟩
      · exact ⟨_, _, rfl⟩
    obtain ⟨a', c', rfl⟩ := sh
    refine ⟨a', c', xs ++ zs, w', h1, rfl, ⟨h2, Nat.le_refl _, fun k hk => (h2.lt k hk).2⟩, h3, fun k hk => ?_⟩
    rcases h5 with h5 | h5
    · exact .inl (by rw [← h5]; exact hk)
    · rw [h5] at hk
      exact .inr (Option.some.inj hk).symm

/-- An object lies in block Bo; its lists lie from lo on, and the call owns them. -/
structure ObjAt (w : World) (lo Bo : Nat) (o : ObjV) (aI : Option Addr) (cI : Nat) (aR : Option Addr) (cR : Nat) : Prop where
  box : Box w Bo [.int .i64 o.kind, .slice aI o.ints.length cI, .slice aR o.refs.length cR] 39
  own : OwnO w lo w.heap.size aI cI aR cR o
  lt : Bo < lo

theorem OwnO.kept {w w' : World} {lo hi : Nat} {aI : Option Addr} {cI : Nat} {aR : Option Addr} {cR : Nat} {o : ObjV} {B : Nat} (h : OwnO w lo hi aI cI aR cR o) (hg : w.grownBy w' (some B)) (hB : B < lo) : OwnO w' lo w'.heap.size aI cI aR cR o := by
  have h1 := h.ints.kept hg (fun k hk e => by have := (h.ints.lt k hk).1; cases e; omega)
  have h2 := h.refs.kept hg (fun k hk e => by have := (h.refs.lt k hk).1; cases e; omega)
  exact ⟨h1.widen (Nat.le_refl _) h1.2.1 (Nat.le_refl _), h2.widen (Nat.le_refl _) h2.2.1 (Nat.le_refl _), h.apart⟩

theorem ObjAt.kept {w w' : World} {lo Bo : Nat} {aI : Option Addr} {cI : Nat} {aR : Option Addr} {cR : Nat} {o : ObjV} {B : Nat} (h : ObjAt w lo Bo o aI cI aR cR) (hg : w.grownBy w' (some B)) (hB : B < Bo) : ObjAt w' lo Bo o aI cI aR cR :=
  ⟨h.box.block (hg.block Bo h.box.lt (fun e => by cases e; omega)), h.own.kept hg (by have := h.lt; omega), h.lt⟩
theorem ObjAt.alloc {w : World} {lo Bo : Nat} {aI : Option Addr} {cI : Nat} {aR : Option Addr} {cR : Nat} {o : ObjV} (h : ObjAt w lo Bo o aI cI aR cR) (ob : Obj) : ObjAt (w.alloc ob) lo Bo o aI cI aR cR :=
  ⟨h.box.alloc ob, (h.own.below ((Below.refl _ _).alloc (Nat.le_refl _) ob)).widen (Nat.le_refl _) (by simp) (Nat.le_refl _), h.lt⟩
theorem ObjAt.drew {w : World} {lo Bo : Nat} {aI : Option Addr} {cI : Nat} {aR : Option Addr} {cR : Nat} {o : ObjV} (h : ObjAt w lo Bo o aI cI aR cR) : ObjAt w.drew lo Bo o aI cI aR cR :=
  ⟨h.box, h.own.below (Below.refl _ _).drew, h.lt⟩
theorem ObjAt.three {w : World} {lo Bo : Nat} {aI : Option Addr} {cI : Nat} {aR : Option Addr} {cR : Nat} {o : ObjV} (h : ObjAt w lo Bo o aI cI aR cR) :
    w.cell? ⟨Bo, 0, none⟩ = some (.int .i64 o.kind) ∧ w.cell? ⟨Bo, 1, none⟩ = some (.slice aI o.ints.length cI) ∧ w.cell? ⟨Bo, 2, none⟩ = some (.slice aR o.refs.length cR) ∧ w.frozen? ⟨Bo, 0, none⟩ = false ∧ w.frozen? ⟨Bo, 1, none⟩ = false ∧ w.frozen? ⟨Bo, 2, none⟩ = false := h.box.three

theorem Box.grown {w w' : World} {C B : Nat} {vs : List Value} {t : TypeId} (h : Box w C vs t) (hg : w.grownBy w' (some B)) (hne : C ≠ B) : Box w' C vs t := h.block (hg.block C h.lt (fun e => hne (Option.some.inj e)))
theorem CurAt.drew {w : World} {B : Nat} {zs : List Int} (h : CurAt w B zs) : CurAt w.drew B zs := h
end Go.Proofs.YtajcffchopcamaaGreatDoor

/- The walk of laws.toIntS: a new row with the same numbers. -/
namespace Go.Proofs.YtajcffchopcamaaGreatDoor
open Go.RowKit

def partI (zs : List Int) (k : Nat) : List Int := zs.take k ++ List.replicate (zs.length - k) 0

theorem partI_len (zs : List Int) (k : Nat) (h : k ≤ zs.length) : (partI zs k).length = zs.length := by simp [partI]; omega
theorem partI_all (zs : List Int) : partI zs zs.length = zs := by simp [partI]
theorem partI_none (zs : List Int) : partI zs 0 = List.replicate zs.length 0 := by simp [partI]
theorem partI_set (zs : List Int) (k : Nat) (h : k < zs.length) : (partI zs k).set k (zs.getD k 0) = partI zs (k + 1) := by
  unfold partI
  rw [List.set_append, if_neg (by simp; omega), List.take_succ_eq_append_getElem h]
  have e : zs.length - k = (zs.length - (k + 1)) + 1 := by omega
  have e2 : k - (List.take k zs).length = 0 := by simp; omega
  rw [e2, e, List.replicate_succ, List.set_cons_zero]
  simp only [List.getD, h, List.getElem?_eq_getElem, Option.getD_some, List.append_assoc, List.singleton_append]
theorem partI_set_map (zs : List Int) (k : Nat) (h : k < zs.length) : ((partI zs k).map (Value.int .i64)).set k (.int .i64 (zs.getD k 0)) = (partI zs (k + 1)).map (Value.int .i64) := by
  rw [← partI_set zs k h, List.map_set]

set_option maxHeartbeats 400000 in
theorem toIntS_any (a : Option Addr) (cap : Nat) (zs : List Int) (w : World) (hr : ReadsI w a zs) (hl : zs.length ≤ 1099511627776) :
    Calls Tryz.prog 97 #[.slice a zs.length cap] w fun e w' => e = .returned (.slice (some ⟨w.heap.size, 0, none⟩) zs.length zs.length) ∧
      w'.ownsRow w.heap.size 3 1 (.slice (some ⟨w.heap.size, 0, none⟩) zs.length zs.length) zs.length (zs.map (Value.int .i64)) ∧ Below w.heap.size w w' := by
  obtain ⟨i0, hi, hz0, hz1, hz2⟩ := info_parts Tryz.infoInt
  rcases hr.cases with rfl | ⟨b, off, rfl, hpos, hcell⟩
  · go_enter Tryz.func97, Tryz.ntmps97
    go_wp2_with (at_make; refine wpList_make_full _ rfl _ _ 33 rfl w.heap.size 3 i0 (.int .i64 0) 1 Tryz.underlying33 hi hz0 hz1 _ _ _ _ 0 rfl rfl (by simp) (by simp) (by omega) (by simp [maxLen]) (Nat.le_refl _) ?_)
    intro w0 hown0 hgrow0
    go_wp2
    refine wp_loop_rounds 1 ?_
    rw [rounds_succ]
    go_wp2
    go_ret
    exact ⟨rfl, by simpa [toList_madeCells_one] using hown0, (Below.refl _ _).grown hgrow0 (Nat.le_refl _) (fun k h => by cases h)⟩
  · have hbB : b < w.heap.size := by
      have := hcell 0 hpos
      simp only [World.cell?] at this
      by_cases hb : b < w.heap.size
      · exact hb
      · simp [Array.getElem?_eq_none (Nat.le_of_not_lt hb)] at this
    go_enter Tryz.func97, Tryz.ntmps97
    go_wp2_with (at_make; refine wpList_make_full _ rfl _ _ 33 rfl w.heap.size 3 i0 (.int .i64 0) 1 Tryz.underlying33 hi hz0 hz1 _ _ _ _ zs.length rfl rfl rfl rfl (by rw [hz2]; omega) (by simp [maxLen]; omega) (Nat.le_refl _) ?_)
    intro w0 hown0 hgrow0
    have hown1 : w0.ownsRow w.heap.size 3 1 (.slice (some ⟨w.heap.size, 0, none⟩) zs.length zs.length) zs.length ((partI zs 0).map (Value.int .i64)) := by
      rw [partI_none, List.map_replicate]
      simpa [Value.cells, toList_madeCells_one] using hown0
    have hb0 : Below w.heap.size w w0 := (Below.refl _ _).grown hgrow0 (Nat.le_refl _) (fun k h => by cases h)
    clear hown0 hgrow0
    go_wp2
    go_loopw [4] (fun i wr => ∃ k : Nat, k ≤ zs.length ∧ i = .int .i64 k ∧ wr.ownsRow w.heap.size 3 1 (.slice (some ⟨w.heap.size, 0, none⟩) zs.length zs.length) zs.length ((partI zs k).map (Value.int .i64)) ∧ Below w.heap.size w wr)
      (fun i _ => zs.length - (RowKit.intOf i).toNat)
    case atStart => exact ⟨0, Nat.zero_le _, rfl, hown1, hb0⟩
    case round =>
      obtain ⟨k, hk, rfl, hown, hnx⟩ := hrel
      by_cases hlt : k < zs.length
      · have hc : wr.cell? ⟨b, off + k, none⟩ = some (.int .i64 (zs.getD k 0)) := (hnx.cell (by exact hbB)).trans (hcell k hlt)
        have hfz := hown.frozenAt k
        have hct := hown.cellAt k (by omega)
        have hp := partI_len zs k hk
        have HS := hown.stored k (.int .i64 (zs.getD k 0))
        rw [partI_set_map zs k hlt] at HS
        have HN : Below w.heap.size w (wr.setCell ⟨w.heap.size, k, none⟩ (.int .i64 (zs.getD k 0))) := hnx.setCell (Nat.le_refl _) _
        have HSS : Hid (_ ∧ _) := ⟨HS.1, HN⟩
        clear HS HN hown hcell hnx hown1 hb0
        generalize zs.getD k 0 = z at *
        go_wp2
        go_roundw
        case rel => exact ⟨k + 1, by omega, by go_num, HSS.out.1, HSS.out.2⟩
        case measure => simp [RowKit.intOf]; omega
      · have HE : Hid (wr.ownsRow w.heap.size 3 1 (.slice (some ⟨w.heap.size, 0, none⟩) zs.length zs.length) zs.length (zs.map (Value.int .i64))) := by
          have e : k = zs.length := by omega
          rw [e, partI_all] at hown
          exact hown
        go_wp2
        go_ret
        exact ⟨rfl, HE.out, hnx⟩

theorem toIntS_own (a : Option Addr) (cap : Nat) (zs : List Int) (w : World) (hr : ReadsI w a zs) (hl : zs.length ≤ 1099511627776) :
    Calls Tryz.prog 97 #[.slice a zs.length cap] w fun e w' => ∃ a' c', e = .returned (.slice a' zs.length c') ∧ OwnI w' w.heap.size w'.heap.size a' c' zs ∧ Below w.heap.size w w' := by
  refine (toIntS_any a cap zs w hr hl).mono ?_
  rintro e w' ⟨rfl, ho, hb⟩
  exact ⟨_, _, rfl, ⟨ho, Nat.le_refl _, fun k hk => (ho.lt k hk).2⟩, hb⟩
end Go.Proofs.YtajcffchopcamaaGreatDoor
