/- Several texts in one, in their order. -/
import Derived.Test.YtdibmepjbabnnabGreatDoorPart6
import Derived.Deep.RegionHeld3
import Derived.Deep.RegionLaw
import Derived.Deep.DrawnRows
import Derived.Test.YtdibmepjbabnnabGreatDoorPart3
import Derived.Test.YtdibmepjbabnnabGreatDoorPart4
import Derived.Test.YtdibmepjbabnnabGreatDoorPart5
import Derived.Test.YtdibmepjbabnnabGreatDoorPart2
import Derived.Test.YtdibmepjbabnnabGreatDoorProg
import Derived.Test.YtdibmepjbabnnabGreatDoorPart1
import Derived.ProofKit
import Derived.OpenShut
import Derived.ChangeOld
import Derived.Test.YtdibmepjbabnnabGreatDoorRows
import Derived.LaidLaws
import Derived.LaidHandle
import Derived.Stop.Joined
import Derived.ChangeVars
/- The walk of spec.l2Copy. -/
namespace Go.Proofs.YtdibmepjbabnnabGreatDoor
open Go.RowKit

theorem blA {W w' : World} (h : Below W.heap.size W w') (o : Obj) : Below W.heap.size W (w'.alloc o) := h.alloc h.size o
theorem blG {W w' w2 : World} {g : Nat} (h : Below W.heap.size W w') (hg : w'.grownBy w2 (some g)) (hn : W.heap.size ≤ g) : Below W.heap.size W w2 := h.grown hg h.size (fun k e => by cases e; exact hn)
theorem ownI_box0 {w : World} {g lo : Nat} (h : Box w g [] 3) (hlo : lo ≤ g) : OwnI w lo w.heap.size (some ⟨g, 0, none⟩) 0 [] :=
  ⟨⟨by simp, .inr ⟨g, 0, #[], rfl, hlo, h, Nat.le_refl _, by simp [maxLen], rfl, rfl⟩⟩, Nat.le_refl _, fun k hk => by cases hk; exact h.lt⟩

set_option maxHeartbeats 4000000 in
set_option maxRecDepth 100000 in
theorem l2Copy_any (o : ObjV) (aI : Option Addr) (cI : Nat) (aR : Option Addr) (cR : Nat) (w : World) (hr : ReadsO w aI cI aR cR o) (hlI : o.ints.length ≤ 1000) (hlR : o.refs.length ≤ 1000) :
    Calls Tryz.prog 42 #[.agg #[.int .i64 o.kind, .slice aI o.ints.length cI, .slice aR o.refs.length cR]] w fun e w' => ∃ aI' cI' aR' cR', e = .returned (.agg #[.int .i64 o.kind, .slice aI' o.ints.length cI', .slice aR' o.refs.length cR']) ∧
      OwnO w' w.heap.size w'.heap.size aI' cI' aR' cR' o ∧ Below w.heap.size w w' := by
  obtain ⟨k, ints, refs⟩ := o
  obtain ⟨hI, hR, hni, hnr⟩ := hr
  simp only at *
  obtain ⟨W, hW, b0, b1, hbW, hsW⟩ := boxes2 w [.int .i64 k, .slice aI ints.length cI, .slice aR refs.length cR] [.int .i64 0, .slice none 0 0, .slice none 0 0] 26 26
  have hI' := hI.below hbW
  have hR' := hR.below hbW
  have hwW : w.heap.size + 1 < W.heap.size := by omega
  clear hsW hI hR
  go_enter Tryz.func42, Tryz.ntmps42
  go_wp2_with fail
  rw [hW.out]
  clear hW
  have hkeep : ∀ w'', Below W.heap.size W w'' → Box w'' w.heap.size [.int .i64 k, .slice aI ints.length cI, .slice aR refs.length cR] 26 ∧ Box w'' (w.heap.size + 1) [.int .i64 0, .slice none 0 0, .slice none 0 0] 26 :=
    fun w'' hh => ⟨b0.below hh b0.lt, b1.below hh b1.lt⟩
  have hcells : ∀ w'', Below W.heap.size W w'' → (w''.cell? ⟨w.heap.size, 0, none⟩ = some (.int .i64 k) ∧ w''.cell? ⟨w.heap.size, 1, none⟩ = some (.slice aI ints.length cI) ∧ w''.cell? ⟨w.heap.size, 2, none⟩ = some (.slice aR refs.length cR)) ∧ (w''.cell? ⟨w.heap.size + 1, 0, none⟩ = some (.int .i64 0) ∧ w''.cell? ⟨w.heap.size + 1, 1, none⟩ = some (.slice none 0 0) ∧ w''.cell? ⟨w.heap.size + 1, 2, none⟩ = some (.slice none 0 0)) ∧ (w''.frozen? ⟨w.heap.size + 1, 0, none⟩ = false ∧ w''.frozen? ⟨w.heap.size + 1, 1, none⟩ = false ∧ w''.frozen? ⟨w.heap.size + 1, 2, none⟩ = false) := by
    intro w'' hh
    obtain ⟨ba, bb⟩ := hkeep w'' hh
    exact ⟨⟨ba.cell 0 _ rfl, ba.cell 1 _ rfl, ba.cell 2 _ rfl⟩, ⟨bb.cell 0 _ rfl, bb.cell 1 _ rfl, bb.cell 2 _ rfl⟩, bb.frozen 0, bb.frozen 1, bb.frozen 2⟩
  have hh := hcells W (Below.refl _ _)
  have q1 : Box (W.drew.alloc (.cells #[] 3)) W.heap.size [] 3 := box_new W.drew [] _
  have q2a : Box ((W.drew.alloc (.cells #[] 3)).alloc (.cells #[] 3)) W.heap.size [] 3 := (box_new W.drew [] _).alloc _
  have q2b : Box ((W.drew.alloc (.cells #[] 3)).alloc (.cells #[] 3)) (W.heap.size + 1) [] 3 := by
    have := box_new (W.drew.alloc (.cells #[] 3)) [] 3
    simpa using this
  have Q1 : Hid (_ ∧ _ ∧ _) := ⟨q1, q2a, q2b⟩
  clear q1 q2a q2b
  have HK : Hid _ := hkeep
  have HC : Hid _ := hcells
  have hne : ¬ (w.heap.size = w.heap.size + 1) := by omega
  have HNI : Hid _ := hni
  have HNR : Hid _ := hnr
  clear hkeep hcells b0 b1 hni hnr
  go_region_held3 (fun w'' => w''.cell? ⟨w.heap.size, 0, none⟩ = some (.int .i64 k) ∧ w''.cell? ⟨w.heap.size, 1, none⟩ = some (.slice aI ints.length cI) ∧ w''.cell? ⟨w.heap.size, 2, none⟩ = some (.slice aR refs.length cR))
    (first | exact (HC.out _ (by first | exact hb2 | exact hb1 | exact blA hb2 _ | exact blA hb1 _ | exact (Below.refl _ _).drew | exact blA (Below.refl _ _).drew _ | exact blA (blA (Below.refl _ _).drew _) _ | fail)).1 | exact ⟨((((HK.out _ (by first | exact hb2 | exact hb1 | fail)).1.other hne).other hne).other hne).cell 0 _ rfl, ((((HK.out _ (by first | exact hb2 | exact hb1 | fail)).1.other hne).other hne).other hne).cell 1 _ rfl, ((((HK.out _ (by first | exact hb2 | exact hb1 | fail)).1.other hne).other hne).other hne).cell 2 _ rfl⟩ | go_keep | fail)
    ((first
      | (refine step_append_ints rfl (.tmp 5) (.tmp 7) (by rfl) (w.heap.size + 1 + 1) _ _ _ [] (by rfl) (ownI_box0 (by first | exact Q1.out.1 | exact Q1.out.2.1 | exact Q1.out.2.2 | assumption | exact (Q1.out.2.2).grown hg1 (by dsimp only; omega) | exact (Q1.out.2.1).grown hg1 (by dsimp only; omega) | exact box_new _ [] _ | fail) (by first | omega | (have := hb1.size; omega))) aI cI ints (by rfl) (hI'.below (by first | exact hb2 | exact hb1 | exact blA hb2 _ | exact blA hb1 _ | exact (Below.refl _ _).drew | exact blA (Below.refl _ _).drew _ | exact blA (blA (Below.refl _ _).drew _) _ | fail)) HNI.out (by simp only [List.length_nil]; omega) (Nat.le_trans (by omega) (Below.size (B := W.heap.size) (w := W) (by first | exact hb2 | exact hb1 | exact blA hb2 _ | exact blA hb1 _ | exact (Below.refl _ _).drew | exact blA (Below.refl _ _).drew _ | exact blA (blA (Below.refl _ _).drew _) _ | fail))) ?_; intro a1 c1 y1 u1 hy1 hO1 hg1 hat1; have HA1 : Hid _ := hat1; clear hat1; have hyy : ints = y1 := (by simpa using hy1.out.symm); subst hyy; have hb1 := blG (W := W) (by first | exact hb2 | exact hb1 | exact blA hb2 _ | exact blA hb1 _ | exact (Below.refl _ _).drew | exact blA (Below.refl _ _).drew _ | exact blA (blA (Below.refl _ _).drew _) _ | fail) hg1 (by dsimp only; omega))
      | (refine step_append_ints rfl (.tmp 9) (.tmp 11) (by rfl) (w.heap.size + 1 + 1) _ _ _ [] (by rfl) (ownI_box0 (by first | exact Q1.out.1 | exact Q1.out.2.1 | exact Q1.out.2.2 | assumption | exact (Q1.out.2.2).grown hg1 (by dsimp only; omega) | exact (Q1.out.2.1).grown hg1 (by dsimp only; omega) | exact box_new _ [] _ | fail) (by first | omega | (have := hb1.size; omega))) aR cR refs (by rfl) (hR'.below (by first | exact hb2 | exact hb1 | exact blA hb2 _ | exact blA hb1 _ | exact (Below.refl _ _).drew | exact blA (Below.refl _ _).drew _ | exact blA (blA (Below.refl _ _).drew _) _ | fail)) HNR.out (by simp only [List.length_nil]; omega) (Nat.le_trans (by omega) (Below.size (B := W.heap.size) (w := W) (by first | exact hb2 | exact hb1 | exact blA hb2 _ | exact blA hb1 _ | exact (Below.refl _ _).drew | exact blA (Below.refl _ _).drew _ | exact blA (blA (Below.refl _ _).drew _) _ | fail))) ?_; intro a2 c2 y2 u2 hy2 hO2 hg2 hat2; have HA2 : Hid _ := hat2; clear hat2; have hyy : refs = y2 := (by simpa using hy2.out.symm); subst hyy; have hb2 := blG (W := W) (by first | exact hb2 | exact hb1 | exact blA hb2 _ | exact blA hb1 _ | exact (Below.refl _ _).drew | exact blA (Below.refl _ _).drew _ | exact blA (blA (Below.refl _ _).drew _) _ | fail) hg2 (by dsimp only; first | omega | (have := hb1.size; omega)); obtain ⟨⟨m0, m1, m2⟩, ⟨n0, n1, n2⟩, e0, e1, e2⟩ := HC.out _ hb2) | fail))
  all_goals
    have hO1' : OwnI u2 (w.heap.size + 1 + 1) u2.heap.size a1 c1 ints := by
      first
      | exact (hO1.kept hg2 (fun k hk e => by have h1 := HA1.out k hk; have h2 := (hO1.lt k hk).2; simp [Value.ownBlock] at h1 e; omega)).widen (Nat.le_refl _) hg2.size (Nat.le_refl _)
      | exact ((hO1.below ((Below.refl _ _).alloc (Nat.le_refl _) _)).kept hg2 (fun k hk e => by have h2 := (hO1.lt k hk).2; simp [Value.ownBlock] at e; omega)).widen (Nat.le_refl _) (Nat.le_trans (by simp) hg2.size) (Nat.le_refl _)
      | fail
    have hap : ∀ k, (Value.slice a1 ints.length c1).ownBlock = some k → (Value.slice a2 refs.length c2).ownBlock ≠ some k := by
      intro k hk hk'
      have h1 := HA1.out k hk
      have h2 := HA2.out k hk'
      have h3 := (hO1.lt k hk).2
      simp [Value.ownBlock] at h1 h2
      omega
    obtain ⟨WF, hWF, bF, hwF, hsF⟩ := box3_fill (HK.out _ hb2).2 (.int .i64 k) (.slice a1 ints.length c1) (.slice a2 refs.length c2)
    clear HA1 HA2 hg1 hg2 Q1 hb1 hO1
    rw [hWF.out]
    go_wp2
    obtain ⟨q0, q1, q2, _, _, _⟩ := bF.three
    have hs2 := hb2.size
    have hOF : OwnO WF (w.heap.size + 1 + 1) u2.heap.size a1 c1 a2 c2 ⟨k, ints, refs⟩ := (⟨hO1', hO2, hap⟩ : OwnO u2 (w.heap.size + 1 + 1) u2.heap.size a1 c1 a2 c2 ⟨k, ints, refs⟩).within hwF (.inr (by omega))
    exact bodyPost_ret (v := .agg #[.int .i64 k, .slice a1 ints.length c1, .slice a2 refs.length c2]) (by simp [results, Tryz.results42, go_sem, q0, q1, q2]) rfl ⟨a1, c1, a2, c2, rfl, hOF.widen (by omega) (by omega) (Nat.le_refl _), (hbW.trans (hb2.mono (by omega))).trans (hwF.below (by omega) (by omega))⟩
end Go.Proofs.YtdibmepjbabnnabGreatDoor

/- The walk of spec.l2Bend. -/
namespace Go.Proofs.YtdibmepjbabnnabGreatDoor
open Go.RowKit
attribute [local go_sem ↓] Go.wp_at_zero Go.wp_at_succ

theorem ownI_make (w : World) (ns : List Int) (lo : Nat) (hlo : lo ≤ w.heap.size) (hm : ns.length ≤ 1000) : OwnI (w.alloc (.cells (ns.map (Value.int .i64)).toArray 3)) lo (w.alloc (.cells (ns.map (Value.int .i64)).toArray 3)).heap.size (some ⟨w.heap.size, 0, none⟩) ns.length ns := by
  have := World.ownsRow_lit (base := lo) (e := 3) (size := 1) w (ns.map (Value.int .i64)).toArray ns.length hlo (by simp only [maxLen]; omega) (by simp)
  exact ⟨by simpa using this, Nat.le_refl _, fun k hk => by cases hk; simp⟩

set_option maxHeartbeats 4000000 in
set_option maxRecDepth 100000 in
theorem l2Bend_any (B : Nat) (zs : List Int) (o : ObjV) (aI : Option Addr) (cI : Nat) (aR : Option Addr) (cR : Nat) (w : World) (hc : CurAt w B zs) (hl : zs.length ≤ 70368744177664) (hr : ReadsO w aI cI aR cR o) (hlI : o.ints.length ≤ 3) (hlR : o.refs.length ≤ 3) :
    Calls Tryz.prog 28 #[.pointer (some ⟨B, 0, none⟩), .agg #[.int .i64 o.kind, .slice aI o.ints.length cI, .slice aR o.refs.length cR]] w fun e w' => ∃ aI cI aR cR o, e = .returned (.agg #[.int .i64 o.kind, .slice aI o.ints.length cI, .slice aR o.refs.length cR]) ∧ o.ints.length ≤ 7 ∧ o.refs.length ≤ 7 ∧ OwnO w' w.heap.size w'.heap.size aI cI aR cR o ∧ CurAt w' B zs ∧ w.grownBy w' (some B) := by
  have hB := hc.lt
  obtain ⟨k, is, rs⟩ := o
  simp only at *
  obtain ⟨W, hW, b0, b1, hbW, hsW⟩ := boxes2 w [.int .i64 k, .slice aI is.length cI, .slice aR rs.length cR] [.int .i64 0, .slice none 0 0, .slice none 0 0] 26 26
  have hrW := hr.below hbW
  have hcW := hc.below hbW
  have hsW' : w.heap.size + 1 < W.heap.size := by omega
  clear hsW hr hc
  obtain ⟨_, z1, z2, _, _, _⟩ := b0.three
  have z0 := b0.three.1
  go_enter Tryz.func28, Tryz.ntmps28
  go_wp2_with fail
  rw [hW.out]
  clear hW z0 z1 z2
  refine (l2Copy_any ⟨k, is, rs⟩ aI cI aR cR W hrW (by simp only; omega) (by simp only; omega)).mono ?_
  rintro e w1 ⟨pI, dI, pR, dR, rfl, ho1, hb1⟩
  have hs1 := hb1.size
  have b01 := b0.below hb1 b0.lt
  have b11 := b1.below hb1 b1.lt
  obtain ⟨z0, z1, z2, f0, f1, f2⟩ := b01.three
  obtain ⟨W2, hW2, b02, hw2, hs2⟩ := box3_fill b01 (.int .i64 k) (.slice pI is.length dI) (.slice pR rs.length dR)
  have b12 : Box W2 (w.heap.size + 1) _ _ := b11.within hw2 (by omega)
  have ho2 : ObjAt W2 (w.heap.size + 1 + 1) w.heap.size ⟨k, is, rs⟩ pI dI pR dR := ⟨b02, ((ho1.within hw2 (.inr (by omega))).widen (by omega) (by omega) (Nat.le_refl _)), by omega⟩
  have hbT : Below w.heap.size w W2 := (hbW.trans (hb1.mono (by omega))).trans (hw2.below (by omega) (by omega))
  have hcT : CurAt W2 B zs := (hcW.below hb1).kept (row := some w.heap.size) ⟨hw2.os, hw2.tape, hw2.output, hw2.size, fun k hk hn => hw2.block k hk (fun h => hn (by rw [show k = w.heap.size by omega]))⟩ (fun k e => by cases e; exact hB)
  have hgT : w.grownBy W2 (some B) := ⟨hbT.os, hbT.tape, hbT.output, hbT.size, fun k hk _ => hbT.block k hk⟩
  have hsT : w.heap.size + 1 < W2.heap.size := by omega
  clear hs2 hw2 hbT hcW b01 b11 b02 b0 b1 ho1 hb1 hs1 hrW hbW hsW'
  go_wp2_with fail
  rw [hW2.out]
  clear hW2 z0 z1 z2 f0 f1 f2
  refine (l1Below_any B zs 5 W2 hcT hl (by omega)).mono ?_
  rintro e w3 ⟨x, rfl, hx, hcr, hg3⟩
  have hx5 : (x : Int) < 5 := hx (by omega)
  have hb := b12.grown hg3 (by omega)
  have ho := ho2.kept hg3 hB
  have hgr := grownBy_trans hgT hg3
  have hsz : w.heap.size + 1 < w3.heap.size := by have := hg3.size; omega
  clear hx hg3 b12 ho2 hcT hgT hsT
  have hxx : x = 0 ∨ x = 1 ∨ x = 2 ∨ x = 3 ∨ x = 4 := by omega
  rcases hxx with rfl | rfl | rfl | rfl | rfl
  · -- the kind
    clear hx5
    go_wp2_with fail
    refine (l1Int_any B zs _ _ [0, 99, 100, -1] _ (hcr.alloc _) hl (readsI_lit w3 _ _) (fun b off e => by cases e; omega) (by simp) (by simp)).mono ?_
    rintro e w4 ⟨j, hj, rfl, hc4, hg4⟩
    generalize List.getD _ j (0 : Int) = n
    have hg4' := grownBy_trans (World.grownBy_alloc w3 _ (some B)) hg4
    have ho4 := ho.kept hg4' hB
    have hb4 := hb.grown hg4' (by omega)
    have hgw4 := grownBy_trans hgr hg4'
    obtain ⟨c0, c1, c2, f0, _, _⟩ := ho4.three
    obtain ⟨W5, hW5, b5, hw5, hs5⟩ := box_set ho4.box 0 (.int .i64 n)
    simp only [List.set] at b5
    have hg5 : w4.grownBy W5 (some w.heap.size) := ⟨hw5.os, hw5.tape, hw5.output, hw5.size, fun k hk hn => hw5.block k hk (fun h => hn (by rw [show k = w.heap.size by omega]))⟩
    have ho5 : ObjAt W5 (w.heap.size + 1 + 1) w.heap.size ⟨n, is, rs⟩ pI dI pR dR := ⟨b5, ⟨(ho4.own.kept hg5 (by omega)).ints, (ho4.own.kept hg5 (by omega)).refs, ho4.own.apart⟩, by omega⟩
    have hb5 := hb4.grown hg5 (by omega)
    have hc5 := hc4.kept hg5 (fun k e => by cases e; exact hB)
    have hgw5 := grownBy_new hgw4 hg5 (fun k e => by cases e; exact Nat.le_refl _)
    obtain ⟨x0, x1, x2, g0, g1, g2⟩ := hb4.three
    obtain ⟨WF, hWF, bF, hwF, hsF⟩ := box3_fill hb5 (.int .i64 n) (.slice pI is.length dI) (.slice pR rs.length dR)
    clear ho hb hcr hgr ho4 hb4 hc4 hgw4 hg4 hg4' hg5 hw5 hj
    have ho := ho5
    have hcr := hc5
    have hgr := hgw5
    clear ho5 hb5 hc5 hgw5
    go_wp2
    rw [hW5.out, hWF.out]
    obtain ⟨q0, q1, q2, _, _, _⟩ := bF.three
    have hgF : W5.grownBy WF (some (w.heap.size + 1)) := ⟨hwF.os, hwF.tape, hwF.output, hwF.size, fun k hk hn => hwF.block k hk (fun h => hn (by rw [show k = w.heap.size + 1 by omega]))⟩
    exact bodyPost_ret (v := .agg #[.int .i64 n, .slice pI is.length dI, .slice pR rs.length dR]) (by simp [results, Tryz.results28, go_sem, q0, q1, q2]) rfl ⟨pI, dI, pR, dR, ⟨n, is, rs⟩, rfl, by simp only; omega, by simp only; omega, (ho.own.kept hgF (by omega)).widen (by omega) (Nat.le_refl _) (Nat.le_refl _), hcr.kept hgF (fun k e => by cases e; omega), grownBy_new hgr hgF (fun k e => by cases e; omega)⟩
  · -- one more of the is
    clear hx5
    obtain ⟨c0, c1, c2, _, _, _⟩ := ho.three
    have cA := fun ob => (ho.alloc ob).three.2.1
    go_wp2_with fail
    go_region_law ((first
      | (go_simp; go_at_call 41; refine (l1Int_any B zs _ _ [1000001, -1000001, 5] _ (hcr.drew.alloc _) hl (readsI_lit w3.drew _ _) (fun b off e => by cases e; show w3.heap.size ≠ B; omega) (by simp) (by simp)).mono ?_; rintro e u2 ⟨j, hj, rfl, hc2, hg2⟩; generalize List.getD _ j (0 : Int) = n; have hg2' := grownBy_trans (grownBy_trans (grown_drew w3 (some B)) (World.grownBy_alloc w3.drew _ (some B))) hg2; have ho2 := ho.kept hg2' hB; obtain ⟨_, d1, d2, _, _, _⟩ := ho2.three; have dA := fun ob => (ho2.alloc ob).three.2.1)
      | (refine step_append_ints rfl (.tmp 18) (.tmp 22) (by rfl) (w.heap.size + 1 + 1) _ pI dI is (by rfl) (ho2.alloc _).own.ints _ _ [n] (by rfl) (readsI_lit u2 [n] _) (by intro h; cases h) (by simp; omega) (by have := hg2'.size; simp; omega) ?_; intro a3 c3 y3 u3 hy3 ho3 hg3 hat3; obtain ⟨⟨d3, f3⟩, hO, hC, hG, hT⟩ := (ho2.alloc _).pushI (hc2.alloc _) hB (grownBy_new (grownBy_trans hgr hg2') (World.grownBy_alloc u2 _ none) (fun j e => by cases e)) (Nat.le_refl _) ho3 hg3 hat3) | fail))
    all_goals
      have hbF := ((hb.grown hg2' (by omega)).alloc _).block (hT (w.heap.size + 1) (by omega) (by omega) ((hb.grown hg2' (by omega)).alloc _).lt)
      have hyl : y3.length ≤ 4 := by have := congrArg List.length hy3.out; simp at this; omega
      clear hT hat3 hg3 ho3 dA d1 d2 cA c0 c1 c2 d3 f3 hc2 ho2 hg2' hg2 hcr hgr hb ho hy3
      generalize u3.setCell _ _ = wf at *
      have ho := hO
      have hb := hbF
      have hcr := hC
      have hgr := hG
      clear hO hbF hC hG
      obtain ⟨c0, c1, c2, _, _, _⟩ := ho.three
      obtain ⟨x0, x1, x2, g0, g1, g2⟩ := hb.three
      obtain ⟨WF, hWF, bF, hwF, hsF⟩ := box3_fill hb (.int .i64 k) (.slice a3 y3.length c3) (.slice pR rs.length dR)
      go_wp2
      rw [hWF.out]
      obtain ⟨q0, q1, q2, _, _, _⟩ := bF.three
      have hgF : wf.grownBy WF (some (w.heap.size + 1)) := ⟨hwF.os, hwF.tape, hwF.output, hwF.size, fun k hk hn => hwF.block k hk (fun h => hn (by rw [show k = w.heap.size + 1 by omega]))⟩
      exact bodyPost_ret (v := .agg #[.int .i64 k, .slice a3 y3.length c3, .slice pR rs.length dR]) (by simp [results, Tryz.results28, go_sem, q0, q1, q2]) rfl ⟨a3, c3, pR, dR, ⟨k, y3, rs⟩, rfl, by simp only; omega, by simp only; omega, (ho.own.kept hgF (by omega)).widen (by omega) (Nat.le_refl _) (Nat.le_refl _), hcr.kept hgF (fun k e => by cases e; omega), grownBy_new hgr hgF (fun k e => by cases e; omega)⟩
  · -- one more of the rs
    clear hx5
    obtain ⟨c0, c1, c2, _, _, _⟩ := ho.three
    have cA := fun ob => (ho.alloc ob).three.2.2.1
    go_wp2_with fail
    go_region_law ((first
      | (go_simp; go_at_call 41; refine (l1Int_any B zs _ _ [32, -1, 5] _ (hcr.drew.alloc _) hl (readsI_lit w3.drew _ _) (fun b off e => by cases e; show w3.heap.size ≠ B; omega) (by simp) (by simp)).mono ?_; rintro e u2 ⟨j, hj, rfl, hc2, hg2⟩; generalize List.getD _ j (0 : Int) = n; have hg2' := grownBy_trans (grownBy_trans (grown_drew w3 (some B)) (World.grownBy_alloc w3.drew _ (some B))) hg2; have ho2 := ho.kept hg2' hB; obtain ⟨_, d1, d2, _, _, _⟩ := ho2.three; have dA := fun ob => (ho2.alloc ob).three.2.2.1)
      | (refine step_append_ints rfl (.tmp 28) (.tmp 32) (by rfl) (w.heap.size + 1 + 1) _ pR dR rs (by rfl) (ho2.alloc _).own.refs _ _ [n] (by rfl) (readsI_lit u2 [n] _) (by intro h; cases h) (by simp; omega) (by have := hg2'.size; simp; omega) ?_; intro a3 c3 y3 u3 hy3 ho3 hg3 hat3; obtain ⟨⟨d3, f3⟩, hO, hC, hG, hT⟩ := (ho2.alloc _).pushR (hc2.alloc _) hB (grownBy_new (grownBy_trans hgr hg2') (World.grownBy_alloc u2 _ none) (fun j e => by cases e)) (Nat.le_refl _) ho3 hg3 hat3) | fail))
    all_goals
      have hbF := ((hb.grown hg2' (by omega)).alloc _).block (hT (w.heap.size + 1) (by omega) (by omega) ((hb.grown hg2' (by omega)).alloc _).lt)
      have hyl : y3.length ≤ 4 := by have := congrArg List.length hy3.out; simp at this; omega
      clear hT hat3 hg3 ho3 dA d1 d2 cA c0 c1 c2 d3 f3 hc2 ho2 hg2' hg2 hcr hgr hb ho hy3
      generalize u3.setCell _ _ = wf at *
      have ho := hO
      have hb := hbF
      have hcr := hC
      have hgr := hG
      clear hO hbF hC hG
      obtain ⟨c0, c1, c2, _, _, _⟩ := ho.three
      obtain ⟨x0, x1, x2, g0, g1, g2⟩ := hb.three
      obtain ⟨WF, hWF, bF, hwF, hsF⟩ := box3_fill hb (.int .i64 k) (.slice pI is.length dI) (.slice a3 y3.length c3)
      go_wp2
      rw [hWF.out]
      obtain ⟨q0, q1, q2, _, _, _⟩ := bF.three
      have hgF : wf.grownBy WF (some (w.heap.size + 1)) := ⟨hwF.os, hwF.tape, hwF.output, hwF.size, fun k hk hn => hwF.block k hk (fun h => hn (by rw [show k = w.heap.size + 1 by omega]))⟩
      exact bodyPost_ret (v := .agg #[.int .i64 k, .slice pI is.length dI, .slice a3 y3.length c3]) (by simp [results, Tryz.results28, go_sem, q0, q1, q2]) rfl ⟨pI, dI, a3, c3, ⟨k, is, y3⟩, rfl, by simp only; omega, by simp only; omega, (ho.own.kept hgF (by omega)).widen (by omega) (Nat.le_refl _) (Nat.le_refl _), hcr.kept hgF (fun k e => by cases e; omega), grownBy_new hgr hgF (fun k e => by cases e; omega)⟩
  · -- as many as may be, or one more
    clear hx5
    go_wp2_with fail
    refine (l1Below_any B zs 2 w3 hcr hl (by omega)).mono ?_
    rintro e w4 ⟨y, rfl, hy, hc4, hg4⟩
    have hy2 : (y : Int) < 2 := hy (by omega)
    have ho4 := ho.kept hg4 hB
    have hb4 := hb.grown hg4 (by omega)
    have hgw4 := grownBy_trans hgr hg4
    have hs4 := hg4.size
    clear ho hb hcr hgr hy hg4
    obtain ⟨i0, hi, hz0, hz1, hz2⟩ := info_parts Tryz.infoInt
    go_wp2_with (at_make; refine wpList_make_full _ rfl _ _ 24 rfl (w.heap.size + 1 + 1) 3 i0 (.int .i64 0) 1 Tryz.underlying24 hi hz0 hz1 _ _ _ _ (5 + y) rfl rfl (by omega) (by omega) (by rw [hz2]; omega) (by simp [maxLen]; omega) (by omega) ?_)
    intro w5 hown5 hg5
    have hyl : 5 + y ≤ 6 := by omega
    obtain ⟨ns, hn1, hown⟩ : ∃ ns : List Int, 5 + y = ns.length ∧ w5.ownsRow (w.heap.size + 1 + 1) 3 1 (.slice (some ⟨w4.heap.size, 0, none⟩) (5 + y) (5 + y)) (5 + y) (ns.map (Value.int .i64)) := by
      refine ⟨List.replicate (5 + y) 0, by simp, ?_⟩
      rw [List.map_replicate]
      simpa [Value.cells, toList_madeCells_one] using hown5
    clear hown5 hy2
    have hn2 : (5 : Int) + (y : Int) = (ns.length : Int) := by omega
    generalize 5 + y = N at *
    subst hn1
    generalize (5 : Int) + (y : Int) = M at *
    clear hn2
    have hlt5 : w4.heap.size < w5.heap.size := (hown.lt w4.heap.size rfl).2
    have hoN : OwnI w5 (w.heap.size + 1 + 1) w5.heap.size (some ⟨w4.heap.size, 0, none⟩) ns.length ns := ⟨hown, Nat.le_refl _, fun k hk => (hown.lt k hk).2⟩
    have hgk : ∀ r, w4.grownBy w5 r := fun r => ⟨hg5.os, hg5.tape, hg5.output, hg5.size, fun k hk _ => hg5.block k hk (by simp)⟩
    obtain ⟨_, hO, hC, hG, hT⟩ := ho4.pushI hc4 hB hgw4 (Nat.le_refl _) hoN (hgk _) (fun k hk => .inr (by cases hk; rfl))
    have hb6 := hb4.block (hT (w.heap.size + 1) (by omega) (by omega) hb4.lt)
    obtain ⟨c0, c1, c2, _, f1, _⟩ := (ho4.kept (hgk (some B)) hB).three
    obtain ⟨x0, x1, x2, g0, g1, g2⟩ := (hb4.grown (hgk (some B)) (by omega)).three
    obtain ⟨W6, hW6⟩ : ∃ W6, Hid (w5.setCell ⟨w.heap.size, 1, none⟩ (.slice (some ⟨w4.heap.size, 0, none⟩) ns.length ns.length) = W6) := ⟨_, rfl⟩
    rw [hW6.out] at hO hC hG hb6
    obtain ⟨WF, hWF, bF, hwF, hsF⟩ := box3_fill hb6 (.int .i64 k) (.slice (some ⟨w4.heap.size, 0, none⟩) ns.length ns.length) (.slice pR rs.length dR)
    clear hT hgk hoN hown hg5 hgw4 hb4 ho4 hc4 hi hz0 hz1 hz2
    have ho := hO
    have hcr := hC
    have hgr := hG
    clear hO hC hG hb6
    go_wp2
    rw [hW6.out, hWF.out]
    obtain ⟨q0, q1, q2, _, _, _⟩ := bF.three
    have hgF : W6.grownBy WF (some (w.heap.size + 1)) := ⟨hwF.os, hwF.tape, hwF.output, hwF.size, fun k hk hn => hwF.block k hk (fun h => hn (by rw [show k = w.heap.size + 1 by omega]))⟩
    exact bodyPost_ret (v := .agg #[.int .i64 k, .slice (some ⟨w4.heap.size, 0, none⟩) ns.length ns.length, .slice pR rs.length dR]) (by simp [results, Tryz.results28, go_sem, q0, q1, q2]) rfl ⟨(some ⟨w4.heap.size, 0, none⟩), ns.length, pR, dR, ⟨k, ns, rs⟩, rfl, by simp only; omega, by simp only; omega, (ho.own.kept hgF (by omega)).widen (by omega) (Nat.le_refl _) (Nat.le_refl _), hcr.kept hgF (fun k e => by cases e; omega), grownBy_new hgr hgF (fun k e => by cases e; omega)⟩
  · -- as it was
    clear hx5
    obtain ⟨c0, c1, c2, _, _, _⟩ := ho.three
    obtain ⟨x0, x1, x2, g0, g1, g2⟩ := hb.three
    obtain ⟨WF, hWF, bF, hwF, hsF⟩ := box3_fill hb (.int .i64 k) (.slice pI is.length dI) (.slice pR rs.length dR)
    go_wp2
    rw [hWF.out]
    obtain ⟨q0, q1, q2, _, _, _⟩ := bF.three
    have hgF : w3.grownBy WF (some (w.heap.size + 1)) := ⟨hwF.os, hwF.tape, hwF.output, hwF.size, fun k hk hn => hwF.block k hk (fun h => hn (by rw [show k = w.heap.size + 1 by omega]))⟩
    exact bodyPost_ret (v := .agg #[.int .i64 k, .slice pI is.length dI, .slice pR rs.length dR]) (by simp [results, Tryz.results28, go_sem, q0, q1, q2]) rfl ⟨pI, dI, pR, dR, ⟨k, is, rs⟩, rfl, by simp only; omega, by simp only; omega, (ho.own.kept hgF (by omega)).widen (by omega) (Nat.le_refl _) (Nat.le_refl _), hcr.kept hgF (fun k e => by cases e; omega), grownBy_new hgr hgF (fun k e => by cases e; omega)⟩
end Go.Proofs.YtdibmepjbabnnabGreatDoor

/- The walks of spec.l1Once, l2ObjAny and DrawPutObj. -/
namespace Go.Proofs.YtdibmepjbabnnabGreatDoor
open Go.RowKit

theorem l1Once_any (B : Nat) (zs : List Int) (n : Int) (w : World) (hc : CurAt w B zs) (hl : zs.length ≤ 70368744177664) (hn : n ≤ 1000000000) :
    Calls Tryz.prog 27 #[.pointer (some ⟨B, 0, none⟩), .int .i64 n] w fun e w' => ∃ b : Bool, e = .returned (.bool b) ∧ CurAt w' B zs ∧ w.grownBy w' (some B) := by
  go_enter Tryz.func27, Tryz.ntmps27
  go_wp2_with fail
  refine (l1Below_any B zs n w hc hl hn).mono ?_
  rintro e w1 ⟨x, rfl, _, hc1, hg1⟩
  go_wp2
  go_ret
  exact ⟨_, rfl, hc1, hg1⟩

set_option maxHeartbeats 4000000 in
set_option maxRecDepth 100000 in
theorem l2ObjAny_any (B : Nat) (zs : List Int) (w : World) (hc : CurAt w B zs) (hl : zs.length ≤ 70368744177664) :
    Calls Tryz.prog 14 #[.pointer (some ⟨B, 0, none⟩)] w fun e w' => ∃ aI cI aR cR o, e = .returned (.agg #[.int .i64 o.kind, .slice aI o.ints.length cI, .slice aR o.refs.length cR]) ∧ o.ints.length ≤ 7 ∧ o.refs.length ≤ 7 ∧ OwnO w' w.heap.size w'.heap.size aI cI aR cR o ∧ CurAt w' B zs ∧ w.grownBy w' (some B) := by
  have hB := hc.lt
  obtain ⟨W, hW, b0, hbW, hsW⟩ := boxes1 w [.int .i64 0, .slice none 0 0, .slice none 0 0] 26
  have hg0 : w.grownBy W (some B) := ⟨hbW.os, hbW.tape, hbW.output, hbW.size, fun k hk _ => hbW.block k hk⟩
  have hcW : CurAt W B zs := hc.below hbW
  have hsW' : w.heap.size < W.heap.size := by omega
  clear hsW hc
  go_enter Tryz.func14, Tryz.ntmps14
  go_wp2_with fail
  rw [hW.out]
  clear hW hbW
  refine (l2Obj_any B zs W hcW hl).mono ?_
  rintro e w1 ⟨aI, cI, aR, cR, ⟨k, is, rs⟩, rfl, hlI, hlR, ho1, hc1, hg1⟩
  simp only at *
  have b1 := b0.grown hg1 (by omega)
  have hgw1 := grownBy_trans hg0 hg1
  have hs1 := hg1.size
  clear hg1 hg0 hcW b0
  obtain ⟨W2, hW2, b2, hbW2, hsW2⟩ := boxes1 w1 [.int .i64 k, .slice aI is.length cI, .slice aR rs.length cR] 26
  have hb2 := b1.below hbW2 b1.lt
  have hc2 : CurAt W2 B zs := hc1.below hbW2
  have hgw2 : w.grownBy W2 (some B) := grownBy_new (row := none) hgw1 ⟨hbW2.os, hbW2.tape, hbW2.output, hbW2.size, fun k hk _ => hbW2.block k hk⟩ (fun k e => by cases e)
  have ho2 := ho1.below hbW2
  have hlt2 : w1.heap.size < W2.heap.size := by omega
  clear hsW2 hbW2 b1 hc1 hgw1 ho1
  go_wp2_with fail
  rw [hW2.out]
  clear hW2
  refine (l1Once_any B zs 6 W2 hc2 hl (by omega)).mono ?_
  rintro e w3 ⟨bb, rfl, hc3, hg3⟩
  have hs3 := hg3.size
  have b3 := b2.grown hg3 (by omega)
  have hb3 := hb2.grown hg3 (by omega)
  have hgw3 := grownBy_trans hgw2 hg3
  have ho3 := ho2.kept hg3 (by omega)
  clear b2 hb2 hgw2 ho2 hg3 hc2
  obtain ⟨c0, c1, c2, f0, f1, f2⟩ := b3.three
  cases bb with
  | false =>
    obtain ⟨x0, x1, x2, g0, g1, g2⟩ := hb3.three
    obtain ⟨WF, hWF, bF, hwF, hsF⟩ := box3_fill hb3 (.int .i64 k) (.slice aI is.length cI) (.slice aR rs.length cR)
    go_wp2
    rw [hWF.out]
    obtain ⟨q0, q1, q2, _, _, _⟩ := bF.three
    have hgF : w3.grownBy WF (some w.heap.size) := ⟨hwF.os, hwF.tape, hwF.output, hwF.size, fun k hk hn => hwF.block k hk (fun h => hn (by rw [show k = w.heap.size by omega]))⟩
    exact bodyPost_ret (v := .agg #[.int .i64 k, .slice aI is.length cI, .slice aR rs.length cR]) (by simp [results, Tryz.results14, go_sem, q0, q1, q2]) rfl ⟨aI, cI, aR, cR, ⟨k, is, rs⟩, rfl, by simp only; omega, by simp only; omega, (ho3.kept hgF (by omega)).widen (by omega) (Nat.le_refl _) (Nat.le_refl _), hc3.kept hgF (fun k e => by cases e; omega), grownBy_new hgw3 hgF (fun k e => by cases e; omega)⟩
  | true =>
    go_wp2_with fail
    refine (l2Bend_any B zs ⟨k, is, rs⟩ aI cI aR cR w3 hc3 hl ho3.reads hlI hlR).mono ?_
    rintro e w4 ⟨pI, dI, pR, dR, ⟨k', is', rs'⟩, rfl, hlI', hlR', ho4, hc4, hg4⟩
    simp only at *
    have hs4 := hg4.size
    have b4 := b3.grown hg4 (by omega)
    have hb4 := hb3.grown hg4 (by omega)
    have hgw4 := grownBy_trans hgw3 hg4
    clear b3 hb3 hgw3 ho3 hg4 hc3 c0 c1 c2 f0 f1 f2
    obtain ⟨c0, c1, c2, f0, f1, f2⟩ := b4.three
    obtain ⟨x0, x1, x2, g0, g1, g2⟩ := hb4.three
    obtain ⟨W5, hW5, b5, hw5, hs5⟩ := box3_fill b4 (.int .i64 k') (.slice pI is'.length dI) (.slice pR rs'.length dR)
    have hb5 : Box W5 w.heap.size _ _ := hb4.within hw5 (by omega)
    obtain ⟨WF, hWF, bF, hwF, hsF⟩ := box3_fill hb5 (.int .i64 k') (.slice pI is'.length dI) (.slice pR rs'.length dR)
    have hne : ¬ (w.heap.size = w1.heap.size) := by omega
    have hne' : ¬ (w1.heap.size = w.heap.size) := by omega
    have hgF : w4.grownBy W5 (some w1.heap.size) := ⟨hw5.os, hw5.tape, hw5.output, hw5.size, fun k hk hn => hw5.block k hk (fun h => hn (by rw [show k = w1.heap.size by omega]))⟩
    have hgG : W5.grownBy WF (some w.heap.size) := ⟨hwF.os, hwF.tape, hwF.output, hwF.size, fun k hk hn => hwF.block k hk (fun h => hn (by rw [show k = w.heap.size by omega]))⟩
    clear hw5 hwF
    go_wp2
    rw [hW5.out, hWF.out]
    obtain ⟨q0, q1, q2, _, _, _⟩ := bF.three
    exact bodyPost_ret (v := .agg #[.int .i64 k', .slice pI is'.length dI, .slice pR rs'.length dR]) (by simp [results, Tryz.results14, go_sem, q0, q1, q2]) rfl ⟨pI, dI, pR, dR, ⟨k', is', rs'⟩, rfl, by simp only; omega, by simp only; omega, ((ho4.kept hgF (by omega)).kept hgG (by omega)).widen (by omega) (Nat.le_refl _) (Nat.le_refl _), (hc4.kept hgF (fun k e => by cases e; omega)).kept hgG (fun k e => by cases e; omega), grownBy_new (grownBy_new hgw4 hgF (fun k e => by cases e; omega)) hgG (fun k e => by cases e; omega)⟩

set_option maxHeartbeats 4000000 in
set_option maxRecDepth 100000 in
theorem drawPutObj_any (a : Option Addr) (c : Nat) (zs : List Int) (w : World) (hr : Reads w a zs) (hl : zs.length ≤ 70368744177664) :
    Calls Tryz.prog 5 #[.slice a zs.length c] w fun e w' => ∃ aI cI aR cR o, e = .returned (.agg #[.int .i64 o.kind, .slice aI o.ints.length cI, .slice aR o.refs.length cR]) ∧ o.ints.length ≤ 7 ∧ o.refs.length ≤ 7 ∧ OwnO w' w.heap.size w'.heap.size aI cI aR cR o ∧ Below w.heap.size w w' := by
  obtain ⟨W, hW, b0, hbW, hsW⟩ := boxes1 w [.int .i64 0, .slice none 0 0, .slice none 0 0] 26
  have hrW := hr.below hbW
  have hsW' : w.heap.size < W.heap.size := by omega
  clear hsW hr
  go_enter Tryz.func5, Tryz.ntmps5
  go_wp2_with fail
  rw [hW.out]
  clear hW
  refine (l1New_any a c zs W hrW hl).mono ?_
  rintro e w1 ⟨rfl, hc1, hb1⟩
  have b1 := b0.below hb1 b0.lt
  have hs1 := hb1.size
  clear b0
  go_wp2_with fail
  refine (l2ObjAny_any W.heap.size zs w1 hc1 hl).mono ?_
  rintro e w2 ⟨aI, cI, aR, cR, ⟨k, is, rs⟩, rfl, hlI, hlR, ho2, hc2, hg2⟩
  simp only at *
  have hs2 := hg2.size
  have b2 := b1.grown hg2 (by omega)
  have hB2 : Below w.heap.size w w2 := (hbW.trans (hb1.mono (by omega))).grown hg2 (by omega) (fun k e => by cases e; omega)
  clear b1 hb1 hbW hc1 hc2 hg2
  obtain ⟨x0, x1, x2, g0, g1, g2⟩ := b2.three
  obtain ⟨WF, hWF, bF, hwF, hsF⟩ := box3_fill b2 (.int .i64 k) (.slice aI is.length cI) (.slice aR rs.length cR)
  go_wp2
  rw [hWF.out]
  obtain ⟨q0, q1, q2, _, _, _⟩ := bF.three
  exact bodyPost_ret (v := .agg #[.int .i64 k, .slice aI is.length cI, .slice aR rs.length cR]) (by simp [results, Tryz.results5, go_sem, q0, q1, q2]) rfl ⟨aI, cI, aR, cR, ⟨k, is, rs⟩, rfl, by simp only; omega, by simp only; omega, (ho2.within hwF (.inr (by omega))).widen (by omega) (by omega) (Nat.le_refl _), hB2.trans (hwF.below (by omega) (by omega))⟩
end Go.Proofs.YtdibmepjbabnnabGreatDoor

/- The walk of impl.putInts: b, and behind it the bytes of each number. -/
namespace Go.Proofs.YtdibmepjbabnnabGreatDoor
open Go.RowKit

def putTo (ns : List Int) (k : Nat) : List Int := (ns.take k).flatMap putOf
theorem putTo_succ (ns : List Int) (k : Nat) (h : k < ns.length) : putTo ns (k + 1) = putTo ns k ++ putOf (ns.getD k 0) := by
  unfold putTo
  rw [List.take_succ_eq_append_getElem h, List.flatMap_append]
  simp [List.getD, h]
theorem putTo_all (ns : List Int) (k : Nat) (h : ns.length ≤ k) : putTo ns k = ns.flatMap putOf := by
  unfold putTo; rw [List.take_of_length_le h]
theorem putTo_len (ns : List Int) (k : Nat) : (putTo ns k).length ≤ 65 * k := by
  induction k with
  | zero => simp [putTo]
  | succ k ih =>
    by_cases h : k < ns.length
    · rw [putTo_succ ns k h, List.length_append]
      have := (putOf_len (ns.getD k 0)).2
      omega
    · rw [putTo_all ns _ (by omega), ← putTo_all ns k (by omega)]
      omega

set_option maxHeartbeats 400000 in
set_option maxRecDepth 100000 in
theorem putInts_any (a : Option Addr) (c : Nat) (zs : List Int) (na : Option Addr) (nc : Nat) (ns : List Int) (w : World) (hr : Reads w a zs) (hc : a = none → c = 0) (hn : ReadsI w na ns)
    (hl : zs.length + 65 * ns.length ≤ 70368744170000) :
    Calls Tryz.prog 16 #[.slice a zs.length c, .slice na ns.length nc] w fun e w' => ∃ a' c' ys, e = .returned (.slice a' ys.length c') ∧ ys = zs ++ ns.flatMap putOf ∧ OwnB w' w.heap.size a' c' ys ∧ Below w.heap.size w w' := by
  obtain ⟨i0, hi, hz0, hz1, hz2⟩ := info_parts Tryz.infoU8
  have fin : ns = [] ∨ ∃ b off, na = some ⟨b, off, none⟩ ∧ 0 < ns.length ∧ b < w.heap.size ∧ ∀ i, i < ns.length → w.cell? ⟨b, off + i, none⟩ = some (.int .i64 (ns.getD i 0)) := by
    by_cases e : ns = []
    · exact .inl e
    · obtain ⟨b, off, h1, h2⟩ := hn e
      have hp := List.length_pos_iff.2 e
      exact .inr ⟨b, off, h1, hp, block_lt (h2 0 hp), h2⟩
  have HC : Hid (a = none → c = 0) := hc
  clear hc
  rcases fin with rfl | ⟨b, off, rfl, hpos, hbB, hcell⟩
  · go_enter Tryz.func16, Tryz.ntmps16
    go_wp2_with (first | (at_make; refine wpList_make_own _ rfl _ _ 22 rfl w.heap.size 5 i0 (.int .u8 0) 1 Tryz.underlying22 hi hz0 hz1 _ _ _ zs.length rfl rfl (by simp) (by rw [hz2]; omega) (by simp only [maxLen]; omega) (Nat.le_refl _) ?_) | fail)
    intro w0 hown0 hgrow0
    have hb0 : Below w.heap.size w w0 := (Below.refl _ _).grown hgrow0 (Nat.le_refl _) (fun k h => by cases h)
    have ho0 : OwnB w0 w.heap.size (some ⟨w.heap.size, 0, none⟩) zs.length [] := ⟨by simp, hown0⟩
    have hr0 := hr.below hb0
    have hs0 := hb0.size
    clear hown0 hgrow0 hr
    go_wp2_with (at_builtin; refine append_bytes rfl _ _ rfl w.heap.size _ _ [] rfl ho0 a c zs rfl hr0 HC.out (by simp; omega) hs0 ?_; intro a1 c1 y1 w1 hy1 ho1 hg1)
    have hb1 := hb0.grown hg1 hs0 (fun k hk => (ho0.2.lt k hk).1)
    refine wp_loop_rounds 1 ?_
    rw [rounds_succ]
    go_wp2
    go_ret
    exact ⟨a1, c1, y1, rfl, by rw [hy1.out]; simp, ho1, hb1⟩
  · go_enter Tryz.func16, Tryz.ntmps16
    go_wp2_with (first | (at_make; refine wpList_make_own _ rfl _ _ 22 rfl w.heap.size 5 i0 (.int .u8 0) 1 Tryz.underlying22 hi hz0 hz1 _ _ _ (zs.length + 6 * ns.length) rfl rfl (by omega) (by rw [hz2]; omega) (by simp only [maxLen]; omega) (Nat.le_refl _) ?_) | fail)
    intro w0 hown0 hgrow0
    have hb0 : Below w.heap.size w w0 := (Below.refl _ _).grown hgrow0 (Nat.le_refl _) (fun k h => by cases h)
    have ho0 : OwnB w0 w.heap.size (some ⟨w.heap.size, 0, none⟩) (zs.length + 6 * ns.length) [] := ⟨by simp, hown0⟩
    have hr0 := hr.below hb0
    have hs0 := hb0.size
    clear hown0 hgrow0 hr
    go_wp2_with (at_builtin; refine append_bytes rfl _ _ rfl w.heap.size _ _ [] rfl ho0 a c zs rfl hr0 HC.out (by simp; omega) hs0 ?_; intro a1 c1 y1 w1 hy1 ho1 hg1)
    have hb1 := hb0.grown hg1 hs0 (fun k hk => (ho0.2.lt k hk).1)
    clear ho0 hr0 hg1 hb0 hs0
    go_loopw [5, 20] (fun out i wr => ∃ (a' : Option Addr) (c' : Nat) (ys : List Int) (k : Nat), out = .slice a' ys.length c' ∧ i = .int .i64 k ∧ k ≤ ns.length ∧ OwnB wr w.heap.size a' c' ys ∧ Hid (ys = zs ++ putTo ns k) ∧ Below w.heap.size w wr)
      (fun _ i _ => ns.length - (intOf i).toNat)
    case atStart => exact ⟨a1, c1, y1, 0, rfl, rfl, Nat.zero_le _, ho1, by rw [Hid, hy1.out]; simp [putTo], hb1⟩
    case round =>
      obtain ⟨a', c', ys, k, rfl, rfl, hk, ho, hy, hnx⟩ := hrel
      clear ho1 hb1 hy1
      have hsz := hnx.size
      have hyl : ys.length ≤ 70368744177000 := by
        have e := congrArg List.length hy.out
        have := putTo_len ns k
        rw [List.length_append] at e
        omega
      by_cases hlt : k < ns.length
      · have hcx : wr.cell? ⟨b, off + k, none⟩ = some (.int .i64 (ns.getD k 0)) := (hnx.cell (by exact hbB)).trans (hcell k hlt)
        have HS : Hid (putTo ns (k + 1) = _) := putTo_succ ns k hlt
        have HZ := zig_le (ns.getD k 0)
        have HP : Hid (putOf (ns.getD k 0) = groups (zig (ns.getD k 0))) := rfl
        clear hcell
        generalize ns.getD k 0 = n at *
        go_wp2_with fail
        refine (foldSign_any n wr).mono ?_
        rintro e w2 ⟨rfl, rfl⟩
        go_wp2_with fail
        refine (appendGroups_any w.heap.size a' c' ys (zig n) w2 ho HZ hyl hsz).mono ?_
        rintro e w3 ⟨a3, c3, y3, rfl, hy3, ho3, hb3⟩
        have HY : Hid (y3 = zs ++ putTo ns (k + 1)) := by rw [Hid, hy3, hy.out, HS.out, HP.out, List.append_assoc]
        clear hy3
        go_wp2
        go_roundw
        case rel => exact ⟨a3, c3, y3, k + 1, rfl, by go_num, by omega, ho3, HY, hnx.trans hb3⟩
        case measure => simp [intOf]; omega
      · have HE : Hid (ys = zs ++ ns.flatMap putOf) := by rw [Hid, hy.out, putTo_all ns k (by omega)]
        go_wp2
        go_ret
        exact ⟨a', c', ys, rfl, HE.out, ho, hnx⟩
end Go.Proofs.YtdibmepjbabnnabGreatDoor

/- The walks of impl.putParts and impl.PutObj. -/
namespace Go.Proofs.YtdibmepjbabnnabGreatDoor
open Go.RowKit

set_option maxHeartbeats 400000 in
set_option maxRecDepth 100000 in
theorem putParts_any (a : Option Addr) (c : Nat) (xs : List Int) (aL : Option Addr) (cL : Nat) (l : List Int) (w : World) (hr : Reads w a xs) (hc : a = none → c = 0) (hL : ReadsI w aL l) (hx : xs.length ≤ 1000000) (hl : l.length ≤ 1000) :
    Calls Tryz.prog 15 #[.slice a xs.length c, .slice aL l.length cL] w fun e w' => ∃ a' c' ys, e = .returned (.slice a' ys.length c') ∧ Hid (ys = xs ++ putList l) ∧ OwnB w' w.heap.size a' c' ys ∧ Below w.heap.size w w' := by
  have HC : Hid (a = none → c = 0) := hc
  clear hc
  have hbA : Below w.heap.size w (w.alloc (.cells #[.int .i64 (l.length : Int)] 3)) := (Below.refl _ _).alloc (Nat.le_refl _) _
  go_enter Tryz.func15, Tryz.ntmps15
  go_wp2_with fail
  refine (putInts_any a c xs _ _ [(l.length : Int)] _ (hr.alloc _) HC.out (readsI_one w l.length _) (by simp; omega)).mono ?_
  rintro e w1 ⟨a1, c1, y1, rfl, hy1, ho1, hb1⟩
  have HY1 : Hid (y1 = xs ++ putOf l.length) := by rw [Hid, hy1]; simp
  have hl1 : y1.length ≤ 1000065 := by have := (putOf_len l.length).2; rw [HY1.out, List.length_append]; omega
  have hb1' : Below w.heap.size w w1 := hbA.trans (hb1.mono hbA.size)
  have ho1' := ho1.base hbA.size
  clear hy1 hb1 ho1 hbA
  go_wp2_with fail
  refine (putInts_any a1 c1 y1 aL cL l w1 ho1'.reads ho1'.nocap (hL.below hb1') (by omega)).mono ?_
  rintro e w2 ⟨a2, c2, y2, rfl, hy2, ho2, hb2⟩
  have HY2 : Hid (y2 = xs ++ putList l) := by rw [Hid, hy2, HY1.out]; simp [putList]
  clear hy2
  go_wp2
  go_ret
  exact ⟨a2, c2, y2, rfl, HY2, ho2.base hb1'.size, hb1'.trans (hb2.mono hb1'.size)⟩

set_option maxHeartbeats 1000000 in
set_option maxRecDepth 100000 in
theorem implPutObj_any (o : ObjV) (aI : Option Addr) (cI : Nat) (aR : Option Addr) (cR : Nat) (w : World) (hg : ErrT w) (hr : ReadsO w aI cI aR cR o) (hnI : o.ints.length ≤ 140737488355328) (hnR : o.refs.length ≤ 140737488355328) :
    Calls Tryz.prog 6 #[.agg #[.int .i64 o.kind, .slice aI o.ints.length cI, .slice aR o.refs.length cR]] w fun e w' => ∃ a' c' ys, e = .returned (.slice a' ys.length c') ∧ Hid (ys = putObjOf o) ∧ OwnB w' w.heap.size a' c' ys ∧ Below w.heap.size w w' := by
  have hok := fun w' (g : ErrT w') (h : ReadsO w' aI cI aR cR o) => implObjOk_any o aI cI aR cR w' g h hnI hnR
  have HPT : Hid (okB o = true → putObjOf o = (putOf o.kind ++ putList o.ints) ++ putList o.refs) := fun h => by unfold putObjOf; rw [if_pos h]
  have HPF : Hid (okB o = false → putObjOf o = []) := fun h => by unfold putObjOf; rw [if_neg (by rw [h]; decide)]
  have HLN : Hid (okB o = true → o.ints.length ≤ 5 ∧ o.refs.length ≤ 5) := fun h => by simp [okB] at h; exact ⟨h.2.1, h.2.2.1⟩
  have hcs : okB o = true ∨ okB o = false := by cases okB o <;> simp
  generalize hP : putObjOf o = P at *
  clear hP
  obtain ⟨k, ints, refs⟩ := o
  have hr' := hr
  obtain ⟨hI, hR, _, _⟩ := hr
  simp only at *
  obtain ⟨W, hW, b0, hbW, hsW⟩ := boxes1 w [.int .i64 k, .slice aI ints.length cI, .slice aR refs.length cR] 26
  go_enter Tryz.func6, Tryz.ntmps6
  go_wp2_with fail
  rw [hW.out]
  refine (hok W (hg.keep hbW) (hr'.below hbW)).mono ?_
  rintro e w1 ⟨rfl, hb1⟩
  have hbw1 : Below w.heap.size w w1 := hbW.trans (hb1.mono hbW.size)
  have b1 := b0.below hb1 b0.lt
  have x0 := b1.cell 0 _ rfl
  have x1 := b1.cell 1 _ rfl
  have x2 := b1.cell 2 _ rfl
  rcases hcs with hB | hB
  · have HP : Hid (_ = _) := HPT.out hB
    obtain ⟨h5, h6⟩ := HLN.out hB
    rw [hB]
    clear hB hok
    have hL1 := (putOf_len k).2
    have HL2 : Hid (_ ≤ _) := putList_len ints
    have hlt1 := b1.lt
    have hkeep : ∀ w', Below w1.heap.size w1 w' → w'.cell? ⟨w.heap.size, 0, none⟩ = some (.int .i64 k) ∧ w'.cell? ⟨w.heap.size, 1, none⟩ = some (.slice aI ints.length cI) ∧ w'.cell? ⟨w.heap.size, 2, none⟩ = some (.slice aR refs.length cR) :=
      fun w' hh => ⟨(b1.below hh hlt1).cell 0 _ rfl, (b1.below hh hlt1).cell 1 _ rfl, (b1.below hh hlt1).cell 2 _ rfl⟩
    have hbA : Below w1.heap.size w1 (w1.alloc (.cells #[.int .i64 k] 3)).drew := ((Below.refl _ _).alloc (Nat.le_refl _) _).drew
    have hrA : ReadsI (w1.alloc (.cells #[.int .i64 k] 3)).drew (some ⟨w1.heap.size, 0, none⟩) [k] := (readsI_one w1 k _).below (Below.refl _ _).drew
    go_wp2_with fail
    go_region_held3 (fun w' => w'.cell? ⟨w.heap.size, 0, none⟩ = some (.int .i64 k) ∧ w'.cell? ⟨w.heap.size, 1, none⟩ = some (.slice aI ints.length cI) ∧ w'.cell? ⟨w.heap.size, 2, none⟩ = some (.slice aR refs.length cR))
      (first | exact hkeep _ ((Below.refl _ _).alloc (Nat.le_refl _) _).drew | exact hkeep _ ((Below.refl _ _).alloc (Nat.le_refl _) _) | exact hkeep _ hw4 | exact hkeep _ hw3 | exact hkeep _ hw2 | go_keep)
      (first
      | (go_at_call 16; refine (putInts_any none 0 [] _ _ [k] _ ⟨by simp, by simp⟩ (fun _ => rfl) hrA (by simp)).mono ?_; rintro e w2 ⟨a2, c2, y2, rfl, hy2, ho2, hb2⟩; have hw2 : Below w1.heap.size w1 w2 := hbA.trans (hb2.mono hbA.size); have HY2 : Hid (y2 = [] ++ putOf k) := (by rw [Hid, hy2]; simp); have hl2 : y2.length ≤ 65 := (by rw [HY2.out]; simp; omega); clear hy2)
      | (go_at_call_of 15 (Value.slice a2 y2.length c2); refine (putParts_any a2 c2 y2 aI cI ints w2 ho2.reads ho2.nocap (hI.below (hbw1.trans (hw2.mono hbw1.size))) (by omega) (by omega)).mono ?_; rintro e w3 ⟨a3, c3, y3, rfl, HY3, ho3, hb3⟩; have hw3 : Below w1.heap.size w1 w3 := hw2.trans (hb3.mono hw2.size); have hl3 : y3.length ≤ 1000 := (by have := HL2.out; rw [HY3.out, List.length_append]; omega))
      | (go_at_call_of 15 (Value.slice a3 y3.length c3); refine (putParts_any a3 c3 y3 aR cR refs w3 ho3.reads ho3.nocap (hR.below (hbw1.trans (hw3.mono hbw1.size))) (by omega) (by omega)).mono ?_; rintro e w4 ⟨a4, c4, y4, rfl, HY4, ho4, hb4⟩; have hw4 : Below w1.heap.size w1 w4 := hw3.trans (hb4.mono hw3.size)))
    go_wp2
    go_ret
    exact ⟨a4, c4, y4, rfl, by rw [Hid, HP.out, HY4.out, HY3.out, HY2.out]; simp, ho4.base (Nat.le_trans hbw1.size hw3.size), hbw1.trans (hw4.mono hbw1.size)⟩
  · have HP : Hid (_ = _) := HPF.out hB
    rw [hB]
    clear hB hok
    go_wp2
    go_ret
    exact ⟨_, 0, [], rfl, HP.out.symm, (own_lit0 w1).base hbw1.size, hbw1.alloc hbw1.size _⟩
end Go.Proofs.YtdibmepjbabnnabGreatDoor

/- No longer than its capacity; a beginning of what is owned. -/
namespace Go.Proofs.YtdibmepjbabnnabGreatDoor
open Go.RowKit

theorem OwnB.len_cap {w : World} {base : Nat} {a : Option Addr} {c : Nat} {ys : List Int} (h : OwnB w base a c ys) : ys.length ≤ c := by
  rcases h.2.2 with ⟨hv, h0⟩ | ⟨g, cap, cur, hv, _, _, hn, _⟩
  · omega
  · simp only [Value.slice.injEq] at hv
    omega

theorem own_prefix {w : World} {base : Nat} {a : Option Addr} {c : Nat} {ys : List Int} (h : OwnB w base a c ys) (k : Nat) : Reads w a (ys.take k) := by
  refine ⟨fun z hz => h.1 z (List.mem_of_mem_take hz), fun hne => ?_⟩
  have hy : ys ≠ [] := by intro e; simp [e] at hne
  obtain ⟨b, off, ha, hc⟩ := h.reads.2 hy
  refine ⟨b, off, ha, fun i hi => ?_⟩
  have hi2 : i < k ∧ i < ys.length := by simp at hi; omega
  rw [hc i hi2.2]
  have : (ys.take k).getD i 0 = ys.getD i 0 := by simp [List.getD, hi2.1]
  rw [this]

end Go.Proofs.YtdibmepjbabnnabGreatDoor

/- The walk of laws.big. -/
namespace Go.Proofs.YtdibmepjbabnnabGreatDoor
open Go.RowKit

set_option maxHeartbeats 400000 in
theorem big_any (a : Option Addr) (c n : Nat) (w : World) : Calls Tryz.prog 4 #[.slice a n c] w fun e w' => e = .returned (.bool (decide (1048576 < n))) ∧ w' = w := by
  by_cases h : 1048576 < n
  · have HB : Hid (decide (1048576 < n) = true) := decide_eq_true h
    go_enter Tryz.func4, Tryz.ntmps4
    go_wp2
    go_ret
    exact ⟨by rw [HB.out]; exact ret_bool (decide_eq_true (by omega)), rfl⟩
  · have HB : Hid (decide (1048576 < n) = false) := decide_eq_false h
    go_enter Tryz.func4, Tryz.ntmps4
    go_wp2
    go_ret
    exact ⟨by rw [HB.out]; exact ret_bool (decide_eq_false (by omega)), rfl⟩

end Go.Proofs.YtdibmepjbabnnabGreatDoor

/- What came in, read: a slice of bytes. -/
namespace Go.Proofs.YtdibmepjbabnnabGreatDoor
open Go.ChangeShapes Go.WideShapes Go.ChangeAt Go.RowKit

section
variable {H : Type} {enc : TypeId × Value → H} {w : World} {base : Nat} {spare : Nat → Bool} {held : Bool}

theorem trod_bytes {fuel : Nat} {cs : List Value} {x : DataW H × List MemPlace} (h : DataW.trod enc Tryz.prog w base spare held fuel 22 cs = some x) :
    ∃ (a : Option Addr) (c : Nat) (ns : List Int), cs = [.slice a ns.length c] ∧ Reads w a ns ∧ (a = none → c = 0) ∧ ns.length ≤ maxLen := by
  rcases open_ints Tryz.underlying22 Tryz.underlying5 (by kernel_rfl) h with ⟨rfl, _⟩ | ⟨a, len, cap, zs, rfl, _, hl, hm, hz, _, hcell, hwf⟩
  · exact ⟨none, 0, [], rfl, ⟨by simp, by simp⟩, fun _ => rfl, by simp⟩
  · have hlz : len ≤ zs.length := by rw [hz]; split <;> omega
    refine ⟨some a, cap, zs.take len, by simp; omega, ⟨fun z hzz => ?_, ?_⟩, (fun h => by cases h), by simp; omega⟩
    · have := hwf z (List.mem_of_mem_take hzz)
      simp [Lit.wf, IntKind.min, IntKind.max, IntKind.signed, IntKind.bits] at this
      omega
    · intro hne
      have hpos := List.length_pos_iff.2 hne
      simp at hpos
      obtain ⟨b, off, spot⟩ := a
      have hc0 := hcell 0 (by omega)
      have hspot : spot = none := by simpa [Addr.add] using World.cell?_spot hc0
      subst hspot
      refine ⟨b, off, rfl, fun i hi => ?_⟩
      have hi' : i < len := by simp at hi; omega
      have := hcell i (by omega)
      have e : (List.take len zs).getD i 0 = zs.getD i 0 := by simp [List.getD, hi']
      rw [e, ← Addr_add]
      exact this

set_option maxRecDepth 100000 in
/-- A slice of bytes that came in as an argument. -/
theorem open_bytes {b0 : Nat} {v : Value} {d : DataW H} {ps : List MemPlace} (hval : Value.okWide Tryz.prog w .any b0 22 v) (h : DataW.Trod enc Tryz.prog w base spare held 22 v d ps) :
    ∃ (a : Option Addr) (c : Nat) (ns : List Int), v = .slice a ns.length c ∧ Reads w a ns ∧ (a = none → c = 0) ∧ ns.length ≤ maxLen := by
  obtain ⟨a, len, cap, hv⟩ := okWide_slice (e := 5) Tryz.underlying22 hval
  subst hv
  obtain ⟨fuel, hf⟩ := h
  have e : (Value.slice a len cap).cells.toList = [Value.slice a len cap] := rfl
  rw [e] at hf
  obtain ⟨a', c', ns, hc, rest⟩ := trod_bytes hf
  simp only [List.cons.injEq, and_true] at hc
  exact ⟨a', c', ns, hc, rest⟩
end
end Go.Proofs.YtdibmepjbabnnabGreatDoor

/- The walk of laws.FnObjects. -/
namespace Go.Proofs.YtdibmepjbabnnabGreatDoor
open Go.RowKit

set_option maxHeartbeats 4000000 in
set_option maxRecDepth 100000 in
theorem lawObjects_walk (a : Option Addr) (cap : Nat) (zs : List Int) (w : World) (he : EnvP w) (hr : Reads w a zs) :
    Calls Tryz.prog 3 #[.slice a zs.length cap] w fun e w' => e = .returned (.bool true) ∧ Below w.heap.size w w' := by
  by_cases hbig : 1048576 < zs.length
  · have hd : decide (1048576 < zs.length) = true := decide_eq_true hbig
    go_enter Tryz.func3, Tryz.ntmps3
    go_wp2_with (go_at_call 4; refine (big_any _ _ _ _).mono ?_; rintro e w' ⟨rfl, rfl⟩)
    go_ret
    exact ⟨rfl, Below.refl _ _⟩
  have hd : decide (1048576 < zs.length) = false := decide_eq_false hbig
  go_enter Tryz.func3, Tryz.ntmps3
  go_wp2_with fail
  refine (big_any _ _ _ _).mono ?_
  rintro e w0 ⟨rfl, rfl⟩
  go_wp2_with fail
  refine (drawPutObj_any a cap zs w0 hr (by omega)).mono ?_
  rintro e w1 ⟨aI, cI, aR, cR, o, rfl, hlI, hlR, ho1, hb1⟩
  obtain ⟨W2, hW2, b2, hbW2, hsW2⟩ := boxes1 w1 [.int .i64 o.kind, .slice aI o.ints.length cI, .slice aR o.refs.length cR] 26
  have B2 : Below w0.heap.size w0 W2 := hb1.trans (hbW2.mono hb1.size)
  have ho2 := ho1.below hbW2
  have hs1 := hb1.size
  have hs2 := hbW2.size
  clear hsW2 hb1 hbW2 ho1 hd hbig
  go_wp2_with fail
  rw [hW2.out]
  clear hW2
  refine (implPutObj_any o aI cI aR cR W2 (he.keep B2).text.err ho2.reads (by omega) (by omega)).mono ?_
  rintro e w3 ⟨a3, c3, ys, rfl, hys, hob3, hb3⟩
  have B3 : Below w0.heap.size w0 w3 := B2.trans (hb3.mono B2.size)
  have b3 := b2.below hb3 b2.lt
  have ho3 := ho2.below hb3
  have hs3 := hb3.size
  clear b2 ho2 hb3 B2
  obtain ⟨x0, x1, x2, _, _, _⟩ := b3.three
  have HT0 : Hid (okB o = false → strOf (textObjOf o) = ⟨#[]⟩) := text_none
  have HT1 : Hid (okB o = true → parsePair (sBytes (strOf (textObjOf o))) = (o, true) ∧ (strOf (textObjOf o)).size ≤ 1000) := fun h => by rw [text_some h]; exact ⟨text_pair h, text_len h⟩
  have htx := implObjText_any o aI cI aR cR w3 (he.keep B3).text ho3.reads (by omega) (by omega)
  generalize strOf (textObjOf o) = T at *
  go_wp2_with fail
  refine htx.mono ?_
  clear htx
  rintro e w4 ⟨rfl, hb4⟩
  have B4 : Below w0.heap.size w0 w4 := B3.trans (hb4.mono B3.size)
  have b4 := b3.below hb4 b3.lt
  have ho4 := ho3.below hb4
  have hob4 := hob3.below hb4
  have hs4 := hb4.size
  clear b3 ho3 hob3 hb4 B3 x0 x1 x2
  obtain ⟨x0, x1, x2, _, _, _⟩ := b4.three
  go_wp2_with fail
  refine (specObjOk_any o aI cI aR cR w4 ho4.reads (by omega) (by omega)).mono ?_
  rintro e w5 ⟨rfl, hb5⟩
  have B5 : Below w0.heap.size w0 w5 := B4.trans (hb5.mono B4.size)
  have b5 := b4.below hb5 b4.lt
  have ho5 := ho4.below hb5
  have hob5 := hob4.below hb5
  have hs5 := hb5.size
  clear b4 ho4 hob4 hb5 B4 x0 x1 x2
  obtain ⟨x0, x1, x2, _, _, _⟩ := b5.three
  have hok9 := fun w' (g : ErrT w') (h : ReadsO w' aI cI aR cR o) => implObjOk_any o aI cI aR cR w' g h (by omega) (by omega)
  cases hok : okB o with
  | false =>
    obtain rfl : ys = [] := by rw [hys.out, put_none hok]
    obtain rfl := HT0.out hok
    rw [hok] at hok9
    clear HT0 HT1 hys
    go_wp2_with fail
    refine (hok9 w5 (he.keep B5).text.err ho5.reads).mono ?_
    clear hok9
    rintro e w6 ⟨rfl, hb6⟩
    go_wp2
    go_ret
    exact ⟨rfl, B5.trans (hb6.mono B5.size)⟩
  | true =>
    obtain ⟨HP, hTl⟩ := HT1.out hok
    have HPP : Hid (_ = _) := HP
    have HB1 : Hid (getPair ys = (o, true)) := by rw [Hid, hys.out]; exact pair_back hok
    have HB2 : Hid (getPair (ys.take (ys.length - 1)) = (noO, false)) := by rw [Hid, hys.out]; exact pair_cut hok
    have hyp : 0 < ys.length := by rw [hys.out]; exact put_pos hok
    have hyl : ys.length ≤ 1000 := by rw [hys.out]; exact put_len_le o
    rw [hok] at hok9
    clear HT0 HT1 hys HP
    go_wp2_with fail
    refine (implGetObj_any a3 c3 ys w5 (he.keep B5).text.err hob5.reads (by omega) hob5.len_cap).mono ?_
    rintro e w6 ⟨pI, dI, pR, dR, o6, k6, rfl, HG, ho6, hb6⟩
    obtain ⟨e6, rfl⟩ : o = o6 ∧ true = k6 := by have h := HG.out; rw [HB1.out] at h; exact Prod.mk.inj h
    subst e6
    have B6 : Below w0.heap.size w0 w6 := B5.trans (hb6.mono B5.size)
    have b6 := b5.below hb6 b5.lt
    have hoo6 := ho5.below hb6
    have hob6 := hob5.below hb6
    have hs6 := hb6.size
    clear HG HB1 b5 ho5 hob5 hb6 B5 x0 x1 x2
    obtain ⟨W7, hW7, n7, hbW7, hsW7⟩ := boxes1 w6 [.int .i64 o.kind, .slice pI o.ints.length dI, .slice pR o.refs.length dR] 26
    have B7 : Below w0.heap.size w0 W7 := B6.trans (hbW7.mono B6.size)
    have b7 := b6.below hbW7 b6.lt
    have hoo7 := hoo6.below hbW7
    have hob7 := hob6.below hbW7
    have hx7 := ho6.below hbW7
    have hs7 := hbW7.size
    clear b6 hoo6 hob6 ho6 hbW7 B6 hsW7
    go_wp2_with fail
    rw [hW7.out]
    clear hW7
    refine (implParseObj_any T W7 (he.keep B7) (by omega)).mono ?_
    rintro e w8 ⟨qI, fI, qR, fR, o8, k8, rfl, HG, ho8, hb8⟩
    obtain ⟨e8, rfl⟩ : o = o8 ∧ true = k8 := by have h := HG.out; rw [HPP.out] at h; exact Prod.mk.inj h
    subst e8
    have B8 : Below w0.heap.size w0 w8 := B7.trans (hb8.mono B7.size)
    have b8 := b7.below hb8 b7.lt
    have n8 := n7.below hb8 n7.lt
    have hoo8 := hoo7.below hb8
    have hob8 := hob7.below hb8
    have hx8 := hx7.below hb8
    have hs8 := hb8.size
    clear HG HPP b7 n7 hoo7 hob7 hx7 hb8 B7
    obtain ⟨W9, hW9, m9, hbW9, hsW9⟩ := boxes1 w8 [.int .i64 o.kind, .slice qI o.ints.length fI, .slice qR o.refs.length fR] 26
    have B9 : Below w0.heap.size w0 W9 := B8.trans (hbW9.mono B8.size)
    have b9 := b8.below hbW9 b8.lt
    have n9 := n8.below hbW9 n8.lt
    have hoo9 := hoo8.below hbW9
    have hob9 := hob8.below hbW9
    have hx9 := hx8.below hbW9
    have hy9 := ho8.below hbW9
    have hs9 := hbW9.size
    clear b8 n8 hoo8 hob8 hx8 ho8 hbW9 B8 hsW9
    obtain ⟨m, hm⟩ : ∃ m, ys.length = m + 1 := ⟨ys.length - 1, by omega⟩
    have htl : (ys.take m).length = m := by simp; omega
    have hcl := hob9.len_cap
    have hun := implGetObj_any a3 c3 (ys.take m) W9 (he.keep B9).text.err (own_prefix hob9 m) (by omega) (by omega)
    rw [htl] at hun
    rw [show ys.length - 1 = m by omega] at HB2
    rw [hm] at hcl ⊢
    have hmi : (m : Int) + 1 - 1 = (m : Int) := by omega
    have hml : m ≤ 1000 := by omega
    clear htl hyp hyl
    go_wp2_with fail
    rw [hW9.out]
    clear hW9
    refine hun.mono ?_
    clear hun
    rintro e w10 ⟨rI, gI, rR, gR, o10, k10, rfl, HG, ho10, hb10⟩
    obtain ⟨e10, rfl⟩ : noO = o10 ∧ false = k10 := by have h := HG.out; rw [HB2.out] at h; exact Prod.mk.inj h
    subst e10
    have B10 : Below w0.heap.size w0 w10 := B9.trans (hb10.mono B9.size)
    have b10 := b9.below hb10 b9.lt
    have n10 := n9.below hb10 n9.lt
    have m10 := m9.below hb10 m9.lt
    have hoo10 := hoo9.below hb10
    have hx10 := hx9.below hb10
    have hy10 := hy9.below hb10
    have hs10 := hb10.size
    clear HG HB2 b9 n9 m9 hoo9 hob9 hx9 hy9 ho10 hb10 B9
    obtain ⟨W11, hW11, _, hbW11, hsW11⟩ := boxes1 w10 [.int .i64 noO.kind, .slice rI noO.ints.length gI, .slice rR noO.refs.length gR] 26
    have B11 : Below w0.heap.size w0 W11 := B10.trans (hbW11.mono B10.size)
    have b11 := b10.below hbW11 b10.lt
    have n11 := n10.below hbW11 n10.lt
    have m11 := m10.below hbW11 m10.lt
    have hoo11 := hoo10.below hbW11
    have hx11 := hx10.below hbW11
    have hy11 := hy10.below hbW11
    clear b10 n10 m10 hoo10 hx10 hy10 hbW11 B10 hsW11
    have hcells : ∀ w'', Below W11.heap.size W11 w'' → (w''.cell? ⟨w1.heap.size, 0, none⟩ = some (.int .i64 o.kind) ∧ w''.cell? ⟨w1.heap.size, 1, none⟩ = some (.slice aI o.ints.length cI) ∧ w''.cell? ⟨w1.heap.size, 2, none⟩ = some (.slice aR o.refs.length cR)) ∧ (w''.cell? ⟨w6.heap.size, 0, none⟩ = some (.int .i64 o.kind) ∧ w''.cell? ⟨w6.heap.size, 1, none⟩ = some (.slice pI o.ints.length dI) ∧ w''.cell? ⟨w6.heap.size, 2, none⟩ = some (.slice pR o.refs.length dR)) ∧ (w''.cell? ⟨w8.heap.size, 0, none⟩ = some (.int .i64 o.kind) ∧ w''.cell? ⟨w8.heap.size, 1, none⟩ = some (.slice qI o.ints.length fI) ∧ w''.cell? ⟨w8.heap.size, 2, none⟩ = some (.slice qR o.refs.length fR)) := by
      intro w'' hh
      have b := b11.below hh b11.lt
      have n := n11.below hh n11.lt
      have m := m11.below hh m11.lt
      exact ⟨⟨b.cell 0 _ rfl, b.cell 1 _ rfl, b.cell 2 _ rfl⟩, ⟨n.cell 0 _ rfl, n.cell 1 _ rfl, n.cell 2 _ rfl⟩, ⟨m.cell 0 _ rfl, m.cell 1 _ rfl, m.cell 2 _ rfl⟩⟩
    have HS : Hid (sameO o o = true) := sameO_refl o
    have HC : Hid _ := hcells
    clear hcells b11 n11 m11
    obtain ⟨⟨x0, x1, x2⟩, ⟨y0, y1, y2⟩, ⟨z0, z1, z2⟩⟩ := HC.out W11 (Below.refl _ _)
    have hw11 : w10.alloc (.cells #[.int .i64 noO.kind, .slice rI noO.ints.length gI, .slice rR noO.refs.length gR] 26) = W11 := hW11.out
    go_wp2_with fail
    clear hw11 hW11
    refine (implSameObj_any o o pI dI pR dR aI cI aR cR W11 hx11.reads hoo11.reads (by omega) (by omega) (by omega) (by omega)).mono ?_
    rintro e w12 ⟨rfl, hb12⟩
    rw [HS.out]
    have hx12 := hx11.below hb12
    have hoo12 := hoo11.below hb12
    have hy12 := hy11.below hb12
    have hs12 := hb12.size
    clear x0 x1 x2 y0 y1 y2 z0 z1 z2
    obtain ⟨⟨x0, x1, x2⟩, ⟨y0, y1, y2⟩, ⟨z0, z1, z2⟩⟩ := HC.out w12 hb12
    go_wp2_with fail
    refine (implSameObj_any o o qI fI qR fR aI cI aR cR w12 hy12.reads hoo12.reads (by omega) (by omega) (by omega) (by omega)).mono ?_
    rintro e w13 ⟨rfl, hb13⟩
    rw [HS.out]
    have BB : Below W11.heap.size W11 w13 := hb12.trans (hb13.mono hb12.size)
    have hoo13 := hoo12.below hb13
    have B13 : Below w0.heap.size w0 w13 := B11.trans (BB.mono B11.size)
    clear x0 x1 x2 y0 y1 y2 z0 z1 z2
    obtain ⟨⟨x0, x1, x2⟩, ⟨y0, y1, y2⟩, ⟨z0, z1, z2⟩⟩ := HC.out w13 BB
    clear hb12 hb13 BB
    go_wp2_with fail
    refine (hok9 w13 (he.keep B13).text.err hoo13.reads).mono ?_
    rintro e w14 ⟨rfl, hb14⟩
    go_wp2
    go_ret
    exact ⟨rfl, B13.trans (hb14.mono B13.size)⟩
end Go.Proofs.YtdibmepjbabnnabGreatDoor

/- What the row's condition on errors.errorType gives a walk; a world that meets it. -/
namespace Go.Proofs.YtdibmepjbabnnabGreatDoor
open Go.ChangeShapes Go.WideShapes Go.RowKit

theorem Tryz.et : Tryz.prog.globalNamed "errors.errorType" = some 0 := by kernel_rfl
theorem Tryz.rt : (Tryz.prog.cutTypes.find? (·.1 == "internal/reflectlite.rtype")).map (·.2) = some 111 := by kernel_rfl
theorem Tryz.oneRow : ((List.range 196).filter fun t => Tryz.prog.rowNamed t [101, 114, 114, 111, 114]) = [45] := by kernel_rfl
theorem Tryz.typesSize : Tryz.prog.types.size = 196 := by kernel_rfl

theorem errT_of_handles {W : World} {laid : List (String × DataW Unit)} (hm : ("errors.errorType", Rows.laid_errors_errorType) ∈ laid) (h : handlesMet Tryz.prog laid W) : ErrT W := by
  obtain ⟨name, u, ty, e1, e2, e3, e4, e5⟩ := h _ hm
  have en : name = [101, 114, 114, 111, 114] := (Option.some.inj e1).symm
  subst en
  obtain rfl := Option.some.inj (Tryz.rt.symm.trans e2)
  have hm : ty ∈ (List.range 196).filter fun t => Tryz.prog.rowNamed t [101, 114, 114, 111, 114] := List.mem_filter.2 ⟨List.mem_range.2 (by rw [← Tryz.typesSize]; exact e3), e4⟩
  rw [Tryz.oneRow] at hm
  obtain rfl := List.mem_singleton.1 hm
  have hh : typeHandle Tryz.prog 45 = .pointer (some ⟨9, 45, none⟩) := by kernel_rfl
  rw [hh] at e5
  unfold ErrT
  simpa using World.var?_cell Tryz.et e5 0

/-- The one listed variable. -/
def laid1 : List (String × DataW Unit) := [("errors.errorType", Rows.laid_errors_errorType)]
theorem errT_of_laid1 {W : World} (h : laidMetH Tryz.prog laid1 W) : ErrT W := by
  have h' : laidMet Tryz.prog [] W ∧ handlesMet Tryz.prog laid1 W := h
  exact errT_of_handles (List.mem_singleton.2 rfl) h'.2
end Go.Proofs.YtdibmepjbabnnabGreatDoor
