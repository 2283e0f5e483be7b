/- Several texts in one, in their order. -/
import Derived.Test.YtjaojcgfgkppgaaDoorPiece4
import Derived.Deep.RegionHeld3
import Derived.Deep.RegionLaw
import Derived.Deep.DrawnRows
/- The walk of spec.l2Copy. -/
namespace Go.Proofs.YtjaojcgfgkppgaaDoor
open Go.RowKit

theorem blA {W w' : World} (h : Below W.heap.size W w') (o : Obj) : Below W.heap.size W (w'.alloc o) := h.alloc h.size o
theorem blG {W w' w2 : World} {g : Nat} (h : Below W.heap.size W w') (hg : w'.grownBy w2 (some g)) (hn : W.heap.size ≤ g) : Below W.heap.size W w2 := h.grown hg h.size (fun k e => by cases e; exact hn)
theorem ownI_box0 {w : World} {g lo : Nat} (h : Box w g [] 3) (hlo : lo ≤ g) : OwnI w lo w.heap.size (some ⟨g, 0, none⟩) 0 [] :=
  ⟨⟨by simp, .inr ⟨g, 0, #[], rfl, hlo, h, Nat.le_refl _, by simp [maxLen], rfl, rfl⟩⟩, Nat.le_refl _, fun k hk => by cases hk; exact h.lt⟩

set_option maxHeartbeats 4000000 in
set_option maxRecDepth 100000 in
theorem l2Copy_any (o : ObjV) (aI : Option Addr) (cI : Nat) (aR : Option Addr) (cR : Nat) (w : World) (hr : ReadsO w aI cI aR cR o) (hlI : o.ints.length ≤ 1099511627776) (hlR : o.refs.length ≤ 1099511627776) :
    Calls Tryd.prog 112 #[.agg #[.int .i64 o.kind, .slice aI o.ints.length cI, .slice aR o.refs.length cR]] w fun e w' => ∃ aI' cI' aR' cR', e = .returned (.agg #[.int .i64 o.kind, .slice aI' o.ints.length cI', .slice aR' o.refs.length cR']) ∧
      OwnO w' w.heap.size w'.heap.size aI' cI' aR' cR' o ∧ Below w.heap.size w w' := by
  obtain ⟨k, ints, refs⟩ := o
  obtain ⟨hI, hR, hni, hnr⟩ := hr
  simp only at *
  obtain ⟨W, hW, b0, b1, hbW, hsW⟩ := boxes2 w [.int .i64 k, .slice aI ints.length cI, .slice aR refs.length cR] [.int .i64 0, .slice none 0 0, .slice none 0 0] 26 26
  have hI' := hI.below hbW
  have hR' := hR.below hbW
  have hwW : w.heap.size + 1 < W.heap.size := by omega
  clear hsW hI hR
  go_enter Tryd.func112, Tryd.ntmps112
  go_wp2_with fail
  rw [hW.out]
  clear hW
  have hkeep : ∀ w'', Below W.heap.size W w'' → Box w'' w.heap.size [.int .i64 k, .slice aI ints.length cI, .slice aR refs.length cR] 26 ∧ Box w'' (w.heap.size + 1) [.int .i64 0, .slice none 0 0, .slice none 0 0] 26 :=
    fun w'' hh => ⟨b0.below hh b0.lt, b1.below hh b1.lt⟩
  have hcells : ∀ w'', Below W.heap.size W w'' → (w''.cell? ⟨w.heap.size, 0, none⟩ = some (.int .i64 k) ∧ w''.cell? ⟨w.heap.size, 1, none⟩ = some (.slice aI ints.length cI) ∧ w''.cell? ⟨w.heap.size, 2, none⟩ = some (.slice aR refs.length cR)) ∧ (w''.cell? ⟨w.heap.size + 1, 0, none⟩ = some (.int .i64 0) ∧ w''.cell? ⟨w.heap.size + 1, 1, none⟩ = some (.slice none 0 0) ∧ w''.cell? ⟨w.heap.size + 1, 2, none⟩ = some (.slice none 0 0)) ∧ (w''.frozen? ⟨w.heap.size + 1, 0, none⟩ = false ∧ w''.frozen? ⟨w.heap.size + 1, 1, none⟩ = false ∧ w''.frozen? ⟨w.heap.size + 1, 2, none⟩ = false) := by
    intro w'' hh
    obtain ⟨ba, bb⟩ := hkeep w'' hh
    exact ⟨⟨ba.cell 0 _ rfl, ba.cell 1 _ rfl, ba.cell 2 _ rfl⟩, ⟨bb.cell 0 _ rfl, bb.cell 1 _ rfl, bb.cell 2 _ rfl⟩, bb.frozen 0, bb.frozen 1, bb.frozen 2⟩
  have hh := hcells W (Below.refl _ _)
  have q1 : Box (W.drew.alloc (.cells #[] 3)) W.heap.size [] 3 := box_new W.drew [] _
  have q2a : Box ((W.drew.alloc (.cells #[] 3)).alloc (.cells #[] 3)) W.heap.size [] 3 := (box_new W.drew [] _).alloc _
  have q2b : Box ((W.drew.alloc (.cells #[] 3)).alloc (.cells #[] 3)) (W.heap.size + 1) [] 3 := by
    have := box_new (W.drew.alloc (.cells #[] 3)) [] 3
    simpa using this
  have Q1 : Hid (_ ∧ _ ∧ _) := ⟨q1, q2a, q2b⟩
  clear q1 q2a q2b
  have HK : Hid _ := hkeep
  have HC : Hid _ := hcells
  have hne : ¬ (w.heap.size = w.heap.size + 1) := by omega
  have HNI : Hid _ := hni
  have HNR : Hid _ := hnr
  clear hkeep hcells b0 b1 hni hnr
  go_region_held3 (fun w'' => w''.cell? ⟨w.heap.size, 0, none⟩ = some (.int .i64 k) ∧ w''.cell? ⟨w.heap.size, 1, none⟩ = some (.slice aI ints.length cI) ∧ w''.cell? ⟨w.heap.size, 2, none⟩ = some (.slice aR refs.length cR))
    (first | exact (HC.out _ (by first | exact hb2 | exact hb1 | exact blA hb2 _ | exact blA hb1 _ | exact (Below.refl _ _).drew | exact blA (Below.refl _ _).drew _ | exact blA (blA (Below.refl _ _).drew _) _ | fail)).1 | exact ⟨((((HK.out _ (by first | exact hb2 | exact hb1 | fail)).1.other hne).other hne).other hne).cell 0 _ rfl, ((((HK.out _ (by first | exact hb2 | exact hb1 | fail)).1.other hne).other hne).other hne).cell 1 _ rfl, ((((HK.out _ (by first | exact hb2 | exact hb1 | fail)).1.other hne).other hne).other hne).cell 2 _ rfl⟩ | go_keep | fail)
    ((first
      | (refine step_append_ints rfl (.tmp 5) (.tmp 7) (by rfl) (w.heap.size + 1 + 1) _ _ _ [] (by rfl) (ownI_box0 (by first | exact Q1.out.1 | exact Q1.out.2.1 | exact Q1.out.2.2 | assumption | exact (Q1.out.2.2).grown hg1 (by dsimp only; omega) | exact (Q1.out.2.1).grown hg1 (by dsimp only; omega) | exact box_new _ [] _ | fail) (by first | omega | (have := hb1.size; omega))) aI cI ints (by rfl) (hI'.below (by first | exact hb2 | exact hb1 | exact blA hb2 _ | exact blA hb1 _ | exact (Below.refl _ _).drew | exact blA (Below.refl _ _).drew _ | exact blA (blA (Below.refl _ _).drew _) _ | fail)) HNI.out (by simp only [List.length_nil]; omega) (Nat.le_trans (by omega) (Below.size (B := W.heap.size) (w := W) (by first | exact hb2 | exact hb1 | exact blA hb2 _ | exact blA hb1 _ | exact (Below.refl _ _).drew | exact blA (Below.refl _ _).drew _ | exact blA (blA (Below.refl _ _).drew _) _ | fail))) ?_; intro a1 c1 y1 u1 hy1 hO1 hg1 hat1; have HA1 : Hid _ := hat1; clear hat1; have hyy : ints = y1 := (by simpa using hy1.out.symm); subst hyy; have hb1 := blG (W := W) (by first | exact hb2 | exact hb1 | exact blA hb2 _ | exact blA hb1 _ | exact (Below.refl _ _).drew | exact blA (Below.refl _ _).drew _ | exact blA (blA (Below.refl _ _).drew _) _ | fail) hg1 (by dsimp only; omega))
      | (refine step_append_ints rfl (.tmp 9) (.tmp 11) (by rfl) (w.heap.size + 1 + 1) _ _ _ [] (by rfl) (ownI_box0 (by first | exact Q1.out.1 | exact Q1.out.2.1 | exact Q1.out.2.2 | assumption | exact (Q1.out.2.2).grown hg1 (by dsimp only; omega) | exact (Q1.out.2.1).grown hg1 (by dsimp only; omega) | exact box_new _ [] _ | fail) (by first | omega | (have := hb1.size; omega))) aR cR refs (by rfl) (hR'.below (by first | exact hb2 | exact hb1 | exact blA hb2 _ | exact blA hb1 _ | exact (Below.refl _ _).drew | exact blA (Below.refl _ _).drew _ | exact blA (blA (Below.refl _ _).drew _) _ | fail)) HNR.out (by simp only [List.length_nil]; omega) (Nat.le_trans (by omega) (Below.size (B := W.heap.size) (w := W) (by first | exact hb2 | exact hb1 | exact blA hb2 _ | exact blA hb1 _ | exact (Below.refl _ _).drew | exact blA (Below.refl _ _).drew _ | exact blA (blA (Below.refl _ _).drew _) _ | fail))) ?_; intro a2 c2 y2 u2 hy2 hO2 hg2 hat2; have HA2 : Hid _ := hat2; clear hat2; have hyy : refs = y2 := (by simpa using hy2.out.symm); subst hyy; have hb2 := blG (W := W) (by first | exact hb2 | exact hb1 | exact blA hb2 _ | exact blA hb1 _ | exact (Below.refl _ _).drew | exact blA (Below.refl _ _).drew _ | exact blA (blA (Below.refl _ _).drew _) _ | fail) hg2 (by dsimp only; first | omega | (have := hb1.size; omega)); obtain ⟨⟨m0, m1, m2⟩, ⟨n0, n1, n2⟩, e0, e1, e2⟩ := HC.out _ hb2) | fail))
  all_goals
    have hO1' : OwnI u2 (w.heap.size + 1 + 1) u2.heap.size a1 c1 ints := by
      first
      | exact (hO1.kept hg2 (fun k hk e => by have h1 := HA1.out k hk; have h2 := (hO1.lt k hk).2; simp [Value.ownBlock] at h1 e; omega)).widen (Nat.le_refl _) hg2.size (Nat.le_refl _)
      | exact ((hO1.below ((Below.refl _ _).alloc (Nat.le_refl _) _)).kept hg2 (fun k hk e => by have h2 := (hO1.lt k hk).2; simp [Value.ownBlock] at e; omega)).widen (Nat.le_refl _) (Nat.le_trans (by simp) hg2.size) (Nat.le_refl _)
      | fail
    have hap : ∀ k, (Value.slice a1 ints.length c1).ownBlock = some k → (Value.slice a2 refs.length c2).ownBlock ≠ some k := by
      intro k hk hk'
      have h1 := HA1.out k hk
      have h2 := HA2.out k hk'
      have h3 := (hO1.lt k hk).2
      simp [Value.ownBlock] at h1 h2
      omega
    obtain ⟨WF, hWF, bF, hwF, hsF⟩ := box3_fill (HK.out _ hb2).2 (.int .i64 k) (.slice a1 ints.length c1) (.slice a2 refs.length c2)
    clear HA1 HA2 hg1 hg2 Q1 hb1 hO1
    rw [hWF.out]
    go_wp2
    obtain ⟨q0, q1, q2, _, _, _⟩ := bF.three
    have hs2 := hb2.size
    have hOF : OwnO WF (w.heap.size + 1 + 1) u2.heap.size a1 c1 a2 c2 ⟨k, ints, refs⟩ := (⟨hO1', hO2, hap⟩ : OwnO u2 (w.heap.size + 1 + 1) u2.heap.size a1 c1 a2 c2 ⟨k, ints, refs⟩).within hwF (.inr (by omega))
    exact bodyPost_ret (v := .agg #[.int .i64 k, .slice a1 ints.length c1, .slice a2 refs.length c2]) (by simp [results, Tryd.results112, go_sem, q0, q1, q2]) rfl ⟨a1, c1, a2, c2, rfl, hOF.widen (by omega) (by omega) (Nat.le_refl _), (hbW.trans (hb2.mono (by omega))).trans (hwF.below (by omega) (by omega))⟩
end Go.Proofs.YtjaojcgfgkppgaaDoor

/- The walk of spec.l2Bend. -/
namespace Go.Proofs.YtjaojcgfgkppgaaDoor
open Go.RowKit
attribute [local go_sem ↓] Go.wp_at_zero Go.wp_at_succ

theorem ownI_make (w : World) (ns : List Int) (lo : Nat) (hlo : lo ≤ w.heap.size) (hm : ns.length ≤ 1000) : OwnI (w.alloc (.cells (ns.map (Value.int .i64)).toArray 3)) lo (w.alloc (.cells (ns.map (Value.int .i64)).toArray 3)).heap.size (some ⟨w.heap.size, 0, none⟩) ns.length ns := by
  have := World.ownsRow_lit (base := lo) (e := 3) (size := 1) w (ns.map (Value.int .i64)).toArray ns.length hlo (by simp only [maxLen]; omega) (by simp)
  exact ⟨by simpa using this, Nat.le_refl _, fun k hk => by cases hk; simp⟩

set_option maxHeartbeats 4000000 in
set_option maxRecDepth 100000 in
theorem l2Bend_any (B : Nat) (zs : List Int) (o : ObjV) (aI : Option Addr) (cI : Nat) (aR : Option Addr) (cR : Nat) (w : World) (hc : CurAt w B zs) (hl : zs.length ≤ 70368744177664) (hr : ReadsO w aI cI aR cR o) (hlI : o.ints.length ≤ 3) (hlR : o.refs.length ≤ 3) :
    Calls Tryd.prog 89 #[.pointer (some ⟨B, 0, none⟩), .agg #[.int .i64 o.kind, .slice aI o.ints.length cI, .slice aR o.refs.length cR]] w fun e w' => ∃ aI cI aR cR o, e = .returned (.agg #[.int .i64 o.kind, .slice aI o.ints.length cI, .slice aR o.refs.length cR]) ∧ o.ints.length ≤ 7 ∧ o.refs.length ≤ 7 ∧ OwnO w' w.heap.size w'.heap.size aI cI aR cR o ∧ CurAt w' B zs ∧ w.grownBy w' (some B) := by
  have hB := hc.lt
  obtain ⟨k, is, rs⟩ := o
  simp only at *
  obtain ⟨W, hW, b0, b1, hbW, hsW⟩ := boxes2 w [.int .i64 k, .slice aI is.length cI, .slice aR rs.length cR] [.int .i64 0, .slice none 0 0, .slice none 0 0] 26 26
  have hrW := hr.below hbW
  have hcW := hc.below hbW
  have hsW' : w.heap.size + 1 < W.heap.size := by omega
  clear hsW hr hc
  obtain ⟨_, z1, z2, _, _, _⟩ := b0.three
  have z0 := b0.three.1
  go_enter Tryd.func89, Tryd.ntmps89
  go_wp2_with fail
  rw [hW.out]
  clear hW z0 z1 z2
  refine (l2Copy_any ⟨k, is, rs⟩ aI cI aR cR W hrW (by simp only; omega) (by simp only; omega)).mono ?_
  rintro e w1 ⟨pI, dI, pR, dR, rfl, ho1, hb1⟩
  have hs1 := hb1.size
  have b01 := b0.below hb1 b0.lt
  have b11 := b1.below hb1 b1.lt
  obtain ⟨z0, z1, z2, f0, f1, f2⟩ := b01.three
  obtain ⟨W2, hW2, b02, hw2, hs2⟩ := box3_fill b01 (.int .i64 k) (.slice pI is.length dI) (.slice pR rs.length dR)
  have b12 : Box W2 (w.heap.size + 1) _ _ := b11.within hw2 (by omega)
  have ho2 : ObjAt W2 (w.heap.size + 1 + 1) w.heap.size ⟨k, is, rs⟩ pI dI pR dR := ⟨b02, ((ho1.within hw2 (.inr (by omega))).widen (by omega) (by omega) (Nat.le_refl _)), by omega⟩
  have hbT : Below w.heap.size w W2 := (hbW.trans (hb1.mono (by omega))).trans (hw2.below (by omega) (by omega))
  have hcT : CurAt W2 B zs := (hcW.below hb1).kept (row := some w.heap.size) ⟨hw2.os, hw2.tape, hw2.output, hw2.size, fun k hk hn => hw2.block k hk (fun h => hn (by rw [show k = w.heap.size by omega]))⟩ (fun k e => by cases e; exact hB)
  have hgT : w.grownBy W2 (some B) := ⟨hbT.os, hbT.tape, hbT.output, hbT.size, fun k hk _ => hbT.block k hk⟩
  have hsT : w.heap.size + 1 < W2.heap.size := by omega
  clear hs2 hw2 hbT hcW b01 b11 b02 b0 b1 ho1 hb1 hs1 hrW hbW hsW'
  go_wp2_with fail
  rw [hW2.out]
  clear hW2 z0 z1 z2 f0 f1 f2
  refine (l1Below_any B zs 5 W2 hcT hl (by omega)).mono ?_
  rintro e w3 ⟨x, rfl, hx, hcr, hg3⟩
  have hx5 : (x : Int) < 5 := hx (by omega)
  have hb := b12.grown hg3 (by omega)
  have ho := ho2.kept hg3 hB
  have hgr := grownBy_trans hgT hg3
  have hsz : w.heap.size + 1 < w3.heap.size := by have := hg3.size; omega
  clear hx hg3 b12 ho2 hcT hgT hsT
  have hxx : x = 0 ∨ x = 1 ∨ x = 2 ∨ x = 3 ∨ x = 4 := by omega
  rcases hxx with rfl | rfl | rfl | rfl | rfl
  · -- the kind
    clear hx5
    go_wp2_with fail
    refine (l1Int_any B zs _ _ [0, 99, 100, -1] _ (hcr.alloc _) hl (readsI_lit w3 _ _) (fun b off e => by cases e; omega) (by simp) (by simp)).mono ?_
    rintro e w4 ⟨j, hj, rfl, hc4, hg4⟩
    generalize List.getD _ j (0 : Int) = n
    have hg4' := grownBy_trans (World.grownBy_alloc w3 _ (some B)) hg4
    have ho4 := ho.kept hg4' hB
    have hb4 := hb.grown hg4' (by omega)
    have hgw4 := grownBy_trans hgr hg4'
    obtain ⟨c0, c1, c2, f0, _, _⟩ := ho4.three
    obtain ⟨W5, hW5, b5, hw5, hs5⟩ := box_set ho4.box 0 (.int .i64 n)
    simp only [List.set] at b5
    have hg5 : w4.grownBy W5 (some w.heap.size) := ⟨hw5.os, hw5.tape, hw5.output, hw5.size, fun k hk hn => hw5.block k hk (fun h => hn (by rw [show k = w.heap.size by omega]))⟩
    have ho5 : ObjAt W5 (w.heap.size + 1 + 1) w.heap.size ⟨n, is, rs⟩ pI dI pR dR := ⟨b5, ⟨(ho4.own.kept hg5 (by omega)).ints, (ho4.own.kept hg5 (by omega)).refs, ho4.own.apart⟩, by omega⟩
    have hb5 := hb4.grown hg5 (by omega)
    have hc5 := hc4.kept hg5 (fun k e => by cases e; exact hB)
    have hgw5 := grownBy_new hgw4 hg5 (fun k e => by cases e; exact Nat.le_refl _)
    obtain ⟨x0, x1, x2, g0, g1, g2⟩ := hb4.three
    obtain ⟨WF, hWF, bF, hwF, hsF⟩ := box3_fill hb5 (.int .i64 n) (.slice pI is.length dI) (.slice pR rs.length dR)
    clear ho hb hcr hgr ho4 hb4 hc4 hgw4 hg4 hg4' hg5 hw5 hj
    have ho := ho5
    have hcr := hc5
    have hgr := hgw5
    clear ho5 hb5 hc5 hgw5
    go_wp2
    rw [hW5.out, hWF.out]
    obtain ⟨q0, q1, q2, _, _, _⟩ := bF.three
    have hgF : W5.grownBy WF (some (w.heap.size + 1)) := ⟨hwF.os, hwF.tape, hwF.output, hwF.size, fun k hk hn => hwF.block k hk (fun h => hn (by rw [show k = w.heap.size + 1 by omega]))⟩
    exact bodyPost_ret (v := .agg #[.int .i64 n, .slice pI is.length dI, .slice pR rs.length dR]) (by simp [results, Tryd.results89, go_sem, q0, q1, q2]) rfl ⟨pI, dI, pR, dR, ⟨n, is, rs⟩, rfl, by simp only; omega, by simp only; omega, (ho.own.kept hgF (by omega)).widen (by omega) (Nat.le_refl _) (Nat.le_refl _), hcr.kept hgF (fun k e => by cases e; omega), grownBy_new hgr hgF (fun k e => by cases e; omega)⟩
  · -- one more of the is
    clear hx5
    obtain ⟨c0, c1, c2, _, _, _⟩ := ho.three
    have cA := fun ob => (ho.alloc ob).three.2.1
    go_wp2_with fail
    go_region_law ((first
      | (go_simp; go_at_call 88; refine (l1Int_any B zs _ _ [1000001, -1000001, 5] _ (hcr.drew.alloc _) hl (readsI_lit w3.drew _ _) (fun b off e => by cases e; show w3.heap.size ≠ B; omega) (by simp) (by simp)).mono ?_; rintro e u2 ⟨j, hj, rfl, hc2, hg2⟩; generalize List.getD _ j (0 : Int) = n; have hg2' := grownBy_trans (grownBy_trans (grown_drew w3 (some B)) (World.grownBy_alloc w3.drew _ (some B))) hg2; have ho2 := ho.kept hg2' hB; obtain ⟨_, d1, d2, _, _, _⟩ := ho2.three; have dA := fun ob => (ho2.alloc ob).three.2.1)
      | (refine step_append_ints rfl (.tmp 18) (.tmp 22) (by rfl) (w.heap.size + 1 + 1) _ pI dI is (by rfl) (ho2.alloc _).own.ints _ _ [n] (by rfl) (readsI_lit u2 [n] _) (by intro h; cases h) (by simp; omega) (by have := hg2'.size; simp; omega) ?_; intro a3 c3 y3 u3 hy3 ho3 hg3 hat3; obtain ⟨⟨d3, f3⟩, hO, hC, hG, hT⟩ := (ho2.alloc _).pushI (hc2.alloc _) hB (grownBy_new (grownBy_trans hgr hg2') (World.grownBy_alloc u2 _ none) (fun j e => by cases e)) (Nat.le_refl _) ho3 hg3 hat3) | fail))
    all_goals
      have hbF := ((hb.grown hg2' (by omega)).alloc _).block (hT (w.heap.size + 1) (by omega) (by omega) ((hb.grown hg2' (by omega)).alloc _).lt)
      have hyl : y3.length ≤ 4 := by have := congrArg List.length hy3.out; simp at this; omega
      clear hT hat3 hg3 ho3 dA d1 d2 cA c0 c1 c2 d3 f3 hc2 ho2 hg2' hg2 hcr hgr hb ho hy3
      generalize u3.setCell _ _ = wf at *
      have ho := hO
      have hb := hbF
      have hcr := hC
      have hgr := hG
      clear hO hbF hC hG
      obtain ⟨c0, c1, c2, _, _, _⟩ := ho.three
      obtain ⟨x0, x1, x2, g0, g1, g2⟩ := hb.three
      obtain ⟨WF, hWF, bF, hwF, hsF⟩ := box3_fill hb (.int .i64 k) (.slice a3 y3.length c3) (.slice pR rs.length dR)
      go_wp2
      rw [hWF.out]
      obtain ⟨q0, q1, q2, _, _, _⟩ := bF.three
      have hgF : wf.grownBy WF (some (w.heap.size + 1)) := ⟨hwF.os, hwF.tape, hwF.output, hwF.size, fun k hk hn => hwF.block k hk (fun h => hn (by rw [show k = w.heap.size + 1 by omega]))⟩
      exact bodyPost_ret (v := .agg #[.int .i64 k, .slice a3 y3.length c3, .slice pR rs.length dR]) (by simp [results, Tryd.results89, go_sem, q0, q1, q2]) rfl ⟨a3, c3, pR, dR, ⟨k, y3, rs⟩, rfl, by simp only; omega, by simp only; omega, (ho.own.kept hgF (by omega)).widen (by omega) (Nat.le_refl _) (Nat.le_refl _), hcr.kept hgF (fun k e => by cases e; omega), grownBy_new hgr hgF (fun k e => by cases e; omega)⟩
  · -- one more of the rs
    clear hx5
    obtain ⟨c0, c1, c2, _, _, _⟩ := ho.three
    have cA := fun ob => (ho.alloc ob).three.2.2.1
    go_wp2_with fail
    go_region_law ((first
      | (go_simp; go_at_call 88; refine (l1Int_any B zs _ _ [32, -1, 5] _ (hcr.drew.alloc _) hl (readsI_lit w3.drew _ _) (fun b off e => by cases e; show w3.heap.size ≠ B; omega) (by simp) (by simp)).mono ?_; rintro e u2 ⟨j, hj, rfl, hc2, hg2⟩; generalize List.getD _ j (0 : Int) = n; have hg2' := grownBy_trans (grownBy_trans (grown_drew w3 (some B)) (World.grownBy_alloc w3.drew _ (some B))) hg2; have ho2 := ho.kept hg2' hB; obtain ⟨_, d1, d2, _, _, _⟩ := ho2.three; have dA := fun ob => (ho2.alloc ob).three.2.2.1)
      | (refine step_append_ints rfl (.tmp 28) (.tmp 32) (by rfl) (w.heap.size + 1 + 1) _ pR dR rs (by rfl) (ho2.alloc _).own.refs _ _ [n] (by rfl) (readsI_lit u2 [n] _) (by intro h; cases h) (by simp; omega) (by have := hg2'.size; simp; omega) ?_; intro a3 c3 y3 u3 hy3 ho3 hg3 hat3; obtain ⟨⟨d3, f3⟩, hO, hC, hG, hT⟩ := (ho2.alloc _).pushR (hc2.alloc _) hB (grownBy_new (grownBy_trans hgr hg2') (World.grownBy_alloc u2 _ none) (fun j e => by cases e)) (Nat.le_refl _) ho3 hg3 hat3) | fail))
    all_goals
      have hbF := ((hb.grown hg2' (by omega)).alloc _).block (hT (w.heap.size + 1) (by omega) (by omega) ((hb.grown hg2' (by omega)).alloc _).lt)
      have hyl : y3.length ≤ 4 := by have := congrArg List.length hy3.out; simp at this; omega
      clear hT hat3 hg3 ho3 dA d1 d2 cA c0 c1 c2 d3 f3 hc2 ho2 hg2' hg2 hcr hgr hb ho hy3
      generalize u3.setCell _ _ = wf at *
      have ho := hO
      have hb := hbF
      have hcr := hC
      have hgr := hG
      clear hO hbF hC hG
      obtain ⟨c0, c1, c2, _, _, _⟩ := ho.three
      obtain ⟨x0, x1, x2, g0, g1, g2⟩ := hb.three
      obtain ⟨WF, hWF, bF, hwF, hsF⟩ := box3_fill hb (.int .i64 k) (.slice pI is.length dI) (.slice a3 y3.length c3)
      go_wp2
      rw [hWF.out]
      obtain ⟨q0, q1, q2, _, _, _⟩ := bF.three
      have hgF : wf.grownBy WF (some (w.heap.size + 1)) := ⟨hwF.os, hwF.tape, hwF.output, hwF.size, fun k hk hn => hwF.block k hk (fun h => hn (by rw [show k = w.heap.size + 1 by omega]))⟩
      exact bodyPost_ret (v := .agg #[.int .i64 k, .slice pI is.length dI, .slice a3 y3.length c3]) (by simp [results, Tryd.results89, go_sem, q0, q1, q2]) rfl ⟨pI, dI, a3, c3, ⟨k, is, y3⟩, rfl, by simp only; omega, by simp only; omega, (ho.own.kept hgF (by omega)).widen (by omega) (Nat.le_refl _) (Nat.le_refl _), hcr.kept hgF (fun k e => by cases e; omega), grownBy_new hgr hgF (fun k e => by cases e; omega)⟩
  · -- as many as may be, or one more
    clear hx5
    go_wp2_with fail
    refine (l1Below_any B zs 2 w3 hcr hl (by omega)).mono ?_
    rintro e w4 ⟨y, rfl, hy, hc4, hg4⟩
    have hy2 : (y : Int) < 2 := hy (by omega)
    have ho4 := ho.kept hg4 hB
    have hb4 := hb.grown hg4 (by omega)
    have hgw4 := grownBy_trans hgr hg4
    have hs4 := hg4.size
    clear ho hb hcr hgr hy hg4
    obtain ⟨i0, hi, hz0, hz1, hz2⟩ := info_parts Tryd.infoInt
    go_wp2_with (at_make; refine wpList_make_full _ rfl _ _ 24 rfl (w.heap.size + 1 + 1) 3 i0 (.int .i64 0) 1 Tryd.underlying24 hi hz0 hz1 _ _ _ _ (5 + y) rfl rfl (by omega) (by omega) (by rw [hz2]; omega) (by simp [maxLen]; omega) (by omega) ?_)
    intro w5 hown5 hg5
    have hyl : 5 + y ≤ 6 := by omega
    obtain ⟨ns, hn1, hown⟩ : ∃ ns : List Int, 5 + y = ns.length ∧ w5.ownsRow (w.heap.size + 1 + 1) 3 1 (.slice (some ⟨w4.heap.size, 0, none⟩) (5 + y) (5 + y)) (5 + y) (ns.map (Value.int .i64)) := by
      refine ⟨List.replicate (5 + y) 0, by simp, ?_⟩
      rw [List.map_replicate]
      simpa [Value.cells, toList_madeCells_one] using hown5
    clear hown5 hy2
    have hn2 : (5 : Int) + (y : Int) = (ns.length : Int) := by omega
    generalize 5 + y = N at *
    subst hn1
    generalize (5 : Int) + (y : Int) = M at *
    clear hn2
    have hlt5 : w4.heap.size < w5.heap.size := (hown.lt w4.heap.size rfl).2
    have hoN : OwnI w5 (w.heap.size + 1 + 1) w5.heap.size (some ⟨w4.heap.size, 0, none⟩) ns.length ns := ⟨hown, Nat.le_refl _, fun k hk => (hown.lt k hk).2⟩
    have hgk : ∀ r, w4.grownBy w5 r := fun r => ⟨hg5.os, hg5.tape, hg5.output, hg5.size, fun k hk _ => hg5.block k hk (by simp)⟩
    obtain ⟨_, hO, hC, hG, hT⟩ := ho4.pushI hc4 hB hgw4 (Nat.le_refl _) hoN (hgk _) (fun k hk => .inr (by cases hk; rfl))
    have hb6 := hb4.block (hT (w.heap.size + 1) (by omega) (by omega) hb4.lt)
    obtain ⟨c0, c1, c2, _, f1, _⟩ := (ho4.kept (hgk (some B)) hB).three
    obtain ⟨x0, x1, x2, g0, g1, g2⟩ := (hb4.grown (hgk (some B)) (by omega)).three
    obtain ⟨W6, hW6⟩ : ∃ W6, Hid (w5.setCell ⟨w.heap.size, 1, none⟩ (.slice (some ⟨w4.heap.size, 0, none⟩) ns.length ns.length) = W6) := ⟨_, rfl⟩
    rw [hW6.out] at hO hC hG hb6
    obtain ⟨WF, hWF, bF, hwF, hsF⟩ := box3_fill hb6 (.int .i64 k) (.slice (some ⟨w4.heap.size, 0, none⟩) ns.length ns.length) (.slice pR rs.length dR)
    clear hT hgk hoN hown hg5 hgw4 hb4 ho4 hc4 hi hz0 hz1 hz2
    have ho := hO
    have hcr := hC
    have hgr := hG
    clear hO hC hG hb6
    go_wp2
    rw [hW6.out, hWF.out]
    obtain ⟨q0, q1, q2, _, _, _⟩ := bF.three
    have hgF : W6.grownBy WF (some (w.heap.size + 1)) := ⟨hwF.os, hwF.tape, hwF.output, hwF.size, fun k hk hn => hwF.block k hk (fun h => hn (by rw [show k = w.heap.size + 1 by omega]))⟩
    exact bodyPost_ret (v := .agg #[.int .i64 k, .slice (some ⟨w4.heap.size, 0, none⟩) ns.length ns.length, .slice pR rs.length dR]) (by simp [results, Tryd.results89, go_sem, q0, q1, q2]) rfl ⟨(some ⟨w4.heap.size, 0, none⟩), ns.length, pR, dR, ⟨k, ns, rs⟩, rfl, by simp only; omega, by simp only; omega, (ho.own.kept hgF (by omega)).widen (by omega) (Nat.le_refl _) (Nat.le_refl _), hcr.kept hgF (fun k e => by cases e; omega), grownBy_new hgr hgF (fun k e => by cases e; omega)⟩
  · -- as it was
    clear hx5
    obtain ⟨c0, c1, c2, _, _, _⟩ := ho.three
    obtain ⟨x0, x1, x2, g0, g1, g2⟩ := hb.three
    obtain ⟨WF, hWF, bF, hwF, hsF⟩ := box3_fill hb (.int .i64 k) (.slice pI is.length dI) (.slice pR rs.length dR)
    go_wp2
    rw [hWF.out]
    obtain ⟨q0, q1, q2, _, _, _⟩ := bF.three
    have hgF : w3.grownBy WF (some (w.heap.size + 1)) := ⟨hwF.os, hwF.tape, hwF.output, hwF.size, fun k hk hn => hwF.block k hk (fun h => hn (by rw [show k = w.heap.size + 1 by omega]))⟩
    exact bodyPost_ret (v := .agg #[.int .i64 k, .slice pI is.length dI, .slice pR rs.length dR]) (by simp [results, Tryd.results89, go_sem, q0, q1, q2]) rfl ⟨pI, dI, pR, dR, ⟨k, is, rs⟩, rfl, by simp only; omega, by simp only; omega, (ho.own.kept hgF (by omega)).widen (by omega) (Nat.le_refl _) (Nat.le_refl _), hcr.kept hgF (fun k e => by cases e; omega), grownBy_new hgr hgF (fun k e => by cases e; omega)⟩
end Go.Proofs.YtjaojcgfgkppgaaDoor

/- The walks of spec.l1Once, l2ObjAny and DrawPutObj. -/
namespace Go.Proofs.YtjaojcgfgkppgaaDoor
open Go.RowKit

theorem l1Once_any (B : Nat) (zs : List Int) (n : Int) (w : World) (hc : CurAt w B zs) (hl : zs.length ≤ 70368744177664) (hn : n ≤ 1000000000) :
    Calls Tryd.prog 61 #[.pointer (some ⟨B, 0, none⟩), .int .i64 n] w fun e w' => ∃ b : Bool, e = .returned (.bool b) ∧ CurAt w' B zs ∧ w.grownBy w' (some B) := by
  go_enter Tryd.func61, Tryd.ntmps61
  go_wp2_with fail
  refine (l1Below_any B zs n w hc hl hn).mono ?_
  rintro e w1 ⟨x, rfl, _, hc1, hg1⟩
  go_wp2
  go_ret
  exact ⟨_, rfl, hc1, hg1⟩

end Go.Proofs.YtjaojcgfgkppgaaDoor
