/- Several texts in one, in their order. -/
import Derived.Test.YtoboickdkednkabDoorPBringx12
import Derived.Test.YtoboickdkednkabDoorPBringx11
import Derived.Test.YtoboickdkednkabDoorPBringx9
import Derived.Deep.RegionLaw
import Derived.Deep.DrawnRows
import Derived.Test.YtoboickdkednkabDoorPBringx7
import Derived.Test.YtoboickdkednkabDoorPBringx8
import Derived.WalkMore
import Derived.ScopeJumps
import Derived.Test.YtoboickdkednkabDoorPBringx1
set_option maxHeartbeats 8000000
set_option maxRecDepth 100000
namespace Go.Proofs.YtoboickdkednkabDoor
open Go.RowKit
attribute [local go_sem ↓] Go.wp_at_zero Go.wp_at_succ
theorem l6Copy_any (l : PoolA) (w : World) (hr : l.reads w) (hl : l.short 1048576) :
  Calls Tryd.prog 20 #[.agg l.cells.toArray] w fun e w' => ∃ t : PoolA, e = .returned (.agg t.cells.toArray) ∧ Hid (t.v = l.v) ∧ t.own w' w.heap.size w'.heap.size ∧ Below w.heap.size w w' := by
 obtain ⟨rs, s, a, c⟩ := l
 have hl2 := (PoolA.short_wide hl).each
 have hl0 := hl.len
 simp only [PoolA.reads, PoolA.cells, PoolA.own] at *
 obtain ⟨W, hW, b0, b1, b2, hbW, hsW⟩ := boxes3 w [.slice a rs.length c, .int .i64 s] [.slice none 0 0, .int .i64 0] [.slice none 0 0, .int .i64 s] 37 37 37
 have hs0 : w.heap.size + 1 + 1 < W.heap.size := by omega
 clear hsW
 have x0 := b0.cell 0 _ rfl
 have x1 := b0.cell 1 _ rfl
 have HC : Hid (∀ k, k < rs.length → ∃ b off, a = some ⟨b, off, none⟩ ∧ w.rangeAt b (off + k * 20) (rs.getD k zeroSt).cells ∧ (rs.getD k zeroSt).reads w ∧ (rs.getD k zeroSt).short 1099511627776) := fun k hk => by
  obtain ⟨b, off, ha, hc⟩ := hr (by intro e; rw [e] at hk; simp at hk)
  exact ⟨b, off, ha, (hc k hk).1, (hc k hk).2, hl2 _ (seatD_mem rs k hk)⟩
 have HI : Hid ((Tryd.prog.info? 45).map (·.size) = some 20) := by rw [Hid]; kernel_rfl
 clear hr hl hl2
 go_enter Tryd.func20, Tryd.ntmps20
 go_wp2_with fail
 rw [hW.out]
 clear hW x0 x1
 go_loopw [4] (fun i wr => ∃ (k : Nat) (ts : List SeatA) (a' : Option Addr) (c' : Nat), k ≤ rs.length ∧ i = .int .i64 k ∧ Hid (CameSt rs ts k) ∧ Box wr (w.heap.size + 1 + 1) [.slice a' ts.length c', .int .i64 s] 37 ∧ Box wr w.heap.size [.slice a rs.length c, .int .i64 s] 37 ∧ Box wr (w.heap.size + 1) [.slice none 0 0, .int .i64 0] 37 ∧ OwnSts wr W.heap.size wr.heap.size a' c' ts ∧ Below w.heap.size w wr ∧ W.heap.size ≤ wr.heap.size)
  (fun i _ => rs.length - (intOf i).toNat)
 case atStart => exact ⟨0, [], none, 0, Nat.zero_le _, rfl, cameSt_none rs, b2, b0, b1, ownSts_nil _ _ _ (Nat.le_refl _), hbW, Nat.le_refl _⟩
 case round =>
  obtain ⟨k, ts, a', c', hk, rfl, hc, k2, k0, k1, hown, hnx, hsz⟩ := hrel
  clear b0 b1 b2 hbW
  have x0 := k0.cell 0 _ rfl
  by_cases hlt : k < rs.length
  ·obtain ⟨b, off, rfl, hcell, hrd, hsh⟩ := HC.out k hlt
   have hbB := rangeSt_lt hcell
   have hnw := hnx.size
   have HR : Hid (∀ u, Below w.heap.size w u → u.rangeAt b (off + k * 20) (rs.getD k zeroSt).cells) := fun u hu => rangeAt_below hcell hu hbB
   have HS : Hid (∀ q : SeatA, q.v = (rs.getD k zeroSt).v → CameSt rs (ts ++ [q]) (k + 1)) := fun q hq => hc.out.snoc hlt hq
   have HL : Hid (ts.length = k) := hc.out.1
   clear hcell HC
   generalize rs.getD k zeroSt = z at *
   have e0 := k2.cell 0 _ rfl
   have HSS : Hid (∀ u, Below w.heap.size w u → Box u w.heap.size [.slice (some ⟨b, off, none⟩) rs.length c, .int .i64 s] 37 → u.rangeAt b (off + k * 20) z.cells ∧ u.cell? ⟨w.heap.size, 0, none⟩ = some (.slice (some ⟨b, off, none⟩) rs.length c)) := fun u h1 h2 => ⟨HR.out u h1, h2.cell 0 _ rfl⟩
   go_wp2_with fail
   refine wp_region_held_drew (S := fun w' => w'.rangeAt b (off + k * 20) z.cells ∧ w'.cell? ⟨w.heap.size, 0, none⟩ = some (.slice (some ⟨b, off, none⟩) rs.length c)) (by kernel_rfl) ?_ (fun hHeld => ?_)
   ·exact HSS.out _ hnx.drew (k0.drewN 1)
   refine tk 0 (v := .pointer (some ⟨w.heap.size + 1 + 1, 0, none⟩)) rfl (Or.inl ⟨by rfl, ?_⟩) hHeld ?_
   ·intro w' hSw
    go_simp <;> rfl
   try simp only [Act.put, zA, zB, zD, zE, zF]
   refine tk 2 (v := .pointer (some ⟨w.heap.size, 0, none⟩)) rfl (Or.inl ⟨by rfl, ?_⟩) hHeld ?_
   ·intro w' hSw
    go_simp <;> rfl
   try simp only [Act.put, zA, zB, zC, zD, zE, zF]
   refine tk 3 (v := .slice (some ⟨b, off, none⟩) rs.length c) rfl (Or.inl ⟨by rfl, ?_⟩) hHeld ?_
   ·intro w' hSw
    have hx := hSw.2
    go_simp <;> rfl
   try simp only [Act.put, zA, zB, zC, zD, zE, zF]
   refine tk 4 (v := .int .i64 k) rfl (Or.inl ⟨by rfl, ?_⟩) hHeld ?_
   ·intro w' hSw
    go_simp <;> rfl
   try simp only [Act.put, zA, zB, zC, zD, zE, zF]
   refine tk 5 (v := .pointer (some ⟨b, off + k * 20, none⟩)) rfl (Or.inl ⟨by rfl, ?_⟩) hHeld ?_
   ·intro w' hSw
    go_simp <;> rfl
   try simp only [Act.put, zA, zB, zC, zD, zE, zF]
   refine tk 6 rfl (yieldsIf_load_mid (by rfl) _ _ rfl _ _ rfl z.cells _ (fun _ h => h.1) Tryd.underlying45 rfl HI.out) hHeld ?_
   try simp only [Act.put, zA, zB, zC, zD, zE, zF]
   have hnd : Below wr.heap.size wr wr.drew := (Below.refl _ _).drew
   have C := l6CopySeat_own z wr.drew (hrd.below hnx.drew) hsh
   refine wpAnyH_ready (rs := [1, 7]) (by kernel_rfl) (by simp) ?_
   refine AllReadyH.cons rfl (fun K hK => ?_) (AllReadyH.cons rfl (fun K hK => ?_) AllReadyH.nil)
   ·go_simp
    refine hK.out _ _ (hHeld) (fun hHeld => ?_)
    clear hK K
    try simp only [Act.put, zA, zB, zC, zD, zE, zF]
    refine wpAnyH_ready (rs := [7]) (by kernel_rfl) (by simp) ?_
    refine AllReadyH.cons rfl (fun K hK => ?_) AllReadyH.nil
    go_simp
    refine C.mono ?_
    clear C
    rintro e u2 ⟨q, rfl, hq, hqo, hb2⟩
    have hb2' : Below wr.heap.size wr u2 := hnd.trans hb2
    have hn2 : Below w.heap.size w u2 := hnx.trans (hb2'.mono hnw)
    have k22 := k2.below hb2' k2.lt
    have k02 := k0.below hb2' k0.lt
    have k12 := k1.below hb2' k1.lt
    have o2 := hown.below hb2'
    have hqo2 : q.own u2 wr.heap.size u2.heap.size := hqo
    have hs2 := hb2'.size
    refine hK.out _ _ (HSS.out _ hn2 k02) (fun hHeld => ?_)
    clear hK K
    try simp only [Act.put, zA, zB, zC, zD, zE, zF]
    refine wpAnyH_ready (rs := [8]) (by kernel_rfl) (by simp) ?_
    refine AllReadyH.cons rfl (fun K hK => ?_) AllReadyH.nil
    go_simp
    simp only [cellsSt_len, lit_seat, not_true_eq_false, Nat.lt_irrefl, or_self, if_false]
    go_simp
    obtain ⟨W3, hW3, b3, hb3, hs3⟩ := boxes1 u2 q.cells 45
    rw [hW3.out]
    have hn3 : Below w.heap.size w W3 := hn2.trans (hb3.mono hn2.size)
    have k23 := k22.below hb3 k22.lt
    have k03 := k02.below hb3 k02.lt
    have k13 := k12.below hb3 k12.lt
    have o3 := o2.below hb3
    have hqo3 := hqo2.below hb3
    have r3 : W3.rangeAt u2.heap.size 0 q.cells := Box.range [] q.cells [] (by simpa using b3)
    have hs3' := b3.lt
    clear hs3 hb3 hW3 b3 k02 k12 o2 hqo2
    refine hK.out _ _ (HSS.out _ hn3 k03) (fun hHeld => ?_)
    clear hK K
    try simp only [Act.put, zA, zB, zC, zD, zE, zF]
    have hll : ts.length + 1 ≤ 68719476736 := by have := HL.out; omega
    refine wpAnyH_ready (rs := [9]) (by kernel_rfl) (by simp) ?_
    refine AllReadyH.cons rfl (fun K hK => ?_) AllReadyH.nil
    refine step_append_seat rfl (.tmp 16) (.tmp 23) rfl W.heap.size wr.heap.size a' c' ts rfl o3 u2.heap.size 0 1 q rfl r3 wr.heap.size u2.heap.size hqo3 (Nat.le_refl _) (by omega) hll hsz ?_
    intro a9 c9 w9 o9 g9 _
    have HCM := HS.out q hq.out
    obtain ⟨ys, hys⟩ : ∃ ys, Hid (ts ++ [q] = ys) := ⟨_, rfl⟩
    rw [hys.out] at o9 HCM ⊢
    have hw9 : Within W.heap.size wr.heap.size W3 w9 := Within.of_grown g9 (fun j hj => ⟨(o3.row.lt j hj).1, o3.blk j hj⟩)
    have hs9 := hw9.size
    have hn9 : Below w.heap.size w w9 := hn3.trans (hw9.below (by omega) (by omega))
    have k29 := k23.within hw9 (by omega)
    have k09 := k03.within hw9 (by omega)
    have k19 := k13.within hw9 (by omega)
    refine hK.out _ _ (HSS.out _ hn9 k09) (fun hHeld => ?_)
    clear hK K hw9 g9 o3 r3 hqo3 k23 k03 k13
    try simp only [Act.put, zA, zB, zC, zD, zE, zF]
    refine tk 10 (v := .pointer (some ⟨w.heap.size + 1 + 1, 0, none⟩)) rfl (Or.inl ⟨by rfl, ?_⟩) hHeld ?_
    ·intro w' hSw
     go_simp <;> rfl
    try simp only [Act.put, zA, zB, zC, zD, zE, zF]
    have m0 := k29.cell 0 _ rfl
    have mf0 := k29.frozen 0
    obtain ⟨WF, hWF, kF, hwF, hsF⟩ := box_set k29 0 (.slice a9 ys.length c9)
    simp only [List.set] at kF
    have hsFa := Nat.le_of_eq hsF
    have hsFb := Nat.le_of_eq hsF.symm
    clear hsF
    have k0F := k09.within hwF (by omega)
    have k1F := k19.within hwF (by omega)
    have oF := (o9.within hwF (.inr (by omega))).widen (Nat.le_refl _) hsFb (Nat.le_refl _)
    have hnF : Below w.heap.size w WF := hn9.trans (hwF.below (by omega) (by omega))
    clear hwF k29 k09 k19 o9
    refine wpAnyH_ready (rs := [11]) (by kernel_rfl) (by simp) ?_
    refine AllReadyH.cons rfl (fun K hK => ?_) AllReadyH.nil
    go_simp
    rw [hWF.out]
    refine hK.out _ _ (HSS.out _ hnF k0F) (fun hHeld => ?_)
    clear hK K
    try simp only [Act.put, zA, zB, zC, zD, zE, zF]
    refine wpAnyH_done (by kernel_rfl) ?_ _
    clear m0 mf0 hWF
    go_wp2_with fail
    go_roundw
    case rel => exact ⟨k + 1, ys, a9, c9, by omega, by go_num, HCM, kF, k0F, k1F, oF, hnF, by omega⟩
    case measure => simp [intOf]; omega
   ·go_simp
    refine C.mono ?_
    clear C
    rintro e u2 ⟨q, rfl, hq, hqo, hb2⟩
    have hb2' : Below wr.heap.size wr u2 := hnd.trans hb2
    have hn2 : Below w.heap.size w u2 := hnx.trans (hb2'.mono hnw)
    have k22 := k2.below hb2' k2.lt
    have k02 := k0.below hb2' k0.lt
    have k12 := k1.below hb2' k1.lt
    have o2 := hown.below hb2'
    have hqo2 : q.own u2 wr.heap.size u2.heap.size := hqo
    have hs2 := hb2'.size
    refine hK.out _ _ (HSS.out _ hn2 k02) (fun hHeld => ?_)
    clear hK K
    try simp only [Act.put, zA, zB, zC, zD, zE, zF]
    refine wpAnyH_ready (rs := [1, 8]) (by kernel_rfl) (by simp) ?_
    refine AllReadyH.cons rfl (fun K hK => ?_) (AllReadyH.cons rfl (fun K hK => ?_) AllReadyH.nil)
    ·have d0 := k22.cell 0 _ rfl
     go_simp
     refine hK.out _ _ (hHeld) (fun hHeld => ?_)
     clear hK K
     try simp only [Act.put, zA, zB, zC, zD, zE, zF]
     refine wpAnyH_ready (rs := [8]) (by kernel_rfl) (by simp) ?_
     refine AllReadyH.cons rfl (fun K hK => ?_) AllReadyH.nil
     go_simp
     simp only [cellsSt_len, lit_seat, not_true_eq_false, Nat.lt_irrefl, or_self, if_false]
     go_simp
     obtain ⟨W3, hW3, b3, hb3, hs3⟩ := boxes1 u2 q.cells 45
     rw [hW3.out]
     have hn3 : Below w.heap.size w W3 := hn2.trans (hb3.mono hn2.size)
     have k23 := k22.below hb3 k22.lt
     have k03 := k02.below hb3 k02.lt
     have k13 := k12.below hb3 k12.lt
     have o3 := o2.below hb3
     have hqo3 := hqo2.below hb3
     have r3 : W3.rangeAt u2.heap.size 0 q.cells := Box.range [] q.cells [] (by simpa using b3)
     have hs3' := b3.lt
     clear hs3 hb3 hW3 b3 k02 k12 o2 hqo2
     refine hK.out _ _ (HSS.out _ hn3 k03) (fun hHeld => ?_)
     clear hK K
     try simp only [Act.put, zA, zB, zC, zD, zE, zF]
     have hll : ts.length + 1 ≤ 68719476736 := by have := HL.out; omega
     refine wpAnyH_ready (rs := [9]) (by kernel_rfl) (by simp) ?_
     refine AllReadyH.cons rfl (fun K hK => ?_) AllReadyH.nil
     refine step_append_seat rfl (.tmp 16) (.tmp 23) rfl W.heap.size wr.heap.size a' c' ts rfl o3 u2.heap.size 0 1 q rfl r3 wr.heap.size u2.heap.size hqo3 (Nat.le_refl _) (by omega) hll hsz ?_
     intro a9 c9 w9 o9 g9 _
     have HCM := HS.out q hq.out
     obtain ⟨ys, hys⟩ : ∃ ys, Hid (ts ++ [q] = ys) := ⟨_, rfl⟩
     rw [hys.out] at o9 HCM ⊢
     have hw9 : Within W.heap.size wr.heap.size W3 w9 := Within.of_grown g9 (fun j hj => ⟨(o3.row.lt j hj).1, o3.blk j hj⟩)
     have hs9 := hw9.size
     have hn9 : Below w.heap.size w w9 := hn3.trans (hw9.below (by omega) (by omega))
     have k29 := k23.within hw9 (by omega)
     have k09 := k03.within hw9 (by omega)
     have k19 := k13.within hw9 (by omega)
     refine hK.out _ _ (HSS.out _ hn9 k09) (fun hHeld => ?_)
     clear hK K hw9 g9 o3 r3 hqo3 k23 k03 k13
     try simp only [Act.put, zA, zB, zC, zD, zE, zF]
     refine tk 10 (v := .pointer (some ⟨w.heap.size + 1 + 1, 0, none⟩)) rfl (Or.inl ⟨by rfl, ?_⟩) hHeld ?_
     ·intro w' hSw
      go_simp <;> rfl
     try simp only [Act.put, zA, zB, zC, zD, zE, zF]
     have m0 := k29.cell 0 _ rfl
     have mf0 := k29.frozen 0
     obtain ⟨WF, hWF, kF, hwF, hsF⟩ := box_set k29 0 (.slice a9 ys.length c9)
     simp only [List.set] at kF
     have hsFa := Nat.le_of_eq hsF
     have hsFb := Nat.le_of_eq hsF.symm
     clear hsF
     have k0F := k09.within hwF (by omega)
     have k1F := k19.within hwF (by omega)
     have oF := (o9.within hwF (.inr (by omega))).widen (Nat.le_refl _) hsFb (Nat.le_refl _)
     have hnF : Below w.heap.size w WF := hn9.trans (hwF.below (by omega) (by omega))
     clear hwF k29 k09 k19 o9
     refine wpAnyH_ready (rs := [11]) (by kernel_rfl) (by simp) ?_
     refine AllReadyH.cons rfl (fun K hK => ?_) AllReadyH.nil
     go_simp
     rw [hWF.out]
     refine hK.out _ _ (HSS.out _ hnF k0F) (fun hHeld => ?_)
     clear hK K
     try simp only [Act.put, zA, zB, zC, zD, zE, zF]
     refine wpAnyH_done (by kernel_rfl) ?_ _
     clear m0 mf0 hWF
     go_wp2_with fail
     go_roundw
     case rel => exact ⟨k + 1, ys, a9, c9, by omega, by go_num, HCM, kF, k0F, k1F, oF, hnF, by omega⟩
     case measure => simp [intOf]; omega
    ·go_simp
     simp only [cellsSt_len, lit_seat, not_true_eq_false, Nat.lt_irrefl, or_self, if_false]
     go_simp
     obtain ⟨W3, hW3, b3, hb3, hs3⟩ := boxes1 u2 q.cells 45
     rw [hW3.out]
     have hn3 : Below w.heap.size w W3 := hn2.trans (hb3.mono hn2.size)
     have k23 := k22.below hb3 k22.lt
     have k03 := k02.below hb3 k02.lt
     have k13 := k12.below hb3 k12.lt
     have o3 := o2.below hb3
     have hqo3 := hqo2.below hb3
     have r3 : W3.rangeAt u2.heap.size 0 q.cells := Box.range [] q.cells [] (by simpa using b3)
     have hs3' := b3.lt
     clear hs3 hb3 hW3 b3 k02 k12 o2 hqo2
     refine hK.out _ _ (HSS.out _ hn3 k03) (fun hHeld => ?_)
     clear hK K
     try simp only [Act.put, zA, zB, zC, zD, zE, zF]
     have d0 := k23.cell 0 _ rfl
     refine wpAnyH_ready (rs := [1]) (by kernel_rfl) (by simp) ?_
     refine AllReadyH.cons rfl (fun K hK => ?_) AllReadyH.nil
     go_simp
     refine hK.out _ _ (hHeld) (fun hHeld => ?_)
     clear hK K
     try simp only [Act.put, zA, zB, zC, zD, zE, zF]
     have hll : ts.length + 1 ≤ 68719476736 := by have := HL.out; omega
     refine wpAnyH_ready (rs := [9]) (by kernel_rfl) (by simp) ?_
     refine AllReadyH.cons rfl (fun K hK => ?_) AllReadyH.nil
     refine step_append_seat rfl (.tmp 16) (.tmp 23) rfl W.heap.size wr.heap.size a' c' ts rfl o3 u2.heap.size 0 1 q rfl r3 wr.heap.size u2.heap.size hqo3 (Nat.le_refl _) (by omega) hll hsz ?_
     intro a9 c9 w9 o9 g9 _
     have HCM := HS.out q hq.out
     obtain ⟨ys, hys⟩ : ∃ ys, Hid (ts ++ [q] = ys) := ⟨_, rfl⟩
     rw [hys.out] at o9 HCM ⊢
     have hw9 : Within W.heap.size wr.heap.size W3 w9 := Within.of_grown g9 (fun j hj => ⟨(o3.row.lt j hj).1, o3.blk j hj⟩)
     have hs9 := hw9.size
     have hn9 : Below w.heap.size w w9 := hn3.trans (hw9.below (by omega) (by omega))
     have k29 := k23.within hw9 (by omega)
     have k09 := k03.within hw9 (by omega)
     have k19 := k13.within hw9 (by omega)
     refine hK.out _ _ (HSS.out _ hn9 k09) (fun hHeld => ?_)
     clear hK K hw9 g9 o3 r3 hqo3 k23 k03 k13
     try simp only [Act.put, zA, zB, zC, zD, zE, zF]
     refine tk 10 (v := .pointer (some ⟨w.heap.size + 1 + 1, 0, none⟩)) rfl (Or.inl ⟨by rfl, ?_⟩) hHeld ?_
     ·intro w' hSw
      go_simp <;> rfl
     try simp only [Act.put, zA, zB, zC, zD, zE, zF]
     have m0 := k29.cell 0 _ rfl
     have mf0 := k29.frozen 0
     obtain ⟨WF, hWF, kF, hwF, hsF⟩ := box_set k29 0 (.slice a9 ys.length c9)
     simp only [List.set] at kF
     have hsFa := Nat.le_of_eq hsF
     have hsFb := Nat.le_of_eq hsF.symm
     clear hsF
     have k0F := k09.within hwF (by omega)
     have k1F := k19.within hwF (by omega)
     have oF := (o9.within hwF (.inr (by omega))).widen (Nat.le_refl _) hsFb (Nat.le_refl _)
     have hnF : Below w.heap.size w WF := hn9.trans (hwF.below (by omega) (by omega))
     clear hwF k29 k09 k19 o9
     refine wpAnyH_ready (rs := [11]) (by kernel_rfl) (by simp) ?_
     refine AllReadyH.cons rfl (fun K hK => ?_) AllReadyH.nil
     go_simp
     rw [hWF.out]
     refine hK.out _ _ (HSS.out _ hnF k0F) (fun hHeld => ?_)
     clear hK K
     try simp only [Act.put, zA, zB, zC, zD, zE, zF]
     refine wpAnyH_done (by kernel_rfl) ?_ _
     clear m0 mf0 hWF
     go_wp2_with fail
     go_roundw
     case rel => exact ⟨k + 1, ys, a9, c9, by omega, by go_num, HCM, kF, k0F, k1F, oF, hnF, by omega⟩
     case measure => simp [intOf]; omega
  ·have HE : Hid (ts.map SeatA.v = rs.map SeatA.v) := by
    have e : k = rs.length := by omega
    rw [e] at hc
    exact hc.out.all
   have e0 := k2.cell 0 _ rfl
   have e1 := k2.cell 1 _ rfl
   have m0 := k1.cell 0 _ rfl
   have m1 := k1.cell 1 _ rfl
   have mf0 := k1.frozen 0
   have mf1 := k1.frozen 1
   obtain ⟨WF, hWF, bF, hwF, hsF⟩ := box2_fill k1 (.slice a' ts.length c') (.int .i64 s)
   have q0 := bF.cell 0 _ rfl
   have q1 := bF.cell 1 _ rfl
   have hoF := (hown.within hwF (.inr (by omega))).widen (show w.heap.size ≤ W.heap.size by omega) (show wr.heap.size ≤ WF.heap.size by omega) (Nat.le_refl _)
   have hbF : Below w.heap.size w WF := hnx.trans (hwF.below (by omega) (by have := hnx.size; omega))
   clear hwF hsF bF
   go_wp2
   rw [hWF.out]
   exact bodyPost_ret (v := .agg #[.slice a' ts.length c', .int .i64 s]) (by simp [results, Tryd.results20, go_sem, q0, q1]) rfl ⟨⟨ts, s, a', c'⟩, rfl, by simp only [Hid, PoolA.v]; rw [HE.out], hoF, hbF⟩
end Go.Proofs.YtoboickdkednkabDoor
namespace Go.Proofs.YtoboickdkednkabDoor
open Go.RowKit
theorem copyPage_own (p : PageA) (h4 : p.ss.length = 4) (w : World) (hr : ReadsS w p.ss) (hl : Fit p.ss) :
  Calls Tryd.prog 33 #[.agg p.cells.toArray] w fun e w' => ∃ ts : List SlotA, e = .returned (.agg (PageA.cells ⟨p.lsn, ts⟩).toArray) ∧ Hid (ts.map (·.v) = p.ss.map (·.v)) ∧ OwnS w' w.heap.size w'.heap.size ts ∧ Below w.heap.size w w' := by
 obtain ⟨n, ss⟩ := p
 simp only [PageA.cells] at *
 obtain ⟨W, hW, b0, b1, b2, hbW, hsW⟩ := boxes3 w (.int .i64 n :: cellsS ss) [.int .i64 0, .bool false, .int .i64 0, .slice none 0 0, .slice none 0 0, .bool false, .int .i64 0, .slice none 0 0, .slice none 0 0, .bool false, .int .i64 0, .slice none 0 0, .slice none 0 0, .bool false, .int .i64 0, .slice none 0 0, .slice none 0 0] [.int .i64 n, .bool false, .int .i64 0, .slice none 0 0, .slice none 0 0, .bool false, .int .i64 0, .slice none 0 0, .slice none 0 0, .bool false, .int .i64 0, .slice none 0 0, .slice none 0 0, .bool false, .int .i64 0, .slice none 0 0, .slice none 0 0] 43 43 43
 have b1' : Box W (w.heap.size + 1) ([] ++ ((.int .i64 0 :: cellsS zero4) ++ [])) 43 := b1
 have b2' : Box W (w.heap.size + 1 + 1) (.int .i64 n :: cellsS ([] ++ List.replicate (4 - 0) zeroS)) 43 := b2
 have hsW' : w.heap.size + 1 + 1 < W.heap.size := by omega
 have hc0 : (((w.alloc (.cells (.int .i64 n :: cellsS ss).toArray 43)).alloc (.cells #[.int .i64 0, .bool false, .int .i64 0, .slice none 0 0, .slice none 0 0, .bool false, .int .i64 0, .slice none 0 0, .slice none 0 0, .bool false, .int .i64 0, .slice none 0 0, .slice none 0 0, .bool false, .int .i64 0, .slice none 0 0, .slice none 0 0] 43))).cell? ⟨w.heap.size, 0, none⟩ = some (.int .i64 n) := ((box_new w (.int .i64 n :: cellsS ss) 43).alloc _).cell 0 _ rfl
 have hrg0 : W.rangeAt w.heap.size 1 (cellsS ss) := Box.range [.int .i64 n] (cellsS ss) [] (by simpa using b0)
 have hi0 : (Tryd.prog.info? 41).map (·.size) = some (cellsS ss).length := by rw [cellsS_len, h4]; kernel_rfl
 have HX := run_index_slot ss h4
 have H4 : Hid (ss.length = 4) := h4
 clear b1 b2 hsW h4
 go_enter Tryd.func33, Tryd.ntmps33
 go_wp2_with (first | (guard_target = wpList _ _ _ (Oper.mk (some 10) _ _ _ _ _ :: _) _ _; refine wpList_load_mid rfl 41 (.tmp 9) rfl w.heap.size 1 rfl (cellsS ss) _ (by rw [hW.out]; exact hrg0) Tryd.underlying41 rfl hi0 ?_) | fail)
 rw [hW.out]
 clear hW hrg0 hi0 hc0
 go_loopw [11] (fun i wr => ∃ (k : Nat) (ts : List SlotA), i = .int .i64 k ∧ k ≤ 4 ∧ Hid (ts.length = k ∧ ts.map (·.v) = (ss.take k).map (·.v)) ∧ OwnS wr W.heap.size wr.heap.size ts ∧ Box wr (w.heap.size + 1 + 1) (.int .i64 n :: cellsS (ts ++ List.replicate (4 - k) zeroS)) 43 ∧ Below (w.heap.size + 1 + 1) W wr)
  (fun i _ => 4 - (intOf i).toNat)
 case atStart => exact ⟨0, [], rfl, by omega, ⟨rfl, rfl⟩, OwnS.nil _ _ _, b2', Below.refl _ _⟩
 case round =>
  obtain ⟨k, ts, rfl, hk, hts, hown, hbox, hbl⟩ := hrel
  clear b2'
  have b1r := b1'.below hbl (by omega)
  have hsr := hbl.size
  have hsz := hbox.lt
  by_cases hlt : k < 4
  ·have hkl : k < ss.length := by rw [H4.out]; exact hlt
   have hx := HX k hlt
   clear HX
   have hrk := (hr _ (getD_mem hkl)).below (hbW.trans (hbl.mono (by omega)))
   have hlk := hl _ (getD_mem hkl)
   have HV : Hid ((ss.take (k + 1)).map (·.v) = (ss.take k).map (·.v) ++ [(ss.getD k zeroS).v]) := by
    rw [Hid, List.take_add_one, List.map_append]
    simp [List.getD, hkl]
   generalize ss.getD k zeroS = s at *
   simp only [SlotA.cells] at hx
   obtain ⟨W1, hW1, bx, hbx1, hsx1⟩ := boxes1 wr [.bool s.v.has, .int .i64 s.v.o.kind, .slice s.aI s.v.o.ints.length s.cI, .slice s.aR s.v.o.refs.length s.cR] 40
   have C := copySlot_own s W1 (ReadsO.below hrk hbx1) hlk.1 hlk.2
   simp only [SlotA.cells] at C
   go_wp2_with fail
   rw [hW1.out]
   refine C.mono ?_
   clear C hx hrk hlk
   rintro e w1 ⟨t, rfl, hv, ho, hb1⟩
   have hs1 := hb1.size
   have N1 : Below wr.heap.size wr w1 := hbx1.trans (hb1.mono (by omega))
   have hbx := hbox.below N1 hsz
   have hkt : k < (ts ++ List.replicate (4 - k) zeroS).length := by have := hts.out.1; simp; omega
   obtain ⟨W2, hW2, b2, hw2, hs2⟩ := pslot_fill hbx k hkt t
   obtain ⟨x0, x1, x2, x3, hfz⟩ := hbx.pslot k hkt
   have f0 := hfz (1 + k * 4)
   have f1 := hfz (1 + k * 4 + 1)
   have f2 := hfz (1 + k * 4 + 2)
   have f3 := hfz (1 + k * 4 + 3)
   generalize (ts ++ List.replicate (4 - k) zeroS).getD k zeroS = old at *
   have b2' : Box W2 (w.heap.size + 1 + 1) (.int .i64 n :: cellsS ((ts ++ [t]) ++ List.replicate (4 - (k + 1)) zeroS)) 43 := by
    rw [show 4 - k = (4 - (k + 1)) + 1 by omega] at b2
    have e := set_snoc ts (4 - (k + 1)) t
    rw [hts.out.1] at e
    rw [e] at b2
    exact b2
   have hown1 : OwnS w1 W.heap.size W1.heap.size ts := (hown.below N1).widen (Nat.le_refl _) (by omega) (by omega)
   have hO1 : OwnS w1 W.heap.size w1.heap.size (ts ++ [t]) := hown1.snoc ho (by omega) hs1 (Nat.le_refl _)
   have hO2 : OwnS W2 W.heap.size W2.heap.size (ts ++ [t]) := (hO1.within hw2 (.inr (by omega))).widen (Nat.le_refl _) (by omega) (Nat.le_refl _)
   have hB2 : Below (w.heap.size + 1 + 1) W W2 := (hbl.trans (N1.mono (by omega))).trans (hw2.below (Nat.le_refl _) (by omega))
   have HT : Hid ((ts ++ [t]).length = k + 1 ∧ (ts ++ [t]).map (·.v) = (ss.take (k + 1)).map (·.v)) := by
    refine ⟨by have := hts.out.1; simp; omega, ?_⟩
    rw [HV.out, List.map_append, hts.out.2, ← hv.out]
    rfl
   have hi0 : (0 : Int) ≤ (k : Int) := by omega
   have hi4 : (k : Int) < 4 := by omega
   clear hfz hs2 hw2 b2 hO1 hown hown1 hbox hbx hts HV hkt hb1 ho N1 hbx1
   go_wp2_with fail
   rw [hW2.out]
   go_roundw
   case rel => exact ⟨k + 1, ts ++ [t], by go_num, by omega, HT, hO2, b2', hB2⟩
   case measure => simp [intOf]; omega
  ·obtain rfl : k = 4 := by omega
   have hkk : ¬ ((4 : Nat) : Int) < 4 := by omega
   have hrp : ts ++ List.replicate (4 - 4) zeroS = ts := by simp
   rw [hrp] at hbox
   have htl : ts.length = 4 := hts.out.1
   have HMV : Hid (ts.map (·.v) = ss.map (·.v)) := by rw [Hid, hts.out.2, List.take_of_length_le (by rw [H4.out]; omega)]
   obtain ⟨WF, hWF, bF, hwF, hsF⟩ := range_fill [] (.int .i64 0 :: cellsS zero4) (.int .i64 n :: cellsS ts) [] b1r (by simp only [List.length_cons, cellsS_len, htl]; rfl)
   have HWF : Hid (wr.setCells (w.heap.size + 1) 0 (.int .i64 n :: cellsS ts) = WF) := hWF.out
   have HR2 : Hid (wr.rangeAt (w.heap.size + 1 + 1) 0 (.int .i64 n :: cellsS ts)) := Box.range [] (.int .i64 n :: cellsS ts) [] (by simpa using hbox)
   have HTF : Hid (wr.there (w.heap.size + 1) 0 (.int .i64 n :: cellsS ts).toArray.size) := b1r.there 0 _ (by simp only [List.size_toArray, cellsS_len, htl, List.length_append, List.length_cons, List.length_nil]; decide)
   have hrF : WF.rangeAt (w.heap.size + 1) 0 (.int .i64 n :: cellsS ts) := Box.range [] (.int .i64 n :: cellsS ts) [] (by simpa using bF)
   have HI : Hid ((Tryd.prog.info? 43).map (·.size) = some (.int .i64 n :: cellsS ts).length) := by rw [Hid, List.length_cons, cellsS_len, htl]; kernel_rfl
   have HO : Hid (_) := all_oneCell_toArray (oneP ⟨n, ts⟩)
   have HLF : Hid (_) := run_loadVar_mid (P := Tryd.prog) _ (w.heap.size + 1) 0 43 (.int .i64 n :: cellsS ts) _ hrF Tryd.underlying43 rfl HI.out
   have HOF : Hid (OwnS WF w.heap.size WF.heap.size ts) := (hown.within hwF (.inr (by omega))).widen (by omega) (by omega) (Nat.le_refl _)
   have HBF : Hid (Below w.heap.size w WF) := (hbW.trans (hbl.mono (by omega))).trans (hwF.below (by omega) (by omega))
   simp only [PageA.cells] at HO
   clear hWF bF hwF hsF hrF hrp htl hbox hown HX hts
   go_wp2_with (first | (guard_target = wpList _ _ _ (Oper.mk (some 21) _ _ _ _ _ :: _) _ _; refine wpList_load_mid rfl 43 (.tmp 3) rfl (w.heap.size + 1 + 1) 0 rfl (.int .i64 n :: cellsS ts) _ HR2.out Tryd.underlying43 rfl HI.out ?_) | (guard_target = wpList _ _ _ (Oper.mk none (Op.store _ (Operand.tmp 2) _) _ _ _ _ :: _) _ _; refine wpList_store_mid rfl 43 (.tmp 2) (.tmp 21) rfl (w.heap.size + 1) 0 (.int .i64 n :: cellsS ts).toArray rfl rfl HTF.out (by rw [List.size_toArray]; exact HI.out) HO.out ?_) | fail)
   rw [HWF.out]
   exact bodyPost_ret (v := .agg (.int .i64 n :: cellsS ts).toArray) (results_one Tryd.results33 rfl HLF.out) rfl ⟨ts, rfl, HMV, HOF.out, HBF.out⟩
theorem build_seats1 {w : World} {ops : Array Oper} {rest : List Oper} {dst : Option Nat} {ty : TypeId} {pos : String} {aft : Array Edge} {act : Act} {Q : Exit → Act → World → Prop} (x : Operand)
  (q : SeatA) (hx : act.eval x = .agg q.cells.toArray)
  (h : wpList Tryd.prog ops Q rest (act.put dst (.slice (some ⟨w.heap.size, 0, none⟩) 1 1)) (w.alloc (.cells q.cells.toArray 45))) :
  wpList Tryd.prog ops Q ({ dst := dst, op := .buildSlice 35 1 #[(0, x)], type := ty, pos := pos, after := aft, guard := none } :: rest) act w := by
 refine wpList_plain rfl fun K hK => ?_
 unfold Oper.wp execOp
 simp only [List.map_toArray, List.map_cons, List.map_nil, hx]
 go_simp
 simp only [cellsSt_len, lit_seat, not_true_eq_false, Nat.lt_irrefl, or_self, if_false]
 go_simp
 exact hK _ _ h
theorem copyPool_any (l : PoolA) (w : World) (hr : l.reads w) (hl : l.short 1048576) :
  Calls Tryd.prog 32 #[.agg l.cells.toArray] w fun e w' => ∃ t : PoolA, e = .returned (.agg t.cells.toArray) ∧ Hid (t.v = l.v) ∧ t.own w' w.heap.size w'.heap.size ∧ Below w.heap.size w w' := by
 obtain ⟨rs, s, a, c⟩ := l
 have hl2 := (PoolA.short_wide hl).each
 have hl0 := hl.len
 simp only [PoolA.reads, PoolA.cells, PoolA.own] at *
 obtain ⟨W, hW, b0, b1, b2, hbW, hsW⟩ := boxes3 w [.slice a rs.length c, .int .i64 s] [.slice none 0 0, .int .i64 0] [.slice none 0 0, .int .i64 s] 37 37 37
 have hs0 : w.heap.size + 1 + 1 < W.heap.size := by omega
 clear hsW
 have x0 := b0.cell 0 _ rfl
 have HC : Hid (∀ k, k < rs.length → ∃ b off, a = some ⟨b, off, none⟩ ∧ w.rangeAt b (off + k * 20) (rs.getD k zeroSt).cells ∧ (rs.getD k zeroSt).reads w ∧ (rs.getD k zeroSt).short 1099511627776) := fun k hk => by
  obtain ⟨b, off, ha, hc⟩ := hr (by intro e; rw [e] at hk; simp at hk)
  exact ⟨b, off, ha, (hc k hk).1, (hc k hk).2, hl2 _ (seatD_mem rs k hk)⟩
 have HJ : Hid ((Tryd.prog.info? 45).map (·.size) = some 20) := by rw [Hid]; kernel_rfl
 clear hr hl hl2
 go_enter Tryd.func32, Tryd.ntmps32
 go_wp2_with fail
 rw [hW.out]
 clear hW x0
 go_loopw [12] (fun i wr => ∃ (k : Nat) (ts : List SeatA) (a' : Option Addr) (c' : Nat), k ≤ rs.length ∧ i = .int .i64 k ∧ Hid (CameSt rs ts k) ∧ Box wr (w.heap.size + 1 + 1) [.slice a' ts.length c', .int .i64 s] 37 ∧ Box wr (w.heap.size + 1) [.slice none 0 0, .int .i64 0] 37 ∧ OwnSts wr W.heap.size wr.heap.size a' c' ts ∧ Below w.heap.size w wr ∧ W.heap.size ≤ wr.heap.size)
  (fun i _ => rs.length - (intOf i).toNat)
 case atStart => exact ⟨0, [], none, 0, Nat.zero_le _, rfl, cameSt_none rs, b2, b1, ownSts_nil _ _ _ (Nat.le_refl _), hbW, Nat.le_refl _⟩
 case round =>
  obtain ⟨k, ts, a', c', hk, rfl, hc, k2, k1, hown, hnx, hsz⟩ := hrel
  clear b0 b1 b2 hbW
  by_cases hlt : k < rs.length
  ·obtain ⟨b, off, rfl, hcell, hrd, hsh⟩ := HC.out k hlt
   have hnw := hnx.size
   have HRG : Hid (wr.rangeAt b (off + k * 20) (rs.getD k zeroSt).cells) := rangeAt_below hcell hnx (rangeSt_lt hcell)
   have HS : Hid (∀ q : SeatA, q.v = (rs.getD k zeroSt).v → CameSt rs (ts ++ [q]) (k + 1)) := fun q hq => hc.out.snoc hlt hq
   have hll : ts.length + 1 ≤ 68719476736 := by have := hc.out.1; omega
   have hrdw := hrd.below hnx
   have hkk : (k : Int) < (rs.length : Int) := by omega
   have hk0 : (0 : Int) ≤ (k : Int) := by omega
   clear hcell HC hrd hc
   generalize rs.getD k zeroSt = z at *
   obtain ⟨W1, hW1, d1, hb1, hs1⟩ := boxes1 wr [.int .i64 0, .int .i64 0, .bool false, .int .i64 0, .slice none 0 0, .slice none 0 0, .bool false, .int .i64 0, .slice none 0 0, .slice none 0 0, .bool false, .int .i64 0, .slice none 0 0, .slice none 0 0, .bool false, .int .i64 0, .slice none 0 0, .slice none 0 0, .bool false, .bool false] 45
   obtain ⟨W2, hW2, hw2, hs2, HT2, _, d2⟩ := seat_out z _ rfl d1
   have hB2 : Below wr.heap.size wr W2 := hb1.trans (hw2.below (Nat.le_refl _) (by omega))
   have xp : W2.rangeAt wr.heap.size 1 z.page.cells := seat_page z d2
   have HIP := Tryd.infoPg z.page rfl
   have C := copyPage_own z.page rfl W2 (hrdw.below hB2) hsh
   have HW2 : Hid (W1.setCells wr.heap.size 0 z.cells.toArray.toList = W2) := hW2.out
   have hOz := seat_one z
   have k22 := k2.below hB2 k2.lt
   have k12 := k1.below hB2 k1.lt
   have o2 := hown.below hB2
   have hn2 : Below w.heap.size w W2 := hnx.trans (hB2.mono hnw)
   have hs2' := hB2.size
   have hd2 := d2.lt
   clear hs1 hs2 d1 hb1 hw2 hW2 hrdw hsh k2 k1 hown hnx
   generalize hpc : z.page.cells = pc at *
   go_wp2_with (first | (guard_target = wpList _ _ _ (Oper.mk (some 15) _ _ _ _ _ :: _) _ _; refine wpList_load_mid rfl 45 (.tmp 14) rfl b (off + k * 20) rfl z.cells _ HRG.out Tryd.underlying45 rfl HJ.out ?_) | (guard_target = wpList _ _ _ (Oper.mk none (Op.store _ (Operand.tmp 5) _) _ _ _ _ :: _) _ _; refine wpList_store_mid rfl 45 (.tmp 5) (.tmp 15) rfl wr.heap.size 0 z.cells.toArray rfl rfl (by rw [hW1.out]; exact HT2.out) HJ.out hOz ?_; rw [hW1.out, HW2.out]) | (guard_target = wpList _ _ _ (Oper.mk (some 17) _ _ _ _ _ :: _) _ _; refine wpList_load_mid rfl 43 (.tmp 16) rfl wr.heap.size 1 rfl pc _ xp Tryd.underlying43 rfl HIP ?_) | fail)
   refine C.mono ?_
   clear C xp HIP HRG hW1 HW2 HT2 hpc
   rintro e w3 ⟨us, rfl, hv, ho, hb3⟩
   obtain ⟨y0, y1, y2, y3, rfl⟩ := four_slots' (ts := us) (by have := congrArg List.length hv.out; simpa [SeatA.page, SeatA.ss] using this)
   have hs3 := hb3.size
   have d3 := d2.below hb3 d2.lt
   obtain ⟨W4, hW4, d4, hw4, hs4, hth4⟩ := seat_fill z d3 z.page.lsn y0 y1 y2 y3
   obtain ⟨q, hq⟩ : ∃ q : SeatA, Hid ((⟨z.no, z.page.lsn, y0, y1, y2, y3, z.dirty, z.hot⟩ : SeatA) = q) := ⟨_, rfl⟩
   rw [hq.out] at d4
   have oq : q.own w3 W2.heap.size w3.heap.size := by rw [← hq.out]; exact ho
   have HV : Hid (q.v = z.v) := by rw [Hid, ← hq.out]; simp only [SeatA.v, SeatA.ss]; rw [show List.map (fun x : SlotA => x.v) [y0, y1, y2, y3] = z.page.ss.map (·.v) from hv.out]; rfl
   have k24 := (k22.below hb3 k22.lt).within hw4 (by omega)
   have k14 := (k12.below hb3 k12.lt).within hw4 (by omega)
   have o4 := (o2.below hb3).within hw4 (.inl (by omega))
   have oq4 := oq.within hw4 (.inr (by omega))
   have hn4 : Below w.heap.size w W4 := (hn2.trans (hb3.mono hn2.size)).trans (hw4.below (by omega) (by omega))
   have rq : W4.rangeAt wr.heap.size 0 q.cells := Box.range [] q.cells [] (by simpa using d4)
   have HI1 := Tryd.infoPg ⟨z.page.lsn, [y0, y1, y2, y3]⟩ rfl
   have HO1 := page_one ⟨z.page.lsn, [y0, y1, y2, y3]⟩
   have HI2 := seat_info q
   have HW4 : Hid (w3.setCells wr.heap.size 1 (PageA.cells ⟨z.page.lsn, [y0, y1, y2, y3]⟩).toArray.toList = W4) := hW4.out
   have e0 := k24.cell 0 _ rfl
   have hs4a := Nat.le_of_eq hs4
   have hs4b := Nat.le_of_eq hs4.symm
   obtain ⟨W5, hW5, d5, hb5, hs5⟩ := boxes1 W4 q.cells 45
   have k25 := k24.below hb5 k24.lt
   have k15 := k14.below hb5 k14.lt
   have o5 := o4.below hb5
   have oq5 := oq4.below hb5
   have hn5 : Below w.heap.size w W5 := hn4.trans (hb5.mono hn4.size)
   have r5 : W5.rangeAt W4.heap.size 0 q.cells := Box.range [] q.cells [] (by simpa using d5)
   have hs5' := hb5.size
   clear hW4 hq hs4 hw4 d3 d4 d2 oq ho hv hb3 k22 k12 o2 k24 k14 o4 oq4 hn2 hn4 hb5 d5 hs5
   generalize PageA.cells ⟨z.page.lsn, [y0, y1, y2, y3]⟩ = pc2 at *
   go_wp2_with (first | (guard_target = wpList _ _ _ (Oper.mk none (Op.store _ (Operand.tmp 19) _) _ _ _ _ :: _) _ _; refine wpList_store_mid rfl 43 (.tmp 19) (.tmp 18) rfl wr.heap.size 1 pc2.toArray rfl rfl hth4 (by rw [List.size_toArray]; exact HI1) HO1 ?_; rw [HW4.out]) | (guard_target = wpList _ _ _ (Oper.mk (some 22) _ _ _ _ _ :: _) _ _; refine wpList_load_mid rfl 45 (.tmp 5) rfl wr.heap.size 0 rfl q.cells _ rq Tryd.underlying45 rfl HI2 ?_) | (guard_target = wpList _ _ _ (Oper.mk (some 23) _ _ _ _ _ :: _) _ _; refine build_seats1 (.tmp 22) q rfl ?_; rw [hW5.out]) | (guard_target = wpList _ _ _ (Oper.mk (some 24) _ _ _ _ _ :: _) _ _; refine append_seat rfl _ _ rfl W.heap.size wr.heap.size a' c' ts rfl o5 W4.heap.size 0 1 q rfl r5 W2.heap.size w3.heap.size oq5 (by omega) (by omega) hll (by omega) ?_) | fail)
   intro a9 c9 w9 o9 g9
   have HCM := HS.out q HV.out
   obtain ⟨ys, hys⟩ : ∃ ys, Hid (ts ++ [q] = ys) := ⟨_, rfl⟩
   have hyl : ts.length + 1 = ys.length := by rw [← hys.out]; simp
   rw [hys.out] at o9 HCM
   rw [hyl]
   clear hyl
   have hw9 : Within W.heap.size wr.heap.size W5 w9 := Within.of_grown g9 (fun j hj => ⟨(o5.row.lt j hj).1, o5.blk j hj⟩)
   have hs9 := hw9.size
   have hn9 : Below w.heap.size w w9 := hn5.trans (hw9.below (by omega) (by omega))
   have k29 := k25.within hw9 (by omega)
   have k19 := k15.within hw9 (by omega)
   have m0 := k29.cell 0 _ rfl
   have mf0 := k29.frozen 0
   obtain ⟨WF, hWF, kF, hwF, hsF⟩ := box_set k29 0 (.slice a9 ys.length c9)
   simp only [List.set] at kF
   have hsFa := Nat.le_of_eq hsF
   have hsFb := Nat.le_of_eq hsF.symm
   have k1F := k19.within hwF (by omega)
   have oF := (o9.within hwF (.inr (by omega))).widen (Nat.le_refl _) hsFb (Nat.le_refl _)
   have hnF : Below w.heap.size w WF := hn9.trans (hwF.below (by omega) (by omega))
   clear hwF k29 k19 o9 hsF g9 hw9 e0 k25 k15 o5 oq5 r5 rq HW4 hW5
   go_wp2_with fail
   rw [hWF.out]
   go_roundw
   case rel => exact ⟨k + 1, ys, a9, c9, by omega, by go_num, HCM, kF, k1F, oF, hnF, by omega⟩
   case measure => simp [intOf]; omega
  ·have HE : Hid (ts.map SeatA.v = rs.map SeatA.v) := by
    have e : k = rs.length := by omega
    rw [e] at hc
    exact hc.out.all
   have e0 := k2.cell 0 _ rfl
   have e1 := k2.cell 1 _ rfl
   have m0 := k1.cell 0 _ rfl
   have m1 := k1.cell 1 _ rfl
   have mf0 := k1.frozen 0
   have mf1 := k1.frozen 1
   obtain ⟨WF, hWF, bF, hwF, hsF⟩ := box2_fill k1 (.slice a' ts.length c') (.int .i64 s)
   have q0 := bF.cell 0 _ rfl
   have q1 := bF.cell 1 _ rfl
   have hoF := (hown.within hwF (.inr (by omega))).widen (show w.heap.size ≤ W.heap.size by omega) (show wr.heap.size ≤ WF.heap.size by omega) (Nat.le_refl _)
   have hbF : Below w.heap.size w WF := hnx.trans (hwF.below (by omega) (by have := hnx.size; omega))
   clear hwF hsF bF
   go_wp2
   rw [hWF.out]
   exact bodyPost_ret (v := .agg #[.slice a' ts.length c', .int .i64 s]) (by simp [results, Tryd.results32, go_sem, q0, q1]) rfl ⟨⟨ts, s, a', c'⟩, rfl, by simp only [Hid, PoolA.v]; rw [HE.out], hoF, hbF⟩
end Go.Proofs.YtoboickdkednkabDoor
namespace Go.Proofs.YtoboickdkednkabDoor
open Go.RowKit
def VictimAns (p : PoolA) (w : World) (e : Ending) (w' : World) : Prop :=
 ∃ (t : PoolA) (k : Int), e = .returned (.tuple #[.agg t.cells.toArray, .int .i64 k]) ∧ Hid (victimOf p.v = (t.v, k)) ∧ t.own w' w.heap.size w'.heap.size ∧ Below w.heap.size w w'
theorem victimOf_no {p : PoolV} (h : ¬ (okPool p = true ∧ p.seats.length = 3)) : victimOf p = (p, -1) := by rw [victimOf, if_neg h]
theorem victimOf_yes {p : PoolV} {h : Nat} (h1 : okPool p = true) (h2 : p.seats.length = 3) (hh : p.hand = h) : victimOf p = (PoolV.mk (victimV 4 p.seats h).1 ((victimV 4 p.seats h).2.1 : Int), ((victimV 4 p.seats h).2.2 : Int)) := by
 rw [victimOf, if_pos ⟨h1, h2⟩, hh]
 rfl
theorem okPool_handNat {p : PoolV} (h : okPool p = true) : ∃ n : Nat, p.hand = n ∧ n < 3 := by
 have h2 := (okPool_iff h).2.1
 simp only [inB, decide_eq_true_eq] at h2
 exact ⟨p.hand.toNat, by omega, by omega⟩
def hotAt (w : World) (g k : Nat) : Nat := match w.cell? ⟨g, k * 20 + 19, none⟩ with
 | some (.bool true) => 1
 | _ => 0
theorem three_of {α : Type} {ts : List α} (h : ts.length = 3) : ∃ x y z, ts = [x, y, z] := by
 match ts, h with
 | [x, y, z], _ => exact ⟨x, y, z, rfl⟩
def hotCells (g : Nat) (w : World) : Nat := hotAt w g 0 + hotAt w g 1 + hotAt w g 2
theorem hotAt_of {w : World} {lo hi g c : Nat} {ts : List SeatA} (h : OwnSts w lo hi (some ⟨g, 0, none⟩) c ts) (k : Nat) (hk : k < ts.length) : hotAt w g k = if (ts.getD k zeroSt).hot = true then 1 else 0 := by
 have hx : w.cell? ⟨g, k * 20 + 19, none⟩ = some (.bool (ts.getD k zeroSt).hot) := (row_seat h.row rfl k hk).1 19 _ rfl
 rw [hotAt, hx]
 cases (ts.getD k zeroSt).hot <;> rfl
theorem hotCells_of {w : World} {lo hi g c : Nat} {ts : List SeatA} (h : OwnSts w lo hi (some ⟨g, 0, none⟩) c ts) (hl : ts.length = 3) : hotCells g w = hots (ts.map SeatA.v) := by
 rw [hotCells, hotAt_of h 0 (by omega), hotAt_of h 1 (by omega), hotAt_of h 2 (by omega)]
 obtain ⟨x, y, z, rfl⟩ := three_of hl
 simp only [List.getD_cons_zero, List.getD_cons_succ, hots, List.map_cons, List.map_nil, List.filter_cons, List.filter_nil]
 have e : ∀ s : SeatA, s.v.hot = s.hot := fun _ => rfl
 rw [e, e, e]
 cases x.hot <;> cases y.hot <;> cases z.hot <;> rfl
def victimMeasure (a : Act) (w : World) : Nat :=
 match a.tmps.getD 4 undef with
 | .pointer (some ad) => match w.cell? ⟨ad.block, 0, none⟩ with
  | some (.slice (some b) _ _) => hotCells b.block w
  | _ => 0
 | _ => 0
structure VicSt (w : World) (lo B g c : Nat) (ts : List SeatA) (hand : Int) (w' : World) : Prop where
 out : Box w' B [.slice (some ⟨g, 0, none⟩) ts.length c, .int .i64 hand] 37
 res : Box w' (w.heap.size + 1) [.slice none 0 0, .int .i64 0] 37
 own : OwnSts w' lo B (some ⟨g, 0, none⟩) c ts
 lo1 : w.heap.size + 1 < lo
 loB : lo ≤ B
 len : ts.length = 3
 bel : Below w.heap.size w w'
theorem VicSt.cold {w wr : World} {lo B g c : Nat} {ts : List SeatA} {hand : Int} (st : VicSt w lo B g c ts hand wr) (k : Nat) (hk : k < 3) :
  ∃ W1, Hid (wr.setCell ⟨g, k * 20 + 19, none⟩ (.bool false) = W1) ∧ VicSt w lo B g c (ts.set k (ts.getD k zeroSt).cold) hand W1 := by
 have hkt : k < ts.length := by rw [st.len]; exact hk
 have hgl := st.own.blocks_lt g (by simp [blocksSts, Value.ownBlock])
 have hkl : (ts.take k).length = k := by rw [List.length_take]; omega
 have osp := st.own
 rw [seatD_split ts k hkt] at osp
 obtain ⟨o4, t4⟩ := osp.cellSet (z' := (ts.getD k zeroSt).cold) 19 (.bool false) (by omega) rfl rfl
 rw [hkl, ← seat_set ts k _ hkt] at o4
 rw [hkl] at t4
 have h1 := st.lo1
 have h2 := st.loB
 refine ⟨_, rfl, ?_, st.res.touch t4 (by simp; omega), o4, h1, h2, by simp [st.len], st.bel.trans ((t4.within (lo := lo) (hi := B) (fun j hj => by obtain rfl := List.mem_singleton.1 hj; exact hgl)).below (by omega) (by have := st.bel.size; omega))⟩
 have := st.out.touch t4 (by simp; omega)
 rw [List.length_set]
 exact this
theorem placeBehind_any (k : Nat) (hk : k < 3) (w : World) : Calls Tryd.prog 52 #[.int .i64 (k : Int)] w fun e w' => e = .returned (.int .i64 (((k + 1) % 3 : Nat) : Int)) ∧ w' = w := by
 have HM : Hid (((k : Int) + 1) % 3 = (((k + 1) % 3 : Nat) : Int)) := by rw [Hid]; omega
 go_enter Tryd.func52, Tryd.ntmps52
 go_wp2
 go_ret
 exact ⟨ret_int (by first | exact HM.out | omega), rfl⟩
theorem implVictim_any (p : PoolA) (w : World) (hg : ErrT w) (hr : p.reads w) (hl : p.short 1048576) :
  Calls Tryd.prog 34 #[.agg p.cells.toArray] w fun e w' => VictimAns p w e w' := by
 obtain ⟨W, hW, b0, b1, hbW, hsW⟩ := boxes2 w [.slice p.a p.seats.length p.c, .int .i64 p.hand] [.slice none 0 0, .int .i64 0] 37 37
 have hs0 : w.heap.size + 1 < W.heap.size := by omega
 have p0 := b0.cell 0 _ rfl
 have p1 := b0.cell 1 _ rfl
 have C := copyPool_any p W (PoolA.reads.below hr hbW) hl
 simp only [PoolA.cells] at *
 clear hsW
 go_enter Tryd.func34, Tryd.ntmps34
 go_wp2
 refine wp_scope_jumps 0 (fun a' w' => ∃ (lo B g c k n : Nat) (ts : List SeatA) (hand : Int) (x0 x3 x6 x7 x8 x9 x10 x11 x12 x13 x14 x15 x16 x17 x18 x19 x20 x21 x22 x23 x24 x25 x26 x27 x28 x29 x30 x31 x32 x33 x34 x35 x36 x37 : Value), a' = { tmps := #[x0, .pointer (some ⟨w.heap.size, 0, none⟩), .pointer (some ⟨w.heap.size + 1, 0, none⟩), x3, .pointer (some ⟨B, 0, none⟩), .int .i64 (k : Int), x6, x7, x8, x9, x10, x11, x12, x13, x14, x15, x16, x17, x18, x19, x20, x21, x22, x23, x24, x25, x26, x27, x28, x29, x30, x31, x32, x33, x34, x35, x36, x37], defers := [] } ∧ VicSt w lo B g c ts hand w' ∧ k < 3 ∧ Hid (victimOf p.v = (PoolV.mk (victimV n (ts.map SeatA.v) k).1 ((victimV n (ts.map SeatA.v) k).2.1 : Int), ((victimV n (ts.map SeatA.v) k).2.2 : Int))) ∧ hots (ts.map SeatA.v) < n) victimMeasure rfl ?_ ?_
 ·go_upto_region 1 with fail
  rw [hW.out]
  clear hW
  go_wp2_with fail
  refine C.mono ?_
  clear C p0 p1
  rintro e w1 ⟨t, rfl, hv, ho, hb1⟩
  have hs1 := hb1.size
  have b01 := b0.below hb1 b0.lt
  have b11 := b1.below hb1 b1.lt
  obtain ⟨W2, hW2, b2, hb2, hs2⟩ := boxes1 w1 [.slice t.a t.seats.length t.c, .int .i64 t.hand] 37
  have b02 := b01.below hb2 b01.lt
  have b12 := b11.below hb2 b11.lt
  have o2 := ho.below hb2
  have n2 : Below w.heap.size w W2 := (hbW.trans (hb1.mono (by omega))).trans (hb2.mono (by omega))
  have hs2' := b2.lt
  clear b0 b1 b01 b11 ho hb1 hb2 hs2 hbW
  go_upto_region 2 with fail
  rw [hW2.out]
  clear hW2
  have p0 := b02.cell 0 _ rfl
  have p1 := b02.cell 1 _ rfl
  have HV : Hid (t.v = p.v) := hv.out
  clear hv
  have C := implPoolOk_any p W2 (hg.keep n2) (PoolA.reads.below hr n2) (PoolA.short_wide hl)
  simp only [PoolA.cells] at C
  go_wp2_with fail
  refine C.mono ?_
  clear C p0 p1
  rintro e w3 ⟨rfl, hb3⟩
  have hs3 := hb3.size
  have b03 := b02.below hb3 b02.lt
  have b13 := b12.below hb3 b12.lt
  have b23 := b2.below hb3 b2.lt
  have o3 := o2.below hb3
  have n3 : Below w.heap.size w w3 := n2.trans (hb3.mono n2.size)
  have p0 := b03.cell 0 _ rfl
  have p1 := b03.cell 1 _ rfl
  clear b02 b12 b2 o2 n2 hb3
  by_cases hyes : okPool p.v = true ∧ p.seats.length = 3
  ·obtain ⟨h1, h2⟩ := hyes
   obtain ⟨k, hh, hk3⟩ := okPool_handNat h1
   have HVO := victimOf_yes (h := k) h1 (by simpa [PoolA.v] using h2) hh
   have hne : ((p.seats.length : Int) != 3) = false := by rw [h2]; rfl
   rw [h1]
   clear h1
   have hph : p.hand = (k : Int) := hh
   rw [hph] at p1
   obtain ⟨ts, hand, a, c⟩ := t
   simp only [PoolA.own] at *
   have htl : ts.length = 3 := by
    have e := congrArg (fun v => v.seats.length) HV.out
    simp only [PoolA.v, List.length_map] at e
    omega
   obtain ⟨g, rfl⟩ : ∃ g, a = some ⟨g, 0, none⟩ := by
    rcases o3.row.2 with ⟨_, h0⟩ | ⟨g, cap', cur, hv, _⟩
    ·omega
    ·simp only [Value.slice.injEq] at hv; exact ⟨g, hv.1⟩
   have st : VicSt w W.heap.size w1.heap.size g c ts hand w3 := ⟨b23, b13, o3, hs0, hs1, htl, n3⟩
   have eps : p.v.seats = ts.map SeatA.v := by rw [← HV.out]; rfl
   rw [eps] at HVO
   have hvv0 : Hid (victimOf p.v = (PoolV.mk (victimV 4 (ts.map SeatA.v) k).1 ((victimV 4 (ts.map SeatA.v) k).2.1 : Int), ((victimV 4 (ts.map SeatA.v) k).2.2 : Int))) := HVO
   obtain ⟨n, hvv, hhot⟩ : ∃ n, Hid (victimOf p.v = (PoolV.mk (victimV n (ts.map SeatA.v) k).1 ((victimV n (ts.map SeatA.v) k).2.1 : Int), ((victimV n (ts.map SeatA.v) k).2.2 : Int))) ∧ hots (ts.map SeatA.v) < n := ⟨4, hvv0, by have := hots_le (ts.map SeatA.v); rw [List.length_map] at this; omega⟩
   obtain ⟨lo, hlo⟩ : ∃ lo, Hid (W.heap.size = lo) := ⟨_, rfl⟩
   obtain ⟨B, hB⟩ : ∃ B, Hid (w1.heap.size = B) := ⟨_, rfl⟩
   rw [hlo.out, hB.out] at st
   have hs2n : Hid (p.seats.length = 3) := h2
   clear hvv0 HVO eps b23 b13 o3 htl n3 b03 hh h2 hph hlo hs0 hs1 hs2' hs3 HV
   rw [hB.out]
   clear hB
   generalize p.hand = hp at *
   obtain ⟨wr, hwr⟩ : ∃ wr, Hid (w3 = wr) := ⟨_, rfl⟩
   rw [hwr.out] at st p0 p1 ⊢
   clear hwr w3
   go_wp2_with fail
   go_step3
   clear p0 p1
   have hkt : k < ts.length := by rw [st.len]; exact hk3
   have x0 := st.out.cell 0 _ rfl
   have x19 : wr.cell? ⟨g, k * 20 + 19, none⟩ = some (.bool (ts.getD k zeroSt).hot) := (row_seat st.own.row rfl k hkt).1 19 _ rfl
   have f19 := st.own.row.frozenAt (k * 20 + 19)
   have hkk : (k : Int) < (ts.length : Int) := by omega
   have hk0 : (0 : Int) ≤ (k : Int) := by omega
   obtain ⟨m, rfl⟩ : ∃ m, n = m + 1 := ⟨n - 1, by omega⟩
   have hlm : ts.length ≤ 3 := by rw [st.len]; omega
   rw [victim_step] at hvv
   by_cases hot : (ts.getD k zeroSt).hot = true
   ·
    rw [if_pos hot] at hvv
    rw [hot] at x19
    obtain ⟨W1, hW1, st1⟩ := st.cold k hk3
    have C := placeBehind_any k hk3 W1
    have HV1 : Hid (victimOf p.v = (PoolV.mk (victimV m ((ts.set k (ts.getD k zeroSt).cold).map SeatA.v) ((k + 1) % 3)).1 ((victimV m ((ts.set k (ts.getD k zeroSt).cold).map SeatA.v) ((k + 1) % 3)).2.1 : Int), ((victimV m ((ts.set k (ts.getD k zeroSt).cold).map SeatA.v) ((k + 1) % 3)).2.2 : Int))) := by
     rw [List.map_set, cold_v]
     exact hvv
    have HH1 : hots ((ts.set k (ts.getD k zeroSt).cold).map SeatA.v) + 1 = hots (ts.map SeatA.v) := by
     have h := hots_set (ts.map SeatA.v) k (by simpa using hkt) (by rw [seatV_at]; exact hot)
     rw [seatV_at] at h
     rw [List.map_set, cold_v]
     exact h
    have HMS : Hid (hotCells g W1 < hotCells g wr) := by rw [Hid, hotCells_of st1.own st1.len, hotCells_of st.own st.len]; omega
    have HK : Hid ((k + 1) % 3 < 3) := Nat.mod_lt _ (by omega)
    have HCW : Hid (W1.cell? ⟨B, 0, none⟩ = some (.slice (some ⟨g, 0, none⟩) ts.length c) ∧ wr.cell? ⟨B, 0, none⟩ = some (.slice (some ⟨g, 0, none⟩) ts.length c)) := ⟨by have := st1.out.cell 0 _ rfl; rw [List.length_set] at this; exact this, x0⟩
    have HHM : Hid (hots ((ts.set k (ts.getD k zeroSt).cold).map SeatA.v) < m) := by rw [Hid]; omega
    clear hvv hot HH1 hhot st
    generalize hts : ts.set k (ts.getD k zeroSt).cold = ts1 at *
    clear hts
    generalize (k + 1) % 3 = k1 at *
    go_wp2_with fail
    rw [hW1.out]
    refine C.mono ?_
    clear C x0 x19 f19 hW1
    rintro e u ⟨rfl, hu⟩
    rw [hu]
    clear hu u
    go_wp2
    go_step3
    exact ⟨rfl, lo, B, g, c, k1, m, ts1, hand, _, _, _, _, _, _, _, _, _, _, _, _, _, _, _, _, _, _, _, _, _, _, _, _, _, _, _, _, _, _, _, _, _, _, rfl, st1, HK.out, HV1, HHM.out⟩
   ·
    rw [if_neg hot] at hvv
    have hotf : (ts.getD k zeroSt).hot = false := by simpa using hot
    rw [hotf] at x19
    have C := placeBehind_any k hk3 wr
    have HFIN : Hid (victimOf p.v = (PoolA.v ⟨ts, (((k + 1) % 3 : Nat) : Int), some ⟨g, 0, none⟩, c⟩, (k : Int))) := hvv.out
    have y1 := st.out.cell 1 _ rfl
    have yf1 := st.out.frozen 1
    have hl1 := st.lo1
    have hl2 := st.loB
    obtain ⟨W1, hW1, bo1, hw1, hs1⟩ := box_set st.out 1 (.int .i64 (((k + 1) % 3 : Nat) : Int))
    simp only [List.set] at bo1
    have br1 := st.res.within hw1 (by omega)
    have ow1 := st.own.within hw1 (.inl (Nat.le_refl _))
    have n1 : Below w.heap.size w W1 := st.bel.trans (hw1.below (by omega) (by have := st.bel.size; omega))
    have e0 := bo1.cell 0 _ rfl
    have e1 := bo1.cell 1 _ rfl
    have m0 := br1.cell 0 _ rfl
    have m1 := br1.cell 1 _ rfl
    have mf0 := br1.frozen 0
    have mf1 := br1.frozen 1
    obtain ⟨WF, hWF, bF, hwF, hsF⟩ := box2_fill br1 (.slice (some ⟨g, 0, none⟩) ts.length c) (.int .i64 (((k + 1) % 3 : Nat) : Int))
    have q0 := bF.cell 0 _ rfl
    have q1 := bF.cell 1 _ rfl
    have hBW := bo1.lt
    have hoF := (ow1.within hwF (.inr (by omega))).widen (show w.heap.size ≤ lo by omega) (show B ≤ WF.heap.size by omega) (Nat.le_refl _)
    have hbF : Below w.heap.size w WF := n1.trans (hwF.below (by omega) (by have := n1.size; omega))
    clear hvv hot hotf hhot st bo1 br1 ow1 n1 hwF hsF bF hw1 hs1
    generalize (((k + 1) % 3 : Nat) : Int) = k1 at *
    go_wp2_with fail
    refine C.mono ?_
    clear C x0 x19 f19
    rintro e u ⟨rfl, hu⟩
    rw [hu]
    clear hu u
    go_upto_region 9 with fail
    rw [hW1.out]
    clear hW1
    go_wp2_with fail
    rw [hWF.out]
    simp only [Exit.jump]
    exact bodyPost_ret (v := .tuple #[.agg #[.slice (some ⟨g, 0, none⟩) ts.length c, .int .i64 k1], .int .i64 (k : Int)]) (by simp [results, Tryd.results34, go_sem, q0, q1]) rfl ⟨⟨ts, k1, some ⟨g, 0, none⟩, c⟩, k, rfl, HFIN, hoF, hbF⟩
  ·have HVK : Hid (victimOf p.v = (t.v, -1)) := by
    rw [Hid, victimOf_no (by simpa [PoolA.v] using hyes), HV.out]
   cases h1 : okPool p.v with
   | true =>
    have hne : ((p.seats.length : Int) != 3) = true := by
     have : ¬ p.seats.length = 3 := fun h => hyes ⟨h1, h⟩
     simp only [bne_iff_ne, ne_eq]
     omega
    clear hyes HV h1
    have e0 := b23.cell 0 _ rfl
    have e1 := b23.cell 1 _ rfl
    have m0 := b13.cell 0 _ rfl
    have m1 := b13.cell 1 _ rfl
    have mf0 := b13.frozen 0
    have mf1 := b13.frozen 1
    obtain ⟨WF, hWF, bF, hwF, hsF⟩ := box2_fill b13 (.slice t.a t.seats.length t.c) (.int .i64 t.hand)
    have q0 := bF.cell 0 _ rfl
    have q1 := bF.cell 1 _ rfl
    have hoF := (PoolA.own.within o3 hwF (.inr (by omega))).widen (show w.heap.size ≤ W.heap.size by omega) (show w1.heap.size ≤ WF.heap.size by omega) (Nat.le_refl _)
    have hbF : Below w.heap.size w WF := n3.trans (hwF.below (by omega) (by omega))
    clear hwF hsF bF o3 b13 b23
    go_wp2_with fail
    rw [hWF.out]
    simp only [Exit.jump]
    exact bodyPost_ret (v := .tuple #[.agg #[.slice t.a t.seats.length t.c, .int .i64 t.hand], .int .i64 (-1)]) (by simp [results, Tryd.results34, go_sem, q0, q1]) rfl ⟨t, -1, rfl, HVK, hoF, hbF⟩
   | false =>
    clear hyes HV h1
    have e0 := b23.cell 0 _ rfl
    have e1 := b23.cell 1 _ rfl
    have m0 := b13.cell 0 _ rfl
    have m1 := b13.cell 1 _ rfl
    have mf0 := b13.frozen 0
    have mf1 := b13.frozen 1
    obtain ⟨WF, hWF, bF, hwF, hsF⟩ := box2_fill b13 (.slice t.a t.seats.length t.c) (.int .i64 t.hand)
    have q0 := bF.cell 0 _ rfl
    have q1 := bF.cell 1 _ rfl
    have hoF := (PoolA.own.within o3 hwF (.inr (by omega))).widen (show w.heap.size ≤ W.heap.size by omega) (show w1.heap.size ≤ WF.heap.size by omega) (Nat.le_refl _)
    have hbF : Below w.heap.size w WF := n3.trans (hwF.below (by omega) (by omega))
    clear hwF hsF bF o3 b13 b23
    go_wp2_with fail
    rw [hWF.out]
    simp only [Exit.jump]
    exact bodyPost_ret (v := .tuple #[.agg #[.slice t.a t.seats.length t.c, .int .i64 t.hand], .int .i64 (-1)]) (by simp [results, Tryd.results34, go_sem, q0, q1]) rfl ⟨t, -1, rfl, HVK, hoF, hbF⟩
 ·clear C hW b0 b1 p0 p1 hr hl hg hbW hs0
  rintro a' wr ⟨lo, B, g, c, k, n, ts, hand, z0, x3, x6, x7, x8, x9, x10, x11, x12, x13, x14, x15, x16, x17, x18, z19, x20, x21, x22, x23, x24, x25, x26, x27, x28, x29, x30, x31, x32, x33, x34, x35, x36, x37, rfl, st, hk3, hvv, hhot⟩
  have hkt : k < ts.length := by rw [st.len]; exact hk3
  have x0 := st.out.cell 0 _ rfl
  have x19 : wr.cell? ⟨g, k * 20 + 19, none⟩ = some (.bool (ts.getD k zeroSt).hot) := (row_seat st.own.row rfl k hkt).1 19 _ rfl
  have f19 := st.own.row.frozenAt (k * 20 + 19)
  have hkk : (k : Int) < (ts.length : Int) := by omega
  have hk0 : (0 : Int) ≤ (k : Int) := by omega
  obtain ⟨m, rfl⟩ : ∃ m, n = m + 1 := ⟨n - 1, by omega⟩
  have hlm : ts.length ≤ 3 := by rw [st.len]; omega
  rw [victim_step] at hvv
  by_cases hot : (ts.getD k zeroSt).hot = true
  ·
   rw [if_pos hot] at hvv
   rw [hot] at x19
   obtain ⟨W1, hW1, st1⟩ := st.cold k hk3
   have C := placeBehind_any k hk3 W1
   have HV1 : Hid (victimOf p.v = (PoolV.mk (victimV m ((ts.set k (ts.getD k zeroSt).cold).map SeatA.v) ((k + 1) % 3)).1 ((victimV m ((ts.set k (ts.getD k zeroSt).cold).map SeatA.v) ((k + 1) % 3)).2.1 : Int), ((victimV m ((ts.set k (ts.getD k zeroSt).cold).map SeatA.v) ((k + 1) % 3)).2.2 : Int))) := by
    rw [List.map_set, cold_v]
    exact hvv
   have HH1 : hots ((ts.set k (ts.getD k zeroSt).cold).map SeatA.v) + 1 = hots (ts.map SeatA.v) := by
    have h := hots_set (ts.map SeatA.v) k (by simpa using hkt) (by rw [seatV_at]; exact hot)
    rw [seatV_at] at h
    rw [List.map_set, cold_v]
    exact h
   have HMS : Hid (hotCells g W1 < hotCells g wr) := by rw [Hid, hotCells_of st1.own st1.len, hotCells_of st.own st.len]; omega
   have HK : Hid ((k + 1) % 3 < 3) := Nat.mod_lt _ (by omega)
   have HCW : Hid (W1.cell? ⟨B, 0, none⟩ = some (.slice (some ⟨g, 0, none⟩) ts.length c) ∧ wr.cell? ⟨B, 0, none⟩ = some (.slice (some ⟨g, 0, none⟩) ts.length c)) := ⟨by have := st1.out.cell 0 _ rfl; rw [List.length_set] at this; exact this, x0⟩
   have HHM : Hid (hots ((ts.set k (ts.getD k zeroSt).cold).map SeatA.v) < m) := by rw [Hid]; omega
   clear hvv hot HH1 hhot st
   generalize hts : ts.set k (ts.getD k zeroSt).cold = ts1 at *
   clear hts
   generalize (k + 1) % 3 = k1 at *
   go_wp2_with fail
   rw [hW1.out]
   refine C.mono ?_
   clear C x0 x19 f19 hW1
   rintro e u ⟨rfl, hu⟩
   rw [hu]
   clear hu u
   go_wp2
   go_step3
   refine ⟨rfl, ⟨lo, B, g, c, k1, m, ts1, hand, _, _, _, _, _, _, _, _, _, _, _, _, _, _, _, _, _, _, _, _, _, _, _, _, _, _, _, _, _, _, _, _, _, _, rfl, st1, HK.out, HV1, HHM.out⟩, ?_⟩
   have h1 := HMS.out
   have e1 := HCW.out.1
   have e2 := HCW.out.2
   simp only [victimMeasure]
   simpa [e1, e2] using h1
  ·
   rw [if_neg hot] at hvv
   have hotf : (ts.getD k zeroSt).hot = false := by simpa using hot
   rw [hotf] at x19
   have C := placeBehind_any k hk3 wr
   have HFIN : Hid (victimOf p.v = (PoolA.v ⟨ts, (((k + 1) % 3 : Nat) : Int), some ⟨g, 0, none⟩, c⟩, (k : Int))) := hvv.out
   have y1 := st.out.cell 1 _ rfl
   have yf1 := st.out.frozen 1
   have hl1 := st.lo1
   have hl2 := st.loB
   obtain ⟨W1, hW1, bo1, hw1, hs1⟩ := box_set st.out 1 (.int .i64 (((k + 1) % 3 : Nat) : Int))
   simp only [List.set] at bo1
   have br1 := st.res.within hw1 (by omega)
   have ow1 := st.own.within hw1 (.inl (Nat.le_refl _))
   have n1 : Below w.heap.size w W1 := st.bel.trans (hw1.below (by omega) (by have := st.bel.size; omega))
   have e0 := bo1.cell 0 _ rfl
   have e1 := bo1.cell 1 _ rfl
   have m0 := br1.cell 0 _ rfl
   have m1 := br1.cell 1 _ rfl
   have mf0 := br1.frozen 0
   have mf1 := br1.frozen 1
   obtain ⟨WF, hWF, bF, hwF, hsF⟩ := box2_fill br1 (.slice (some ⟨g, 0, none⟩) ts.length c) (.int .i64 (((k + 1) % 3 : Nat) : Int))
   have q0 := bF.cell 0 _ rfl
   have q1 := bF.cell 1 _ rfl
   have hBW := bo1.lt
   have hoF := (ow1.within hwF (.inr (by omega))).widen (show w.heap.size ≤ lo by omega) (show B ≤ WF.heap.size by omega) (Nat.le_refl _)
   have hbF : Below w.heap.size w WF := n1.trans (hwF.below (by omega) (by have := n1.size; omega))
   clear hvv hot hotf hhot st bo1 br1 ow1 n1 hwF hsF bF hw1 hs1
   generalize (((k + 1) % 3 : Nat) : Int) = k1 at *
   go_wp2_with fail
   refine C.mono ?_
   clear C x0 x19 f19
   rintro e u ⟨rfl, hu⟩
   rw [hu]
   clear hu u
   go_upto_region 9 with fail
   rw [hW1.out]
   clear hW1
   go_wp2_with fail
   rw [hWF.out]
   simp only [Exit.jump]
   exact bodyPost_ret (v := .tuple #[.agg #[.slice (some ⟨g, 0, none⟩) ts.length c, .int .i64 k1], .int .i64 (k : Int)]) (by simp [results, Tryd.results34, go_sem, q0, q1]) rfl ⟨⟨ts, k1, some ⟨g, 0, none⟩, c⟩, k, rfl, HFIN, hoF, hbF⟩
end Go.Proofs.YtoboickdkednkabDoor