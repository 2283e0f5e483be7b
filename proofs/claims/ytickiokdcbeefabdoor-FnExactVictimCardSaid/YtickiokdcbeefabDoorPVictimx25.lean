/- Several texts in one, in their order. -/
import Derived.Test.YtickiokdcbeefabDoorPVictimx24
import Derived.Test.YtickiokdcbeefabDoorPVictimx21
import Derived.Test.YtickiokdcbeefabDoorPVictimx23
import Derived.Test.YtickiokdcbeefabDoorPVictimx18
import Derived.Deep.RegionLaw
import Derived.Deep.DrawnRows
import Derived.Test.YtickiokdcbeefabDoorPVictimx13
import Derived.Test.YtickiokdcbeefabDoorPVictimx16
import Derived.Test.YtickiokdcbeefabDoorPVictimx17
/- The walk of spec.l6Copy. -/
namespace Go.Proofs.YtickiokdcbeefabDoor
open Go.RowKit
attribute [local go_sem ↓] Go.wp_at_zero Go.wp_at_succ

set_option maxHeartbeats 4000000 in
set_option maxRecDepth 100000 in
theorem l6Copy_any (l : PoolA) (w : World) (hr : l.reads w) (hl : l.short 1048576) :
    Calls Tryd.prog 25 #[.agg l.cells.toArray] w fun e w' => ∃ t : PoolA, e = .returned (.agg t.cells.toArray) ∧ Hid (t.v = l.v) ∧ t.own w' w.heap.size w'.heap.size ∧ Below w.heap.size w w' := by
  obtain ⟨rs, s, a, c⟩ := l
  have hl2 := (PoolA.short_wide hl).each
  have hl0 := hl.len
  simp only [PoolA.reads, PoolA.cells, PoolA.own] at *
  obtain ⟨W, hW, b0, b1, b2, hbW, hsW⟩ := boxes3 w [.slice a rs.length c, .int .i64 s] [.slice none 0 0, .int .i64 0] [.slice none 0 0, .int .i64 s] 28 28 28
  have hs0 : w.heap.size + 1 + 1 < W.heap.size := by omega
  clear hsW
  have x0 := b0.cell 0 _ rfl
  have x1 := b0.cell 1 _ rfl
  have HC : Hid (∀ k, k < rs.length → ∃ b off, a = some ⟨b, off, none⟩ ∧ w.rangeAt b (off + k * 20) (rs.getD k zeroSt).cells ∧ (rs.getD k zeroSt).reads w ∧ (rs.getD k zeroSt).short 1099511627776) := fun k hk => by
    obtain ⟨b, off, ha, hc⟩ := hr (by intro e; rw [e] at hk; simp at hk)
    exact ⟨b, off, ha, (hc k hk).1, (hc k hk).2, hl2 _ (seatD_mem rs k hk)⟩
  have HI : Hid ((Tryd.prog.info? 51).map (·.size) = some 20) := by rw [Hid]; kernel_rfl
  clear hr hl hl2
  go_enter Tryd.func25, Tryd.ntmps25
  go_wp2_with fail
  rw [hW.out]
  clear hW x0 x1
  go_loopw [4] (fun i wr => ∃ (k : Nat) (ts : List SeatA) (a' : Option Addr) (c' : Nat), k ≤ rs.length ∧ i = .int .i64 k ∧ Hid (CameSt rs ts k) ∧ Box wr (w.heap.size + 1 + 1) [.slice a' ts.length c', .int .i64 s] 28 ∧ Box wr w.heap.size [.slice a rs.length c, .int .i64 s] 28 ∧ Box wr (w.heap.size + 1) [.slice none 0 0, .int .i64 0] 28 ∧ OwnSts wr W.heap.size wr.heap.size a' c' ts ∧ Below w.heap.size w wr ∧ W.heap.size ≤ wr.heap.size)
    (fun i _ => rs.length - (intOf i).toNat)
  case atStart => exact ⟨0, [], none, 0, Nat.zero_le _, rfl, cameSt_none rs, b2, b0, b1, ownSts_nil _ _ _ (Nat.le_refl _), hbW, Nat.le_refl _⟩
  case round =>
    obtain ⟨k, ts, a', c', hk, rfl, hc, k2, k0, k1, hown, hnx, hsz⟩ := hrel
    clear b0 b1 b2 hbW
    have x0 := k0.cell 0 _ rfl
    by_cases hlt : k < rs.length
    · obtain ⟨b, off, rfl, hcell, hrd, hsh⟩ := HC.out k hlt
      have hbB := rangeSt_lt hcell
      have hnw := hnx.size
      have HR : Hid (∀ u, Below w.heap.size w u → u.rangeAt b (off + k * 20) (rs.getD k zeroSt).cells) := fun u hu => rangeAt_below hcell hu hbB
      have HS : Hid (∀ q : SeatA, q.v = (rs.getD k zeroSt).v → CameSt rs (ts ++ [q]) (k + 1)) := fun q hq => hc.out.snoc hlt hq
      have HL : Hid (ts.length = k) := hc.out.1
      clear hcell HC
      generalize rs.getD k zeroSt = z at *
      have e0 := k2.cell 0 _ rfl
      have HSS : Hid (∀ u, Below w.heap.size w u → Box u w.heap.size [.slice (some ⟨b, off, none⟩) rs.length c, .int .i64 s] 28 → u.rangeAt b (off + k * 20) z.cells ∧ u.cell? ⟨w.heap.size, 0, none⟩ = some (.slice (some ⟨b, off, none⟩) rs.length c)) := fun u h1 h2 => ⟨HR.out u h1, h2.cell 0 _ rfl⟩
      go_wp2_with fail
      refine wp_region_held_drew (S := fun w' => w'.rangeAt b (off + k * 20) z.cells ∧ w'.cell? ⟨w.heap.size, 0, none⟩ = some (.slice (some ⟨b, off, none⟩) rs.length c)) (by kernel_rfl) ?_ (fun hHeld => ?_)
      · exact HSS.out _ hnx.drew (k0.drewN 1)
      refine wpAnyH_take (i := 0) (v := .pointer (some ⟨w.heap.size + 1 + 1, 0, none⟩)) rfl (by kernel_rfl) (by kernel_rfl) (by kernel_rfl) (fun _ _ _ h => h) (Or.inl ⟨by rfl, ?_⟩) hHeld ?_
      · intro w' hSw
        go_simp <;> rfl
      try simp only [Act.put, List.getElem_toArray, List.getElem_cons_zero, List.setIfInBounds_toArray, List.set_cons_zero, List.set_cons_succ]
      refine wpAnyH_take (i := 2) (v := .pointer (some ⟨w.heap.size, 0, none⟩)) rfl (by kernel_rfl) (by kernel_rfl) (by kernel_rfl) (fun _ _ _ h => h) (Or.inl ⟨by rfl, ?_⟩) hHeld ?_
      · intro w' hSw
        go_simp <;> rfl
      try simp only [Act.put, List.getElem_toArray, List.getElem_cons_zero, List.getElem_cons_succ, List.setIfInBounds_toArray, List.set_cons_zero, List.set_cons_succ]
      refine wpAnyH_take (i := 3) (v := .slice (some ⟨b, off, none⟩) rs.length c) rfl (by kernel_rfl) (by kernel_rfl) (by kernel_rfl) (fun _ _ _ h => h) (Or.inl ⟨by rfl, ?_⟩) hHeld ?_
      · intro w' hSw
        have hx := hSw.2
        go_simp <;> rfl
      try simp only [Act.put, List.getElem_toArray, List.getElem_cons_zero, List.getElem_cons_succ, List.setIfInBounds_toArray, List.set_cons_zero, List.set_cons_succ]
      refine wpAnyH_take (i := 4) (v := .int .i64 k) rfl (by kernel_rfl) (by kernel_rfl) (by kernel_rfl) (fun _ _ _ h => h) (Or.inl ⟨by rfl, ?_⟩) hHeld ?_
      · intro w' hSw
        go_simp <;> rfl
      try simp only [Act.put, List.getElem_toArray, List.getElem_cons_zero, List.getElem_cons_succ, List.setIfInBounds_toArray, List.set_cons_zero, List.set_cons_succ]
      refine wpAnyH_take (i := 5) (v := .pointer (some ⟨b, off + k * 20, none⟩)) rfl (by kernel_rfl) (by kernel_rfl) (by kernel_rfl) (fun _ _ _ h => h) (Or.inl ⟨by rfl, ?_⟩) hHeld ?_
      · intro w' hSw
        go_simp <;> rfl
      try simp only [Act.put, List.getElem_toArray, List.getElem_cons_zero, List.getElem_cons_succ, List.setIfInBounds_toArray, List.set_cons_zero, List.set_cons_succ]
      refine wpAnyH_take (i := 6) rfl (by kernel_rfl) (by kernel_rfl) (by kernel_rfl) (fun _ _ _ h => h) (yieldsIf_load_mid (by rfl) _ _ rfl _ _ rfl z.cells _ (fun _ h => h.1) Tryd.underlying51 rfl HI.out) hHeld ?_
      try simp only [Act.put, List.getElem_toArray, List.getElem_cons_zero, List.getElem_cons_succ, List.setIfInBounds_toArray, List.set_cons_zero, List.set_cons_succ]
      have hnd : Below wr.heap.size wr wr.drew := (Below.refl _ _).drew
      have C := l6CopySeat_own z wr.drew (hrd.below hnx.drew) hsh
      refine wpAnyH_ready (rs := [1, 7]) (by kernel_rfl) (by simp) ?_
      refine AllReadyH.cons rfl (fun K hK => ?_) (AllReadyH.cons rfl (fun K hK => ?_) AllReadyH.nil)
      · go_simp
        refine hK.out _ _ (hHeld) (fun hHeld => ?_)
        clear hK K
        try simp only [Act.put, List.getElem_toArray, List.getElem_cons_zero, List.getElem_cons_succ, List.setIfInBounds_toArray, List.set_cons_zero, List.set_cons_succ]
        refine wpAnyH_ready (rs := [7]) (by kernel_rfl) (by simp) ?_
        refine AllReadyH.cons rfl (fun K hK => ?_) AllReadyH.nil
        go_simp
        refine C.mono ?_
        clear C
        rintro e u2 ⟨q, rfl, hq, hqo, hb2⟩
        have hb2' : Below wr.heap.size wr u2 := hnd.trans hb2
        have hn2 : Below w.heap.size w u2 := hnx.trans (hb2'.mono hnw)
        have k22 := k2.below hb2' k2.lt
        have k02 := k0.below hb2' k0.lt
        have k12 := k1.below hb2' k1.lt
        have o2 := hown.below hb2'
        have hqo2 : q.own u2 wr.heap.size u2.heap.size := hqo
        have hs2 := hb2'.size
        refine hK.out _ _ (HSS.out _ hn2 k02) (fun hHeld => ?_)
        clear hK K
        try simp only [Act.put, List.getElem_toArray, List.getElem_cons_zero, List.getElem_cons_succ, List.setIfInBounds_toArray, List.set_cons_zero, List.set_cons_succ]
        refine wpAnyH_ready (rs := [8]) (by kernel_rfl) (by simp) ?_
        refine AllReadyH.cons rfl (fun K hK => ?_) AllReadyH.nil
        go_simp
        simp only [cellsSt_len, lit_seat, not_true_eq_false, Nat.lt_irrefl, or_self, if_false]
        go_simp
        obtain ⟨W3, hW3, b3, hb3, hs3⟩ := boxes1 u2 q.cells 51
        rw [hW3.out]
        have hn3 : Below w.heap.size w W3 := hn2.trans (hb3.mono hn2.size)
        have k23 := k22.below hb3 k22.lt
        have k03 := k02.below hb3 k02.lt
        have k13 := k12.below hb3 k12.lt
        have o3 := o2.below hb3
        have hqo3 := hqo2.below hb3
        have r3 : W3.rangeAt u2.heap.size 0 q.cells := Box.range [] q.cells [] (by simpa using b3)
        have hs3' := b3.lt
        clear hs3 hb3 hW3 b3 k02 k12 o2 hqo2
        refine hK.out _ _ (HSS.out _ hn3 k03) (fun hHeld => ?_)
        clear hK K
        try simp only [Act.put, List.getElem_toArray, List.getElem_cons_zero, List.getElem_cons_succ, List.setIfInBounds_toArray, List.set_cons_zero, List.set_cons_succ]
        have hll : ts.length + 1 ≤ 68719476736 := by have := HL.out; omega
        refine wpAnyH_ready (rs := [9]) (by kernel_rfl) (by simp) ?_
        refine AllReadyH.cons rfl (fun K hK => ?_) AllReadyH.nil
        refine step_append_seat rfl (.tmp 16) (.tmp 23) rfl W.heap.size wr.heap.size a' c' ts rfl o3 u2.heap.size 0 1 q rfl r3 wr.heap.size u2.heap.size hqo3 (Nat.le_refl _) (by omega) hll hsz ?_
        intro a9 c9 w9 o9 g9 _
        have HCM := HS.out q hq.out
        obtain ⟨ys, hys⟩ : ∃ ys, Hid (ts ++ [q] = ys) := ⟨_, rfl⟩
        rw [hys.out] at o9 HCM ⊢
        have hw9 : Within W.heap.size wr.heap.size W3 w9 := Within.of_grown g9 (fun j hj => ⟨(o3.row.lt j hj).1, o3.blk j hj⟩)
        have hs9 := hw9.size
        have hn9 : Below w.heap.size w w9 := hn3.trans (hw9.below (by omega) (by omega))
        have k29 := k23.within hw9 (by omega)
        have k09 := k03.within hw9 (by omega)
        have k19 := k13.within hw9 (by omega)
        refine hK.out _ _ (HSS.out _ hn9 k09) (fun hHeld => ?_)
        clear hK K hw9 g9 o3 r3 hqo3 k23 k03 k13
        try simp only [Act.put, List.getElem_toArray, List.getElem_cons_zero, List.getElem_cons_succ, List.setIfInBounds_toArray, List.set_cons_zero, List.set_cons_succ]
        refine wpAnyH_take (i := 10) (v := .pointer (some ⟨w.heap.size + 1 + 1, 0, none⟩)) rfl (by kernel_rfl) (by kernel_rfl) (by kernel_rfl) (fun _ _ _ h => h) (Or.inl ⟨by rfl, ?_⟩) hHeld ?_
        · intro w' hSw
          go_simp <;> rfl
        try simp only [Act.put, List.getElem_toArray, List.getElem_cons_zero, List.getElem_cons_succ, List.setIfInBounds_toArray, List.set_cons_zero, List.set_cons_succ]
        have m0 := k29.cell 0 _ rfl
        have mf0 := k29.frozen 0
        obtain ⟨WF, hWF, kF, hwF, hsF⟩ := box_set k29 0 (.slice a9 ys.length c9)
        simp only [List.set] at kF
        have hsFa := Nat.le_of_eq hsF
        have hsFb := Nat.le_of_eq hsF.symm
        clear hsF
        have k0F := k09.within hwF (by omega)
        have k1F := k19.within hwF (by omega)
        have oF := (o9.within hwF (.inr (by omega))).widen (Nat.le_refl _) hsFb (Nat.le_refl _)
        have hnF : Below w.heap.size w WF := hn9.trans (hwF.below (by omega) (by omega))
        clear hwF k29 k09 k19 o9
        refine wpAnyH_ready (rs := [11]) (by kernel_rfl) (by simp) ?_
        refine AllReadyH.cons rfl (fun K hK => ?_) AllReadyH.nil
        go_simp
        rw [hWF.out]
        refine hK.out _ _ (HSS.out _ hnF k0F) (fun hHeld => ?_)
        clear hK K
        try simp only [Act.put, List.getElem_toArray, List.getElem_cons_zero, List.getElem_cons_succ, List.setIfInBounds_toArray, List.set_cons_zero, List.set_cons_succ]
        refine wpAnyH_done (by kernel_rfl) ?_ _
        clear m0 mf0 hWF
        go_wp2_with fail
        go_roundw
        case rel => exact ⟨k + 1, ys, a9, c9, by omega, by go_num, HCM, kF, k0F, k1F, oF, hnF, by omega⟩
        case measure => simp [intOf]; omega
      · go_simp
        refine C.mono ?_
        clear C
        rintro e u2 ⟨q, rfl, hq, hqo, hb2⟩
        have hb2' : Below wr.heap.size wr u2 := hnd.trans hb2
        have hn2 : Below w.heap.size w u2 := hnx.trans (hb2'.mono hnw)
        have k22 := k2.below hb2' k2.lt
        have k02 := k0.below hb2' k0.lt
        have k12 := k1.below hb2' k1.lt
        have o2 := hown.below hb2'
        have hqo2 : q.own u2 wr.heap.size u2.heap.size := hqo
        have hs2 := hb2'.size
        refine hK.out _ _ (HSS.out _ hn2 k02) (fun hHeld => ?_)
        clear hK K
        try simp only [Act.put, List.getElem_toArray, List.getElem_cons_zero, List.getElem_cons_succ, List.setIfInBounds_toArray, List.set_cons_zero, List.set_cons_succ]
        refine wpAnyH_ready (rs := [1, 8]) (by kernel_rfl) (by simp) ?_
        refine AllReadyH.cons rfl (fun K hK => ?_) (AllReadyH.cons rfl (fun K hK => ?_) AllReadyH.nil)
        · have d0 := k22.cell 0 _ rfl
          go_simp
          refine hK.out _ _ (hHeld) (fun hHeld => ?_)
          clear hK K
          try simp only [Act.put, List.getElem_toArray, List.getElem_cons_zero, List.getElem_cons_succ, List.setIfInBounds_toArray, List.set_cons_zero, List.set_cons_succ]
          refine wpAnyH_ready (rs := [8]) (by kernel_rfl) (by simp) ?_
          refine AllReadyH.cons rfl (fun K hK => ?_) AllReadyH.nil
          go_simp
          simp only [cellsSt_len, lit_seat, not_true_eq_false, Nat.lt_irrefl, or_self, if_false]
          go_simp
          obtain ⟨W3, hW3, b3, hb3, hs3⟩ := boxes1 u2 q.cells 51
          rw [hW3.out]
          have hn3 : Below w.heap.size w W3 := hn2.trans (hb3.mono hn2.size)
          have k23 := k22.below hb3 k22.lt
          have k03 := k02.below hb3 k02.lt
          have k13 := k12.below hb3 k12.lt
          have o3 := o2.below hb3
          have hqo3 := hqo2.below hb3
          have r3 : W3.rangeAt u2.heap.size 0 q.cells := Box.range [] q.cells [] (by simpa using b3)
          have hs3' := b3.lt
          clear hs3 hb3 hW3 b3 k02 k12 o2 hqo2
          refine hK.out _ _ (HSS.out _ hn3 k03) (fun hHeld => ?_)
          clear hK K
          try simp only [Act.put, List.getElem_toArray, List.getElem_cons_zero, List.getElem_cons_succ, List.setIfInBounds_toArray, List.set_cons_zero, List.set_cons_succ]
          have hll : ts.length + 1 ≤ 68719476736 := by have := HL.out; omega
          refine wpAnyH_ready (rs := [9]) (by kernel_rfl) (by simp) ?_
          refine AllReadyH.cons rfl (fun K hK => ?_) AllReadyH.nil
          refine step_append_seat rfl (.tmp 16) (.tmp 23) rfl W.heap.size wr.heap.size a' c' ts rfl o3 u2.heap.size 0 1 q rfl r3 wr.heap.size u2.heap.size hqo3 (Nat.le_refl _) (by omega) hll hsz ?_
          intro a9 c9 w9 o9 g9 _
          have HCM := HS.out q hq.out
          obtain ⟨ys, hys⟩ : ∃ ys, Hid (ts ++ [q] = ys) := ⟨_, rfl⟩
          rw [hys.out] at o9 HCM ⊢
          have hw9 : Within W.heap.size wr.heap.size W3 w9 := Within.of_grown g9 (fun j hj => ⟨(o3.row.lt j hj).1, o3.blk j hj⟩)
          have hs9 := hw9.size
          have hn9 : Below w.heap.size w w9 := hn3.trans (hw9.below (by omega) (by omega))
          have k29 := k23.within hw9 (by omega)
          have k09 := k03.within hw9 (by omega)
          have k19 := k13.within hw9 (by omega)
          refine hK.out _ _ (HSS.out _ hn9 k09) (fun hHeld => ?_)
          clear hK K hw9 g9 o3 r3 hqo3 k23 k03 k13
          try simp only [Act.put, List.getElem_toArray, List.getElem_cons_zero, List.getElem_cons_succ, List.setIfInBounds_toArray, List.set_cons_zero, List.set_cons_succ]
          refine wpAnyH_take (i := 10) (v := .pointer (some ⟨w.heap.size + 1 + 1, 0, none⟩)) rfl (by kernel_rfl) (by kernel_rfl) (by kernel_rfl) (fun _ _ _ h => h) (Or.inl ⟨by rfl, ?_⟩) hHeld ?_
          · intro w' hSw
            go_simp <;> rfl
          try simp only [Act.put, List.getElem_toArray, List.getElem_cons_zero, List.getElem_cons_succ, List.setIfInBounds_toArray, List.set_cons_zero, List.set_cons_succ]
          have m0 := k29.cell 0 _ rfl
          have mf0 := k29.frozen 0
          obtain ⟨WF, hWF, kF, hwF, hsF⟩ := box_set k29 0 (.slice a9 ys.length c9)
          simp only [List.set] at kF
          have hsFa := Nat.le_of_eq hsF
          have hsFb := Nat.le_of_eq hsF.symm
          clear hsF
          have k0F := k09.within hwF (by omega)
          have k1F := k19.within hwF (by omega)
          have oF := (o9.within hwF (.inr (by omega))).widen (Nat.le_refl _) hsFb (Nat.le_refl _)
          have hnF : Below w.heap.size w WF := hn9.trans (hwF.below (by omega) (by omega))
          clear hwF k29 k09 k19 o9
          refine wpAnyH_ready (rs := [11]) (by kernel_rfl) (by simp) ?_
          refine AllReadyH.cons rfl (fun K hK => ?_) AllReadyH.nil
          go_simp
          rw [hWF.out]
          refine hK.out _ _ (HSS.out _ hnF k0F) (fun hHeld => ?_)
          clear hK K
          try simp only [Act.put, List.getElem_toArray, List.getElem_cons_zero, List.getElem_cons_succ, List.setIfInBounds_toArray, List.set_cons_zero, List.set_cons_succ]
          refine wpAnyH_done (by kernel_rfl) ?_ _
          clear m0 mf0 hWF
          go_wp2_with fail
          go_roundw
          case rel => exact ⟨k + 1, ys, a9, c9, by omega, by go_num, HCM, kF, k0F, k1F, oF, hnF, by omega⟩
          case measure => simp [intOf]; omega
        · go_simp
          simp only [cellsSt_len, lit_seat, not_true_eq_false, Nat.lt_irrefl, or_self, if_false]
          go_simp
          obtain ⟨W3, hW3, b3, hb3, hs3⟩ := boxes1 u2 q.cells 51
          rw [hW3.out]
          have hn3 : Below w.heap.size w W3 := hn2.trans (hb3.mono hn2.size)
          have k23 := k22.below hb3 k22.lt
          have k03 := k02.below hb3 k02.lt
          have k13 := k12.below hb3 k12.lt
          have o3 := o2.below hb3
          have hqo3 := hqo2.below hb3
          have r3 : W3.rangeAt u2.heap.size 0 q.cells := Box.range [] q.cells [] (by simpa using b3)
          have hs3' := b3.lt
          clear hs3 hb3 hW3 b3 k02 k12 o2 hqo2
          refine hK.out _ _ (HSS.out _ hn3 k03) (fun hHeld => ?_)
          clear hK K
          try simp only [Act.put, List.getElem_toArray, List.getElem_cons_zero, List.getElem_cons_succ, List.setIfInBounds_toArray, List.set_cons_zero, List.set_cons_succ]
          have d0 := k23.cell 0 _ rfl
          refine wpAnyH_ready (rs := [1]) (by kernel_rfl) (by simp) ?_
          refine AllReadyH.cons rfl (fun K hK => ?_) AllReadyH.nil
          go_simp
          refine hK.out _ _ (hHeld) (fun hHeld => ?_)
          clear hK K
          try simp only [Act.put, List.getElem_toArray, List.getElem_cons_zero, List.getElem_cons_succ, List.setIfInBounds_toArray, List.set_cons_zero, List.set_cons_succ]
          have hll : ts.length + 1 ≤ 68719476736 := by have := HL.out; omega
          refine wpAnyH_ready (rs := [9]) (by kernel_rfl) (by simp) ?_
          refine AllReadyH.cons rfl (fun K hK => ?_) AllReadyH.nil
          refine step_append_seat rfl (.tmp 16) (.tmp 23) rfl W.heap.size wr.heap.size a' c' ts rfl o3 u2.heap.size 0 1 q rfl r3 wr.heap.size u2.heap.size hqo3 (Nat.le_refl _) (by omega) hll hsz ?_
          intro a9 c9 w9 o9 g9 _
          have HCM := HS.out q hq.out
          obtain ⟨ys, hys⟩ : ∃ ys, Hid (ts ++ [q] = ys) := ⟨_, rfl⟩
          rw [hys.out] at o9 HCM ⊢
          have hw9 : Within W.heap.size wr.heap.size W3 w9 := Within.of_grown g9 (fun j hj => ⟨(o3.row.lt j hj).1, o3.blk j hj⟩)
          have hs9 := hw9.size
          have hn9 : Below w.heap.size w w9 := hn3.trans (hw9.below (by omega) (by omega))
          have k29 := k23.within hw9 (by omega)
          have k09 := k03.within hw9 (by omega)
          have k19 := k13.within hw9 (by omega)
          refine hK.out _ _ (HSS.out _ hn9 k09) (fun hHeld => ?_)
          clear hK K hw9 g9 o3 r3 hqo3 k23 k03 k13
          try simp only [Act.put, List.getElem_toArray, List.getElem_cons_zero, List.getElem_cons_succ, List.setIfInBounds_toArray, List.set_cons_zero, List.set_cons_succ]
          refine wpAnyH_take (i := 10) (v := .pointer (some ⟨w.heap.size + 1 + 1, 0, none⟩)) rfl (by kernel_rfl) (by kernel_rfl) (by kernel_rfl) (fun _ _ _ h => h) (Or.inl ⟨by rfl, ?_⟩) hHeld ?_
          · intro w' hSw
            go_simp <;> rfl
          try simp only [Act.put, List.getElem_toArray, List.getElem_cons_zero, List.getElem_cons_succ, List.setIfInBounds_toArray, List.set_cons_zero, List.set_cons_succ]
          have m0 := k29.cell 0 _ rfl
          have mf0 := k29.frozen 0
          obtain ⟨WF, hWF, kF, hwF, hsF⟩ := box_set k29 0 (.slice a9 ys.length c9)
          simp only [List.set] at kF
          have hsFa := Nat.le_of_eq hsF
          have hsFb := Nat.le_of_eq hsF.symm
          clear hsF
          have k0F := k09.within hwF (by omega)
          have k1F := k19.within hwF (by omega)
          have oF := (o9.within hwF (.inr (by omega))).widen (Nat.le_refl _) hsFb (Nat.le_refl _)
          have hnF : Below w.heap.size w WF := hn9.trans (hwF.below (by omega) (by omega))
          clear hwF k29 k09 k19 o9
          refine wpAnyH_ready (rs := [11]) (by kernel_rfl) (by simp) ?_
          refine AllReadyH.cons rfl (fun K hK => ?_) AllReadyH.nil
          go_simp
          rw [hWF.out]
          refine hK.out _ _ (HSS.out _ hnF k0F) (fun hHeld => ?_)
          clear hK K
          try simp only [Act.put, List.getElem_toArray, List.getElem_cons_zero, List.getElem_cons_succ, List.setIfInBounds_toArray, List.set_cons_zero, List.set_cons_succ]
          refine wpAnyH_done (by kernel_rfl) ?_ _
          clear m0 mf0 hWF
          go_wp2_with fail
          go_roundw
          case rel => exact ⟨k + 1, ys, a9, c9, by omega, by go_num, HCM, kF, k0F, k1F, oF, hnF, by omega⟩
          case measure => simp [intOf]; omega
    · have HE : Hid (ts.map SeatA.v = rs.map SeatA.v) := by
        have e : k = rs.length := by omega
        rw [e] at hc
        exact hc.out.all
      have e0 := k2.cell 0 _ rfl
      have e1 := k2.cell 1 _ rfl
      have m0 := k1.cell 0 _ rfl
      have m1 := k1.cell 1 _ rfl
      have mf0 := k1.frozen 0
      have mf1 := k1.frozen 1
      obtain ⟨WF, hWF, bF, hwF, hsF⟩ := box2_fill k1 (.slice a' ts.length c') (.int .i64 s)
      have q0 := bF.cell 0 _ rfl
      have q1 := bF.cell 1 _ rfl
      have hoF := (hown.within hwF (.inr (by omega))).widen (show w.heap.size ≤ W.heap.size by omega) (show wr.heap.size ≤ WF.heap.size by omega) (Nat.le_refl _)
      have hbF : Below w.heap.size w WF := hnx.trans (hwF.below (by omega) (by have := hnx.size; omega))
      clear hwF hsF bF
      go_wp2
      rw [hWF.out]
      exact bodyPost_ret (v := .agg #[.slice a' ts.length c', .int .i64 s]) (by simp [results, Tryd.results25, go_sem, q0, q1]) rfl ⟨⟨ts, s, a', c'⟩, rfl, by simp only [Hid, PoolA.v]; rw [HE.out], hoF, hbF⟩
end Go.Proofs.YtickiokdcbeefabDoor

/- The walk of impl.copyPage. -/
namespace Go.Proofs.YtickiokdcbeefabDoor
open Go.RowKit

set_option maxHeartbeats 2000000 in
set_option maxRecDepth 100000 in
theorem copyPage_own (p : PageA) (h4 : p.ss.length = 4) (w : World) (hr : ReadsS w p.ss) (hl : Fit p.ss) :
    Calls Tryd.prog 44 #[.agg p.cells.toArray] w fun e w' => ∃ ts : List SlotA, e = .returned (.agg (PageA.cells ⟨p.lsn, ts⟩).toArray) ∧ Hid (ts.map (·.v) = p.ss.map (·.v)) ∧ OwnS w' w.heap.size w'.heap.size ts ∧ Below w.heap.size w w' := by
  obtain ⟨n, ss⟩ := p
  simp only [PageA.cells] at *
  obtain ⟨W, hW, b0, b1, b2, hbW, hsW⟩ := boxes3 w (.int .i64 n :: cellsS ss) [.int .i64 0, .bool false, .int .i64 0, .slice none 0 0, .slice none 0 0, .bool false, .int .i64 0, .slice none 0 0, .slice none 0 0, .bool false, .int .i64 0, .slice none 0 0, .slice none 0 0, .bool false, .int .i64 0, .slice none 0 0, .slice none 0 0] [.int .i64 n, .bool false, .int .i64 0, .slice none 0 0, .slice none 0 0, .bool false, .int .i64 0, .slice none 0 0, .slice none 0 0, .bool false, .int .i64 0, .slice none 0 0, .slice none 0 0, .bool false, .int .i64 0, .slice none 0 0, .slice none 0 0] 49 49 49
  have b1' : Box W (w.heap.size + 1) ([] ++ ((.int .i64 0 :: cellsS zero4) ++ [])) 49 := b1
  have b2' : Box W (w.heap.size + 1 + 1) (.int .i64 n :: cellsS ([] ++ List.replicate (4 - 0) zeroS)) 49 := b2
  have hsW' : w.heap.size + 1 + 1 < W.heap.size := by omega
  have hc0 : (((w.alloc (.cells (.int .i64 n :: cellsS ss).toArray 49)).alloc (.cells #[.int .i64 0, .bool false, .int .i64 0, .slice none 0 0, .slice none 0 0, .bool false, .int .i64 0, .slice none 0 0, .slice none 0 0, .bool false, .int .i64 0, .slice none 0 0, .slice none 0 0, .bool false, .int .i64 0, .slice none 0 0, .slice none 0 0] 49))).cell? ⟨w.heap.size, 0, none⟩ = some (.int .i64 n) := ((box_new w (.int .i64 n :: cellsS ss) 49).alloc _).cell 0 _ rfl
  have hrg0 : W.rangeAt w.heap.size 1 (cellsS ss) := Box.range [.int .i64 n] (cellsS ss) [] (by simpa using b0)
  have hi0 : (Tryd.prog.info? 47).map (·.size) = some (cellsS ss).length := by rw [cellsS_len, h4]; kernel_rfl
  have HX := run_index_slot ss h4
  have H4 : Hid (ss.length = 4) := h4
  clear b1 b2 hsW h4
  go_enter Tryd.func44, Tryd.ntmps44
  go_wp2_with (first | (guard_target = wpList _ _ _ (Oper.mk (some 10) _ _ _ _ _ :: _) _ _; refine wpList_load_mid rfl 47 (.tmp 9) rfl w.heap.size 1 rfl (cellsS ss) _ (by rw [hW.out]; exact hrg0) Tryd.underlying47 rfl hi0 ?_) | fail)
  rw [hW.out]
  clear hW hrg0 hi0 hc0
  go_loopw [11] (fun i wr => ∃ (k : Nat) (ts : List SlotA), i = .int .i64 k ∧ k ≤ 4 ∧ Hid (ts.length = k ∧ ts.map (·.v) = (ss.take k).map (·.v)) ∧ OwnS wr W.heap.size wr.heap.size ts ∧ Box wr (w.heap.size + 1 + 1) (.int .i64 n :: cellsS (ts ++ List.replicate (4 - k) zeroS)) 49 ∧ Below (w.heap.size + 1 + 1) W wr)
    (fun i _ => 4 - (intOf i).toNat)
  case atStart => exact ⟨0, [], rfl, by omega, ⟨rfl, rfl⟩, OwnS.nil _ _ _, b2', Below.refl _ _⟩
  case round =>
    obtain ⟨k, ts, rfl, hk, hts, hown, hbox, hbl⟩ := hrel
    clear b2'
    have b1r := b1'.below hbl (by omega)
    have hsr := hbl.size
    have hsz := hbox.lt
    by_cases hlt : k < 4
    · have hkl : k < ss.length := by rw [H4.out]; exact hlt
      have hx := HX k hlt
      clear HX
      have hrk := (hr _ (getD_mem hkl)).below (hbW.trans (hbl.mono (by omega)))
      have hlk := hl _ (getD_mem hkl)
      have HV : Hid ((ss.take (k + 1)).map (·.v) = (ss.take k).map (·.v) ++ [(ss.getD k zeroS).v]) := by
        rw [Hid, List.take_add_one, List.map_append]
        simp [List.getD, hkl]
      generalize ss.getD k zeroS = s at *
      simp only [SlotA.cells] at hx
      obtain ⟨W1, hW1, bx, hbx1, hsx1⟩ := boxes1 wr [.bool s.v.has, .int .i64 s.v.o.kind, .slice s.aI s.v.o.ints.length s.cI, .slice s.aR s.v.o.refs.length s.cR] 46
      have C := copySlot_own s W1 (ReadsO.below hrk hbx1) hlk.1 hlk.2
      simp only [SlotA.cells] at C
      go_wp2_with fail
      rw [hW1.out]
      refine C.mono ?_
      clear C hx hrk hlk
      rintro e w1 ⟨t, rfl, hv, ho, hb1⟩
      have hs1 := hb1.size
      have N1 : Below wr.heap.size wr w1 := hbx1.trans (hb1.mono (by omega))
      have hbx := hbox.below N1 hsz
      have hkt : k < (ts ++ List.replicate (4 - k) zeroS).length := by have := hts.out.1; simp; omega
      obtain ⟨W2, hW2, b2, hw2, hs2⟩ := pslot_fill hbx k hkt t
      obtain ⟨x0, x1, x2, x3, hfz⟩ := hbx.pslot k hkt
      have f0 := hfz (1 + k * 4)
      have f1 := hfz (1 + k * 4 + 1)
      have f2 := hfz (1 + k * 4 + 2)
      have f3 := hfz (1 + k * 4 + 3)
      generalize (ts ++ List.replicate (4 - k) zeroS).getD k zeroS = old at *
      have b2' : Box W2 (w.heap.size + 1 + 1) (.int .i64 n :: cellsS ((ts ++ [t]) ++ List.replicate (4 - (k + 1)) zeroS)) 49 := by
        rw [show 4 - k = (4 - (k + 1)) + 1 by omega] at b2
        have e := set_snoc ts (4 - (k + 1)) t
        rw [hts.out.1] at e
        rw [e] at b2
        exact b2
      have hown1 : OwnS w1 W.heap.size W1.heap.size ts := (hown.below N1).widen (Nat.le_refl _) (by omega) (by omega)
      have hO1 : OwnS w1 W.heap.size w1.heap.size (ts ++ [t]) := hown1.snoc ho (by omega) hs1 (Nat.le_refl _)
      have hO2 : OwnS W2 W.heap.size W2.heap.size (ts ++ [t]) := (hO1.within hw2 (.inr (by omega))).widen (Nat.le_refl _) (by omega) (Nat.le_refl _)
      have hB2 : Below (w.heap.size + 1 + 1) W W2 := (hbl.trans (N1.mono (by omega))).trans (hw2.below (Nat.le_refl _) (by omega))
      have HT : Hid ((ts ++ [t]).length = k + 1 ∧ (ts ++ [t]).map (·.v) = (ss.take (k + 1)).map (·.v)) := by
        refine ⟨by have := hts.out.1; simp; omega, ?_⟩
        rw [HV.out, List.map_append, hts.out.2, ← hv.out]
        rfl
      have hi0 : (0 : Int) ≤ (k : Int) := by omega
      have hi4 : (k : Int) < 4 := by omega
      clear hfz hs2 hw2 b2 hO1 hown hown1 hbox hbx hts HV hkt hb1 ho N1 hbx1
      go_wp2_with fail
      rw [hW2.out]
      go_roundw
      case rel => exact ⟨k + 1, ts ++ [t], by go_num, by omega, HT, hO2, b2', hB2⟩
      case measure => simp [intOf]; omega
    · obtain rfl : k = 4 := by omega
      have hkk : ¬ ((4 : Nat) : Int) < 4 := by omega
      have hrp : ts ++ List.replicate (4 - 4) zeroS = ts := by simp
      rw [hrp] at hbox
      have htl : ts.length = 4 := hts.out.1
      have HMV : Hid (ts.map (·.v) = ss.map (·.v)) := by rw [Hid, hts.out.2, List.take_of_length_le (by rw [H4.out]; omega)]
      obtain ⟨WF, hWF, bF, hwF, hsF⟩ := range_fill [] (.int .i64 0 :: cellsS zero4) (.int .i64 n :: cellsS ts) [] b1r (by simp only [List.length_cons, cellsS_len, htl]; rfl)
      have HWF : Hid (wr.setCells (w.heap.size + 1) 0 (.int .i64 n :: cellsS ts) = WF) := hWF.out
      have HR2 : Hid (wr.rangeAt (w.heap.size + 1 + 1) 0 (.int .i64 n :: cellsS ts)) := Box.range [] (.int .i64 n :: cellsS ts) [] (by simpa using hbox)
      have HTF : Hid (wr.there (w.heap.size + 1) 0 (.int .i64 n :: cellsS ts).toArray.size) := b1r.there 0 _ (by simp only [List.size_toArray, cellsS_len, htl, List.length_append, List.length_cons, List.length_nil]; decide)
      have hrF : WF.rangeAt (w.heap.size + 1) 0 (.int .i64 n :: cellsS ts) := Box.range [] (.int .i64 n :: cellsS ts) [] (by simpa using bF)
      have HI : Hid ((Tryd.prog.info? 49).map (·.size) = some (.int .i64 n :: cellsS ts).length) := by rw [Hid, List.length_cons, cellsS_len, htl]; kernel_rfl
      have HO : Hid (_) := all_oneCell_toArray (oneP ⟨n, ts⟩)
      have HLF : Hid (_) := run_loadVar_mid (P := Tryd.prog) _ (w.heap.size + 1) 0 49 (.int .i64 n :: cellsS ts) _ hrF Tryd.underlying49 rfl HI.out
      have HOF : Hid (OwnS WF w.heap.size WF.heap.size ts) := (hown.within hwF (.inr (by omega))).widen (by omega) (by omega) (Nat.le_refl _)
      have HBF : Hid (Below w.heap.size w WF) := (hbW.trans (hbl.mono (by omega))).trans (hwF.below (by omega) (by omega))
      simp only [PageA.cells] at HO
      clear hWF bF hwF hsF hrF hrp htl hbox hown HX hts
      go_wp2_with (first | (guard_target = wpList _ _ _ (Oper.mk (some 21) _ _ _ _ _ :: _) _ _; refine wpList_load_mid rfl 49 (.tmp 3) rfl (w.heap.size + 1 + 1) 0 rfl (.int .i64 n :: cellsS ts) _ HR2.out Tryd.underlying49 rfl HI.out ?_) | (guard_target = wpList _ _ _ (Oper.mk none (Op.store _ (Operand.tmp 2) _) _ _ _ _ :: _) _ _; refine wpList_store_mid rfl 49 (.tmp 2) (.tmp 21) rfl (w.heap.size + 1) 0 (.int .i64 n :: cellsS ts).toArray rfl rfl HTF.out (by rw [List.size_toArray]; exact HI.out) HO.out ?_) | fail)
      rw [HWF.out]
      exact bodyPost_ret (v := .agg (.int .i64 n :: cellsS ts).toArray) (results_one Tryd.results44 rfl HLF.out) rfl ⟨ts, rfl, HMV, HOF.out, HBF.out⟩
end Go.Proofs.YtickiokdcbeefabDoor

/- The walk of impl.copyPool. -/
namespace Go.Proofs.YtickiokdcbeefabDoor
open Go.RowKit

set_option maxRecDepth 100000 in
theorem build_seats1 {w : World} {ops : Array Oper} {rest : List Oper} {dst : Option Nat} {ty : TypeId} {pos : String} {aft : Array Edge} {act : Act} {Q : Exit → Act → World → Prop} (x : Operand)
    (q : SeatA) (hx : act.eval x = .agg q.cells.toArray)
    (h : wpList Tryd.prog ops Q rest (act.put dst (.slice (some ⟨w.heap.size, 0, none⟩) 1 1)) (w.alloc (.cells q.cells.toArray 51))) :
    wpList Tryd.prog ops Q ({ dst := dst, op := .buildSlice 26 1 #[(0, x)], type := ty, pos := pos, after := aft, guard := none } :: rest) act w := by
  refine wpList_plain rfl fun K hK => ?_
  unfold Oper.wp execOp
  simp only [List.map_toArray, List.map_cons, List.map_nil, hx]
  go_simp
  simp only [cellsSt_len, lit_seat, not_true_eq_false, Nat.lt_irrefl, or_self, if_false]
  go_simp
  exact hK _ _ h

set_option maxHeartbeats 2000000 in
set_option maxRecDepth 100000 in
theorem copyPool_any (l : PoolA) (w : World) (hr : l.reads w) (hl : l.short 1048576) :
    Calls Tryd.prog 29 #[.agg l.cells.toArray] w fun e w' => ∃ t : PoolA, e = .returned (.agg t.cells.toArray) ∧ Hid (t.v = l.v) ∧ t.own w' w.heap.size w'.heap.size ∧ Below w.heap.size w w' := by
  obtain ⟨rs, s, a, c⟩ := l
  have hl2 := (PoolA.short_wide hl).each
  have hl0 := hl.len
  simp only [PoolA.reads, PoolA.cells, PoolA.own] at *
  obtain ⟨W, hW, b0, b1, b2, hbW, hsW⟩ := boxes3 w [.slice a rs.length c, .int .i64 s] [.slice none 0 0, .int .i64 0] [.slice none 0 0, .int .i64 s] 28 28 28
  have hs0 : w.heap.size + 1 + 1 < W.heap.size := by omega
  clear hsW
  have x0 := b0.cell 0 _ rfl
  have HC : Hid (∀ k, k < rs.length → ∃ b off, a = some ⟨b, off, none⟩ ∧ w.rangeAt b (off + k * 20) (rs.getD k zeroSt).cells ∧ (rs.getD k zeroSt).reads w ∧ (rs.getD k zeroSt).short 1099511627776) := fun k hk => by
    obtain ⟨b, off, ha, hc⟩ := hr (by intro e; rw [e] at hk; simp at hk)
    exact ⟨b, off, ha, (hc k hk).1, (hc k hk).2, hl2 _ (seatD_mem rs k hk)⟩
  have HJ : Hid ((Tryd.prog.info? 51).map (·.size) = some 20) := by rw [Hid]; kernel_rfl
  clear hr hl hl2
  go_enter Tryd.func29, Tryd.ntmps29
  go_wp2_with fail
  rw [hW.out]
  clear hW x0
  go_loopw [12] (fun i wr => ∃ (k : Nat) (ts : List SeatA) (a' : Option Addr) (c' : Nat), k ≤ rs.length ∧ i = .int .i64 k ∧ Hid (CameSt rs ts k) ∧ Box wr (w.heap.size + 1 + 1) [.slice a' ts.length c', .int .i64 s] 28 ∧ Box wr (w.heap.size + 1) [.slice none 0 0, .int .i64 0] 28 ∧ OwnSts wr W.heap.size wr.heap.size a' c' ts ∧ Below w.heap.size w wr ∧ W.heap.size ≤ wr.heap.size)
    (fun i _ => rs.length - (intOf i).toNat)
  case atStart => exact ⟨0, [], none, 0, Nat.zero_le _, rfl, cameSt_none rs, b2, b1, ownSts_nil _ _ _ (Nat.le_refl _), hbW, Nat.le_refl _⟩
  case round =>
    obtain ⟨k, ts, a', c', hk, rfl, hc, k2, k1, hown, hnx, hsz⟩ := hrel
    clear b0 b1 b2 hbW
    by_cases hlt : k < rs.length
    · obtain ⟨b, off, rfl, hcell, hrd, hsh⟩ := HC.out k hlt
      have hnw := hnx.size
      have HRG : Hid (wr.rangeAt b (off + k * 20) (rs.getD k zeroSt).cells) := rangeAt_below hcell hnx (rangeSt_lt hcell)
      have HS : Hid (∀ q : SeatA, q.v = (rs.getD k zeroSt).v → CameSt rs (ts ++ [q]) (k + 1)) := fun q hq => hc.out.snoc hlt hq
      have hll : ts.length + 1 ≤ 68719476736 := by have := hc.out.1; omega
      have hrdw := hrd.below hnx
      have hkk : (k : Int) < (rs.length : Int) := by omega
      have hk0 : (0 : Int) ≤ (k : Int) := by omega
      clear hcell HC hrd hc
      generalize rs.getD k zeroSt = z at *
      obtain ⟨W1, hW1, d1, hb1, hs1⟩ := boxes1 wr [.int .i64 0, .int .i64 0, .bool false, .int .i64 0, .slice none 0 0, .slice none 0 0, .bool false, .int .i64 0, .slice none 0 0, .slice none 0 0, .bool false, .int .i64 0, .slice none 0 0, .slice none 0 0, .bool false, .int .i64 0, .slice none 0 0, .slice none 0 0, .bool false, .bool false] 51
      obtain ⟨W2, hW2, hw2, hs2, HT2, _, d2⟩ := seat_out z _ rfl d1
      have hB2 : Below wr.heap.size wr W2 := hb1.trans (hw2.below (Nat.le_refl _) (by omega))
      have xp : W2.rangeAt wr.heap.size 1 z.page.cells := seat_page z d2
      have HIP := Tryd.infoPg z.page rfl
      have C := copyPage_own z.page rfl W2 (hrdw.below hB2) hsh
      have HW2 : Hid (W1.setCells wr.heap.size 0 z.cells.toArray.toList = W2) := hW2.out
      have hOz := seat_one z
      have k22 := k2.below hB2 k2.lt
      have k12 := k1.below hB2 k1.lt
      have o2 := hown.below hB2
      have hn2 : Below w.heap.size w W2 := hnx.trans (hB2.mono hnw)
      have hs2' := hB2.size
      have hd2 := d2.lt
      clear hs1 hs2 d1 hb1 hw2 hW2 hrdw hsh k2 k1 hown hnx
      generalize hpc : z.page.cells = pc at *
      go_wp2_with (first | (guard_target = wpList _ _ _ (Oper.mk (some 15) _ _ _ _ _ :: _) _ _; refine wpList_load_mid rfl 51 (.tmp 14) rfl b (off + k * 20) rfl z.cells _ HRG.out Tryd.underlying51 rfl HJ.out ?_) | (guard_target = wpList _ _ _ (Oper.mk none (Op.store _ (Operand.tmp 5) _) _ _ _ _ :: _) _ _; refine wpList_store_mid rfl 51 (.tmp 5) (.tmp 15) rfl wr.heap.size 0 z.cells.toArray rfl rfl (by rw [hW1.out]; exact HT2.out) HJ.out hOz ?_; rw [hW1.out, HW2.out]) | (guard_target = wpList _ _ _ (Oper.mk (some 17) _ _ _ _ _ :: _) _ _; refine wpList_load_mid rfl 49 (.tmp 16) rfl wr.heap.size 1 rfl pc _ xp Tryd.underlying49 rfl HIP ?_) | fail)
      refine C.mono ?_
      clear C xp HIP HRG hW1 HW2 HT2 hpc
      rintro e w3 ⟨us, rfl, hv, ho, hb3⟩
      obtain ⟨y0, y1, y2, y3, rfl⟩ := four_slots' (ts := us) (by have := congrArg List.length hv.out; simpa [SeatA.page, SeatA.ss] using this)
      have hs3 := hb3.size
      have d3 := d2.below hb3 d2.lt
      obtain ⟨W4, hW4, d4, hw4, hs4, hth4⟩ := seat_fill z d3 z.page.lsn y0 y1 y2 y3
      obtain ⟨q, hq⟩ : ∃ q : SeatA, Hid ((⟨z.no, z.page.lsn, y0, y1, y2, y3, z.dirty, z.hot⟩ : SeatA) = q) := ⟨_, rfl⟩
      rw [hq.out] at d4
      have oq : q.own w3 W2.heap.size w3.heap.size := by rw [← hq.out]; exact ho
      have HV : Hid (q.v = z.v) := by rw [Hid, ← hq.out]; simp only [SeatA.v, SeatA.ss]; rw [show List.map (fun x : SlotA => x.v) [y0, y1, y2, y3] = z.page.ss.map (·.v) from hv.out]; rfl
      have k24 := (k22.below hb3 k22.lt).within hw4 (by omega)
      have k14 := (k12.below hb3 k12.lt).within hw4 (by omega)
      have o4 := (o2.below hb3).within hw4 (.inl (by omega))
      have oq4 := oq.within hw4 (.inr (by omega))
      have hn4 : Below w.heap.size w W4 := (hn2.trans (hb3.mono hn2.size)).trans (hw4.below (by omega) (by omega))
      have rq : W4.rangeAt wr.heap.size 0 q.cells := Box.range [] q.cells [] (by simpa using d4)
      have HI1 := Tryd.infoPg ⟨z.page.lsn, [y0, y1, y2, y3]⟩ rfl
      have HO1 := page_one ⟨z.page.lsn, [y0, y1, y2, y3]⟩
      have HI2 := seat_info q
      have HW4 : Hid (w3.setCells wr.heap.size 1 (PageA.cells ⟨z.page.lsn, [y0, y1, y2, y3]⟩).toArray.toList = W4) := hW4.out
      have e0 := k24.cell 0 _ rfl
      have hs4a := Nat.le_of_eq hs4
      have hs4b := Nat.le_of_eq hs4.symm
      obtain ⟨W5, hW5, d5, hb5, hs5⟩ := boxes1 W4 q.cells 51
      have k25 := k24.below hb5 k24.lt
      have k15 := k14.below hb5 k14.lt
      have o5 := o4.below hb5
      have oq5 := oq4.below hb5
      have hn5 : Below w.heap.size w W5 := hn4.trans (hb5.mono hn4.size)
      have r5 : W5.rangeAt W4.heap.size 0 q.cells := Box.range [] q.cells [] (by simpa using d5)
      have hs5' := hb5.size
      clear hW4 hq hs4 hw4 d3 d4 d2 oq ho hv hb3 k22 k12 o2 k24 k14 o4 oq4 hn2 hn4 hb5 d5 hs5
      generalize PageA.cells ⟨z.page.lsn, [y0, y1, y2, y3]⟩ = pc2 at *
      go_wp2_with (first | (guard_target = wpList _ _ _ (Oper.mk none (Op.store _ (Operand.tmp 19) _) _ _ _ _ :: _) _ _; refine wpList_store_mid rfl 49 (.tmp 19) (.tmp 18) rfl wr.heap.size 1 pc2.toArray rfl rfl hth4 (by rw [List.size_toArray]; exact HI1) HO1 ?_; rw [HW4.out]) | (guard_target = wpList _ _ _ (Oper.mk (some 22) _ _ _ _ _ :: _) _ _; refine wpList_load_mid rfl 51 (.tmp 5) rfl wr.heap.size 0 rfl q.cells _ rq Tryd.underlying51 rfl HI2 ?_) | (guard_target = wpList _ _ _ (Oper.mk (some 23) _ _ _ _ _ :: _) _ _; refine build_seats1 (.tmp 22) q rfl ?_; rw [hW5.out]) | (guard_target = wpList _ _ _ (Oper.mk (some 24) _ _ _ _ _ :: _) _ _; refine append_seat rfl _ _ rfl W.heap.size wr.heap.size a' c' ts rfl o5 W4.heap.size 0 1 q rfl r5 W2.heap.size w3.heap.size oq5 (by omega) (by omega) hll (by omega) ?_) | fail)
      intro a9 c9 w9 o9 g9
      have HCM := HS.out q HV.out
      obtain ⟨ys, hys⟩ : ∃ ys, Hid (ts ++ [q] = ys) := ⟨_, rfl⟩
      have hyl : ts.length + 1 = ys.length := by rw [← hys.out]; simp
      rw [hys.out] at o9 HCM
      rw [hyl]
      clear hyl
      have hw9 : Within W.heap.size wr.heap.size W5 w9 := Within.of_grown g9 (fun j hj => ⟨(o5.row.lt j hj).1, o5.blk j hj⟩)
      have hs9 := hw9.size
      have hn9 : Below w.heap.size w w9 := hn5.trans (hw9.below (by omega) (by omega))
      have k29 := k25.within hw9 (by omega)
      have k19 := k15.within hw9 (by omega)
      have m0 := k29.cell 0 _ rfl
      have mf0 := k29.frozen 0
      obtain ⟨WF, hWF, kF, hwF, hsF⟩ := box_set k29 0 (.slice a9 ys.length c9)
      simp only [List.set] at kF
      have hsFa := Nat.le_of_eq hsF
      have hsFb := Nat.le_of_eq hsF.symm
      have k1F := k19.within hwF (by omega)
      have oF := (o9.within hwF (.inr (by omega))).widen (Nat.le_refl _) hsFb (Nat.le_refl _)
      have hnF : Below w.heap.size w WF := hn9.trans (hwF.below (by omega) (by omega))
      clear hwF k29 k19 o9 hsF g9 hw9 e0 k25 k15 o5 oq5 r5 rq HW4 hW5
      go_wp2_with fail
      rw [hWF.out]
      go_roundw
      case rel => exact ⟨k + 1, ys, a9, c9, by omega, by go_num, HCM, kF, k1F, oF, hnF, by omega⟩
      case measure => simp [intOf]; omega
    · have HE : Hid (ts.map SeatA.v = rs.map SeatA.v) := by
        have e : k = rs.length := by omega
        rw [e] at hc
        exact hc.out.all
      have e0 := k2.cell 0 _ rfl
      have e1 := k2.cell 1 _ rfl
      have m0 := k1.cell 0 _ rfl
      have m1 := k1.cell 1 _ rfl
      have mf0 := k1.frozen 0
      have mf1 := k1.frozen 1
      obtain ⟨WF, hWF, bF, hwF, hsF⟩ := box2_fill k1 (.slice a' ts.length c') (.int .i64 s)
      have q0 := bF.cell 0 _ rfl
      have q1 := bF.cell 1 _ rfl
      have hoF := (hown.within hwF (.inr (by omega))).widen (show w.heap.size ≤ W.heap.size by omega) (show wr.heap.size ≤ WF.heap.size by omega) (Nat.le_refl _)
      have hbF : Below w.heap.size w WF := hnx.trans (hwF.below (by omega) (by have := hnx.size; omega))
      clear hwF hsF bF
      go_wp2
      rw [hWF.out]
      exact bodyPost_ret (v := .agg #[.slice a' ts.length c', .int .i64 s]) (by simp [results, Tryd.results29, go_sem, q0, q1]) rfl ⟨⟨ts, s, a', c'⟩, rfl, by simp only [Hid, PoolA.v]; rw [HE.out], hoF, hbF⟩
end Go.Proofs.YtickiokdcbeefabDoor
