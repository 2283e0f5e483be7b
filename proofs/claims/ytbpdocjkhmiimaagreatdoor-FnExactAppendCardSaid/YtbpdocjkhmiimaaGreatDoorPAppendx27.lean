/- Several texts in one, in their order. -/
import Derived.Test.YtbpdocjkhmiimaaGreatDoorPAppendx25
import Derived.Test.YtbpdocjkhmiimaaGreatDoorPAppendx26
import Derived.Deep.RegionLaw
import Derived.Deep.DrawnRows
import Derived.Test.YtbpdocjkhmiimaaGreatDoorPAppendx17
import Derived.Test.YtbpdocjkhmiimaaGreatDoorPAppendx9
import Derived.Test.YtbpdocjkhmiimaaGreatDoorPAppendx13
import Derived.Test.YtbpdocjkhmiimaaGreatDoorPAppendx16
/- The walk of spec.l5Copy. -/
namespace Go.Proofs.YtbpdocjkhmiimaaGreatDoor
open Go.RowKit
attribute [local go_sem ↓] Go.wp_at_zero Go.wp_at_succ

theorem lit_rec (q : RecA) : List.foldl (fun cs x => cs.setIfInBounds x.snd x.fst) (#[.int .i64 0, .int .i64 0, .int .i64 0, .int .i64 0, .int .i64 0, .bool false, .int .i64 0, .slice none 0 0, .slice none 0 0, .bool false, .int .i64 0, .slice none 0 0, .slice none 0 0, .int .i64 0, .slice none 0 0] : Array Value) q.cells.zipIdx = q.cells.toArray := by simp [RecA.cells, List.zipIdx]

set_option maxHeartbeats 4000000 in
set_option maxRecDepth 100000 in
theorem l5Copy_any (l : LogA) (w : World) (hr : l.reads w) (hl : l.short 1048576) (hcp : ∀ r ∈ l.recs, r.aL = none → r.cL = 0) :
    Calls Tryz.prog 56 #[.agg l.cells.toArray] w fun e w' => ∃ t : LogA, e = .returned (.agg t.cells.toArray) ∧ Hid (t.v = l.v) ∧ t.own w' w.heap.size w'.heap.size ∧ Below w.heap.size w w' := by
  obtain ⟨rs, s, a, c⟩ := l
  have hl2 := (LogA.short_wide hl).each
  have hl0 := hl.len
  simp only [LogA.reads, LogA.cells, LogA.own] at *
  obtain ⟨W, hW, b0, b1, b2, hbW, hsW⟩ := boxes3 w [.slice a rs.length c, .int .i64 s] [.slice none 0 0, .int .i64 0] [.slice none 0 0, .int .i64 s] 26 26 26
  have hs0 : w.heap.size + 1 + 1 < W.heap.size := by omega
  clear hsW
  have x0 := b0.cell 0 _ rfl
  have x1 := b0.cell 1 _ rfl
  have HC : Hid (∀ k, k < rs.length → ∃ b off, a = some ⟨b, off, none⟩ ∧ w.rangeAt b (off + k * 15) (rs.getD k zeroR).cells ∧ (rs.getD k zeroR).reads w ∧ (rs.getD k zeroR).short 1099511627776 ∧ ((rs.getD k zeroR).aL = none → (rs.getD k zeroR).cL = 0)) := fun k hk => by
    obtain ⟨b, off, ha, hc⟩ := hr (by intro e; rw [e] at hk; simp at hk)
    exact ⟨b, off, ha, (hc k hk).1, (hc k hk).2, hl2 _ (recD_mem rs k hk), hcp _ (recD_mem rs k hk)⟩
  have HI : Hid ((Tryz.prog.info? 42).map (·.size) = some 15) := by rw [Hid]; kernel_rfl
  clear hr hl hl2 hcp
  go_enter Tryz.func56, Tryz.ntmps56
  go_wp2_with fail
  rw [hW.out]
  clear hW x0 x1
  go_loopw [4] (fun i wr => ∃ (k : Nat) (ts : List RecA) (a' : Option Addr) (c' : Nat), k ≤ rs.length ∧ i = .int .i64 k ∧ Hid (Came rs ts k) ∧ Box wr (w.heap.size + 1 + 1) [.slice a' ts.length c', .int .i64 s] 26 ∧ Box wr w.heap.size [.slice a rs.length c, .int .i64 s] 26 ∧ Box wr (w.heap.size + 1) [.slice none 0 0, .int .i64 0] 26 ∧ OwnRs wr W.heap.size wr.heap.size a' c' ts ∧ Below w.heap.size w wr ∧ W.heap.size ≤ wr.heap.size)
    (fun i _ => rs.length - (intOf i).toNat)
  case atStart => exact ⟨0, [], none, 0, Nat.zero_le _, rfl, came_none rs, b2, b0, b1, ownRs_nil _ _ _ (Nat.le_refl _), hbW, Nat.le_refl _⟩
  case round =>
    obtain ⟨k, ts, a', c', hk, rfl, hc, k2, k0, k1, hown, hnx, hsz⟩ := hrel
    clear b0 b1 b2 hbW
    have x0 := k0.cell 0 _ rfl
    by_cases hlt : k < rs.length
    · obtain ⟨b, off, rfl, hcell, hrd, hsh, hnc⟩ := HC.out k hlt
      have hbB := rangeR_lt hcell
      have hnw := hnx.size
      have HR : Hid (∀ u, Below w.heap.size w u → u.rangeAt b (off + k * 15) (rs.getD k zeroR).cells) := fun u hu => rangeAt_below hcell hu hbB
      have HS : Hid (∀ q : RecA, q.v = (rs.getD k zeroR).v → Came rs (ts ++ [q]) (k + 1)) := fun q hq => hc.out.snoc hlt hq
      have HL : Hid (ts.length = k) := hc.out.1
      clear hcell HC
      generalize rs.getD k zeroR = z at *
      have e0 := k2.cell 0 _ rfl
      have HSS : Hid (∀ u, Below w.heap.size w u → Box u w.heap.size [.slice (some ⟨b, off, none⟩) rs.length c, .int .i64 s] 26 → u.rangeAt b (off + k * 15) z.cells ∧ u.cell? ⟨w.heap.size, 0, none⟩ = some (.slice (some ⟨b, off, none⟩) rs.length c)) := fun u h1 h2 => ⟨HR.out u h1, h2.cell 0 _ rfl⟩
      go_wp2_with fail
      refine wp_region_held_drew (S := fun w' => w'.rangeAt b (off + k * 15) z.cells ∧ w'.cell? ⟨w.heap.size, 0, none⟩ = some (.slice (some ⟨b, off, none⟩) rs.length c)) (by kernel_rfl) ?_ (fun hHeld => ?_)
      · exact HSS.out _ hnx.drew (k0.drewN 1)
      refine wpAnyH_take (i := 0) (v := .pointer (some ⟨w.heap.size + 1 + 1, 0, none⟩)) rfl (by kernel_rfl) (by kernel_rfl) (by kernel_rfl) (fun _ _ _ h => h) (Or.inl ⟨by rfl, ?_⟩) hHeld ?_
      · intro w' hSw
        go_simp <;> rfl
      try simp only [Act.put, List.getElem_toArray, List.getElem_cons_zero, List.setIfInBounds_toArray, List.set_cons_zero, List.set_cons_succ]
      refine wpAnyH_take (i := 2) (v := .pointer (some ⟨w.heap.size, 0, none⟩)) rfl (by kernel_rfl) (by kernel_rfl) (by kernel_rfl) (fun _ _ _ h => h) (Or.inl ⟨by rfl, ?_⟩) hHeld ?_
      · intro w' hSw
        go_simp <;> rfl
      try simp only [Act.put, List.getElem_toArray, List.getElem_cons_zero, List.getElem_cons_succ, List.setIfInBounds_toArray, List.set_cons_zero, List.set_cons_succ]
      refine wpAnyH_take (i := 3) (v := .slice (some ⟨b, off, none⟩) rs.length c) rfl (by kernel_rfl) (by kernel_rfl) (by kernel_rfl) (fun _ _ _ h => h) (Or.inl ⟨by rfl, ?_⟩) hHeld ?_
      · intro w' hSw
        have hx := hSw.2
        go_simp <;> rfl
      try simp only [Act.put, List.getElem_toArray, List.getElem_cons_zero, List.getElem_cons_succ, List.setIfInBounds_toArray, List.set_cons_zero, List.set_cons_succ]
      refine wpAnyH_take (i := 4) (v := .int .i64 k) rfl (by kernel_rfl) (by kernel_rfl) (by kernel_rfl) (fun _ _ _ h => h) (Or.inl ⟨by rfl, ?_⟩) hHeld ?_
      · intro w' hSw
        go_simp <;> rfl
      try simp only [Act.put, List.getElem_toArray, List.getElem_cons_zero, List.getElem_cons_succ, List.setIfInBounds_toArray, List.set_cons_zero, List.set_cons_succ]
      refine wpAnyH_take (i := 5) (v := .pointer (some ⟨b, off + k * 15, none⟩)) rfl (by kernel_rfl) (by kernel_rfl) (by kernel_rfl) (fun _ _ _ h => h) (Or.inl ⟨by rfl, ?_⟩) hHeld ?_
      · intro w' hSw
        go_simp <;> rfl
      try simp only [Act.put, List.getElem_toArray, List.getElem_cons_zero, List.getElem_cons_succ, List.setIfInBounds_toArray, List.set_cons_zero, List.set_cons_succ]
      refine wpAnyH_take (i := 6) rfl (by kernel_rfl) (by kernel_rfl) (by kernel_rfl) (fun _ _ _ h => h) (yieldsIf_load_mid (by rfl) _ _ rfl _ _ rfl z.cells _ (fun _ h => h.1) Tryz.underlying42 rfl HI.out) hHeld ?_
      try simp only [Act.put, List.getElem_toArray, List.getElem_cons_zero, List.getElem_cons_succ, List.setIfInBounds_toArray, List.set_cons_zero, List.set_cons_succ]
      have hnd : Below wr.heap.size wr wr.drew := (Below.refl _ _).drew
      have C := l5CopyRec_own z wr.drew (hrd.below hnx.drew) hsh hnc
      refine wpAnyH_ready (rs := [1, 7]) (by kernel_rfl) (by simp) ?_
      refine AllReadyH.cons rfl (fun K hK => ?_) (AllReadyH.cons rfl (fun K hK => ?_) AllReadyH.nil)
      · go_simp
        refine hK.out _ _ (hHeld) (fun hHeld => ?_)
        clear hK K
        try simp only [Act.put, List.getElem_toArray, List.getElem_cons_zero, List.getElem_cons_succ, List.setIfInBounds_toArray, List.set_cons_zero, List.set_cons_succ]
        refine wpAnyH_ready (rs := [7]) (by kernel_rfl) (by simp) ?_
        refine AllReadyH.cons rfl (fun K hK => ?_) AllReadyH.nil
        go_simp
        refine C.mono ?_
        clear C
        rintro e u2 ⟨q, rfl, hq, hqo, hb2⟩
        have hb2' : Below wr.heap.size wr u2 := hnd.trans hb2
        have hn2 : Below w.heap.size w u2 := hnx.trans (hb2'.mono hnw)
        have k22 := k2.below hb2' k2.lt
        have k02 := k0.below hb2' k0.lt
        have k12 := k1.below hb2' k1.lt
        have o2 := hown.below hb2'
        have hqo2 : q.own u2 wr.heap.size u2.heap.size := hqo
        have hs2 := hb2'.size
        refine hK.out _ _ (HSS.out _ hn2 k02) (fun hHeld => ?_)
        clear hK K
        try simp only [Act.put, List.getElem_toArray, List.getElem_cons_zero, List.getElem_cons_succ, List.setIfInBounds_toArray, List.set_cons_zero, List.set_cons_succ]
        refine wpAnyH_ready (rs := [8]) (by kernel_rfl) (by simp) ?_
        refine AllReadyH.cons rfl (fun K hK => ?_) AllReadyH.nil
        go_simp
        simp only [cellsR_len, lit_rec, not_true_eq_false, Nat.lt_irrefl, or_self, if_false]
        go_simp
        obtain ⟨W3, hW3, b3, hb3, hs3⟩ := boxes1 u2 q.cells 42
        rw [hW3.out]
        have hn3 : Below w.heap.size w W3 := hn2.trans (hb3.mono hn2.size)
        have k23 := k22.below hb3 k22.lt
        have k03 := k02.below hb3 k02.lt
        have k13 := k12.below hb3 k12.lt
        have o3 := o2.below hb3
        have hqo3 := hqo2.below hb3
        have r3 : W3.rangeAt u2.heap.size 0 q.cells := Box.range [] q.cells [] (by simpa using b3)
        have hs3' := b3.lt
        clear hs3 hb3 hW3 b3 k02 k12 o2 hqo2
        refine hK.out _ _ (HSS.out _ hn3 k03) (fun hHeld => ?_)
        clear hK K
        try simp only [Act.put, List.getElem_toArray, List.getElem_cons_zero, List.getElem_cons_succ, List.setIfInBounds_toArray, List.set_cons_zero, List.set_cons_succ]
        have hll : ts.length + 1 ≤ 68719476736 := by have := HL.out; omega
        refine wpAnyH_ready (rs := [9]) (by kernel_rfl) (by simp) ?_
        refine AllReadyH.cons rfl (fun K hK => ?_) AllReadyH.nil
        refine step_append_rec rfl (.tmp 16) (.tmp 23) rfl W.heap.size wr.heap.size a' c' ts rfl o3 u2.heap.size 0 1 q rfl r3 wr.heap.size u2.heap.size hqo3 (Nat.le_refl _) (by omega) hll hsz ?_
        intro a9 c9 w9 o9 g9
        have HCM := HS.out q hq.out
        obtain ⟨ys, hys⟩ : ∃ ys, Hid (ts ++ [q] = ys) := ⟨_, rfl⟩
        rw [hys.out] at o9 HCM ⊢
        have hw9 : Within W.heap.size wr.heap.size W3 w9 := Within.of_grown g9 (fun j hj => ⟨(o3.row.lt j hj).1, o3.blk j hj⟩)
        have hs9 := hw9.size
        have hn9 : Below w.heap.size w w9 := hn3.trans (hw9.below (by omega) (by omega))
        have k29 := k23.within hw9 (by omega)
        have k09 := k03.within hw9 (by omega)
        have k19 := k13.within hw9 (by omega)
        refine hK.out _ _ (HSS.out _ hn9 k09) (fun hHeld => ?_)
        clear hK K hw9 g9 o3 r3 hqo3 k23 k03 k13
        try simp only [Act.put, List.getElem_toArray, List.getElem_cons_zero, List.getElem_cons_succ, List.setIfInBounds_toArray, List.set_cons_zero, List.set_cons_succ]
        refine wpAnyH_take (i := 10) (v := .pointer (some ⟨w.heap.size + 1 + 1, 0, none⟩)) rfl (by kernel_rfl) (by kernel_rfl) (by kernel_rfl) (fun _ _ _ h => h) (Or.inl ⟨by rfl, ?_⟩) hHeld ?_
        · intro w' hSw
          go_simp <;> rfl
        try simp only [Act.put, List.getElem_toArray, List.getElem_cons_zero, List.getElem_cons_succ, List.setIfInBounds_toArray, List.set_cons_zero, List.set_cons_succ]
        have m0 := k29.cell 0 _ rfl
        have mf0 := k29.frozen 0
        obtain ⟨WF, hWF, kF, hwF, hsF⟩ := box_set k29 0 (.slice a9 ys.length c9)
        simp only [List.set] at kF
        have hsFa := Nat.le_of_eq hsF
        have hsFb := Nat.le_of_eq hsF.symm
        clear hsF
        have k0F := k09.within hwF (by omega)
        have k1F := k19.within hwF (by omega)
        have oF := (o9.within hwF (.inr (by omega))).widen (Nat.le_refl _) hsFb (Nat.le_refl _)
        have hnF : Below w.heap.size w WF := hn9.trans (hwF.below (by omega) (by omega))
        clear hwF k29 k09 k19 o9
        refine wpAnyH_ready (rs := [11]) (by kernel_rfl) (by simp) ?_
        refine AllReadyH.cons rfl (fun K hK => ?_) AllReadyH.nil
        go_simp
        rw [hWF.out]
        refine hK.out _ _ (HSS.out _ hnF k0F) (fun hHeld => ?_)
        clear hK K
        try simp only [Act.put, List.getElem_toArray, List.getElem_cons_zero, List.getElem_cons_succ, List.setIfInBounds_toArray, List.set_cons_zero, List.set_cons_succ]
        refine wpAnyH_done (by kernel_rfl) ?_ _
        clear m0 mf0 hWF
        go_wp2_with fail
        go_roundw
        case rel => exact ⟨k + 1, ys, a9, c9, by omega, by go_num, HCM, kF, k0F, k1F, oF, hnF, by omega⟩
        case measure => simp [intOf]; omega
      · go_simp
        refine C.mono ?_
        clear C
        rintro e u2 ⟨q, rfl, hq, hqo, hb2⟩
        have hb2' : Below wr.heap.size wr u2 := hnd.trans hb2
        have hn2 : Below w.heap.size w u2 := hnx.trans (hb2'.mono hnw)
        have k22 := k2.below hb2' k2.lt
        have k02 := k0.below hb2' k0.lt
        have k12 := k1.below hb2' k1.lt
        have o2 := hown.below hb2'
        have hqo2 : q.own u2 wr.heap.size u2.heap.size := hqo
        have hs2 := hb2'.size
        refine hK.out _ _ (HSS.out _ hn2 k02) (fun hHeld => ?_)
        clear hK K
        try simp only [Act.put, List.getElem_toArray, List.getElem_cons_zero, List.getElem_cons_succ, List.setIfInBounds_toArray, List.set_cons_zero, List.set_cons_succ]
        refine wpAnyH_ready (rs := [1, 8]) (by kernel_rfl) (by simp) ?_
        refine AllReadyH.cons rfl (fun K hK => ?_) (AllReadyH.cons rfl (fun K hK => ?_) AllReadyH.nil)
        · have d0 := k22.cell 0 _ rfl
          go_simp
          refine hK.out _ _ (hHeld) (fun hHeld => ?_)
          clear hK K
          try simp only [Act.put, List.getElem_toArray, List.getElem_cons_zero, List.getElem_cons_succ, List.setIfInBounds_toArray, List.set_cons_zero, List.set_cons_succ]
          refine wpAnyH_ready (rs := [8]) (by kernel_rfl) (by simp) ?_
          refine AllReadyH.cons rfl (fun K hK => ?_) AllReadyH.nil
          go_simp
          simp only [cellsR_len, lit_rec, not_true_eq_false, Nat.lt_irrefl, or_self, if_false]
          go_simp
          obtain ⟨W3, hW3, b3, hb3, hs3⟩ := boxes1 u2 q.cells 42
          rw [hW3.out]
          have hn3 : Below w.heap.size w W3 := hn2.trans (hb3.mono hn2.size)
          have k23 := k22.below hb3 k22.lt
          have k03 := k02.below hb3 k02.lt
          have k13 := k12.below hb3 k12.lt
          have o3 := o2.below hb3
          have hqo3 := hqo2.below hb3
          have r3 : W3.rangeAt u2.heap.size 0 q.cells := Box.range [] q.cells [] (by simpa using b3)
          have hs3' := b3.lt
          clear hs3 hb3 hW3 b3 k02 k12 o2 hqo2
          refine hK.out _ _ (HSS.out _ hn3 k03) (fun hHeld => ?_)
          clear hK K
          try simp only [Act.put, List.getElem_toArray, List.getElem_cons_zero, List.getElem_cons_succ, List.setIfInBounds_toArray, List.set_cons_zero, List.set_cons_succ]
          have hll : ts.length + 1 ≤ 68719476736 := by have := HL.out; omega
          refine wpAnyH_ready (rs := [9]) (by kernel_rfl) (by simp) ?_
          refine AllReadyH.cons rfl (fun K hK => ?_) AllReadyH.nil
          refine step_append_rec rfl (.tmp 16) (.tmp 23) rfl W.heap.size wr.heap.size a' c' ts rfl o3 u2.heap.size 0 1 q rfl r3 wr.heap.size u2.heap.size hqo3 (Nat.le_refl _) (by omega) hll hsz ?_
          intro a9 c9 w9 o9 g9
          have HCM := HS.out q hq.out
          obtain ⟨ys, hys⟩ : ∃ ys, Hid (ts ++ [q] = ys) := ⟨_, rfl⟩
          rw [hys.out] at o9 HCM ⊢
          have hw9 : Within W.heap.size wr.heap.size W3 w9 := Within.of_grown g9 (fun j hj => ⟨(o3.row.lt j hj).1, o3.blk j hj⟩)
          have hs9 := hw9.size
          have hn9 : Below w.heap.size w w9 := hn3.trans (hw9.below (by omega) (by omega))
          have k29 := k23.within hw9 (by omega)
          have k09 := k03.within hw9 (by omega)
          have k19 := k13.within hw9 (by omega)
          refine hK.out _ _ (HSS.out _ hn9 k09) (fun hHeld => ?_)
          clear hK K hw9 g9 o3 r3 hqo3 k23 k03 k13
          try simp only [Act.put, List.getElem_toArray, List.getElem_cons_zero, List.getElem_cons_succ, List.setIfInBounds_toArray, List.set_cons_zero, List.set_cons_succ]
          refine wpAnyH_take (i := 10) (v := .pointer (some ⟨w.heap.size + 1 + 1, 0, none⟩)) rfl (by kernel_rfl) (by kernel_rfl) (by kernel_rfl) (fun _ _ _ h => h) (Or.inl ⟨by rfl, ?_⟩) hHeld ?_
          · intro w' hSw
            go_simp <;> rfl
          try simp only [Act.put, List.getElem_toArray, List.getElem_cons_zero, List.getElem_cons_succ, List.setIfInBounds_toArray, List.set_cons_zero, List.set_cons_succ]
          have m0 := k29.cell 0 _ rfl
          have mf0 := k29.frozen 0
          obtain ⟨WF, hWF, kF, hwF, hsF⟩ := box_set k29 0 (.slice a9 ys.length c9)
          simp only [List.set] at kF
          have hsFa := Nat.le_of_eq hsF
          have hsFb := Nat.le_of_eq hsF.symm
          clear hsF
          have k0F := k09.within hwF (by omega)
          have k1F := k19.within hwF (by omega)
          have oF := (o9.within hwF (.inr (by omega))).widen (Nat.le_refl _) hsFb (Nat.le_refl _)
          have hnF : Below w.heap.size w WF := hn9.trans (hwF.below (by omega) (by omega))
          clear hwF k29 k09 k19 o9
          refine wpAnyH_ready (rs := [11]) (by kernel_rfl) (by simp) ?_
          refine AllReadyH.cons rfl (fun K hK => ?_) AllReadyH.nil
          go_simp
          rw [hWF.out]
          refine hK.out _ _ (HSS.out _ hnF k0F) (fun hHeld => ?_)
          clear hK K
          try simp only [Act.put, List.getElem_toArray, List.getElem_cons_zero, List.getElem_cons_succ, List.setIfInBounds_toArray, List.set_cons_zero, List.set_cons_succ]
          refine wpAnyH_done (by kernel_rfl) ?_ _
          clear m0 mf0 hWF
          go_wp2_with fail
          go_roundw
          case rel => exact ⟨k + 1, ys, a9, c9, by omega, by go_num, HCM, kF, k0F, k1F, oF, hnF, by omega⟩
          case measure => simp [intOf]; omega
        · go_simp
          simp only [cellsR_len, lit_rec, not_true_eq_false, Nat.lt_irrefl, or_self, if_false]
          go_simp
          obtain ⟨W3, hW3, b3, hb3, hs3⟩ := boxes1 u2 q.cells 42
          rw [hW3.out]
          have hn3 : Below w.heap.size w W3 := hn2.trans (hb3.mono hn2.size)
          have k23 := k22.below hb3 k22.lt
          have k03 := k02.below hb3 k02.lt
          have k13 := k12.below hb3 k12.lt
          have o3 := o2.below hb3
          have hqo3 := hqo2.below hb3
          have r3 : W3.rangeAt u2.heap.size 0 q.cells := Box.range [] q.cells [] (by simpa using b3)
          have hs3' := b3.lt
          clear hs3 hb3 hW3 b3 k02 k12 o2 hqo2
          refine hK.out _ _ (HSS.out _ hn3 k03) (fun hHeld => ?_)
          clear hK K
          try simp only [Act.put, List.getElem_toArray, List.getElem_cons_zero, List.getElem_cons_succ, List.setIfInBounds_toArray, List.set_cons_zero, List.set_cons_succ]
          have d0 := k23.cell 0 _ rfl
          refine wpAnyH_ready (rs := [1]) (by kernel_rfl) (by simp) ?_
          refine AllReadyH.cons rfl (fun K hK => ?_) AllReadyH.nil
          go_simp
          refine hK.out _ _ (hHeld) (fun hHeld => ?_)
          clear hK K
          try simp only [Act.put, List.getElem_toArray, List.getElem_cons_zero, List.getElem_cons_succ, List.setIfInBounds_toArray, List.set_cons_zero, List.set_cons_succ]
          have hll : ts.length + 1 ≤ 68719476736 := by have := HL.out; omega
          refine wpAnyH_ready (rs := [9]) (by kernel_rfl) (by simp) ?_
          refine AllReadyH.cons rfl (fun K hK => ?_) AllReadyH.nil
          refine step_append_rec rfl (.tmp 16) (.tmp 23) rfl W.heap.size wr.heap.size a' c' ts rfl o3 u2.heap.size 0 1 q rfl r3 wr.heap.size u2.heap.size hqo3 (Nat.le_refl _) (by omega) hll hsz ?_
          intro a9 c9 w9 o9 g9
          have HCM := HS.out q hq.out
          obtain ⟨ys, hys⟩ : ∃ ys, Hid (ts ++ [q] = ys) := ⟨_, rfl⟩
          rw [hys.out] at o9 HCM ⊢
          have hw9 : Within W.heap.size wr.heap.size W3 w9 := Within.of_grown g9 (fun j hj => ⟨(o3.row.lt j hj).1, o3.blk j hj⟩)
          have hs9 := hw9.size
          have hn9 : Below w.heap.size w w9 := hn3.trans (hw9.below (by omega) (by omega))
          have k29 := k23.within hw9 (by omega)
          have k09 := k03.within hw9 (by omega)
          have k19 := k13.within hw9 (by omega)
          refine hK.out _ _ (HSS.out _ hn9 k09) (fun hHeld => ?_)
          clear hK K hw9 g9 o3 r3 hqo3 k23 k03 k13
          try simp only [Act.put, List.getElem_toArray, List.getElem_cons_zero, List.getElem_cons_succ, List.setIfInBounds_toArray, List.set_cons_zero, List.set_cons_succ]
          refine wpAnyH_take (i := 10) (v := .pointer (some ⟨w.heap.size + 1 + 1, 0, none⟩)) rfl (by kernel_rfl) (by kernel_rfl) (by kernel_rfl) (fun _ _ _ h => h) (Or.inl ⟨by rfl, ?_⟩) hHeld ?_
          · intro w' hSw
            go_simp <;> rfl
          try simp only [Act.put, List.getElem_toArray, List.getElem_cons_zero, List.getElem_cons_succ, List.setIfInBounds_toArray, List.set_cons_zero, List.set_cons_succ]
          have m0 := k29.cell 0 _ rfl
          have mf0 := k29.frozen 0
          obtain ⟨WF, hWF, kF, hwF, hsF⟩ := box_set k29 0 (.slice a9 ys.length c9)
          simp only [List.set] at kF
          have hsFa := Nat.le_of_eq hsF
          have hsFb := Nat.le_of_eq hsF.symm
          clear hsF
          have k0F := k09.within hwF (by omega)
          have k1F := k19.within hwF (by omega)
          have oF := (o9.within hwF (.inr (by omega))).widen (Nat.le_refl _) hsFb (Nat.le_refl _)
          have hnF : Below w.heap.size w WF := hn9.trans (hwF.below (by omega) (by omega))
          clear hwF k29 k09 k19 o9
          refine wpAnyH_ready (rs := [11]) (by kernel_rfl) (by simp) ?_
          refine AllReadyH.cons rfl (fun K hK => ?_) AllReadyH.nil
          go_simp
          rw [hWF.out]
          refine hK.out _ _ (HSS.out _ hnF k0F) (fun hHeld => ?_)
          clear hK K
          try simp only [Act.put, List.getElem_toArray, List.getElem_cons_zero, List.getElem_cons_succ, List.setIfInBounds_toArray, List.set_cons_zero, List.set_cons_succ]
          refine wpAnyH_done (by kernel_rfl) ?_ _
          clear m0 mf0 hWF
          go_wp2_with fail
          go_roundw
          case rel => exact ⟨k + 1, ys, a9, c9, by omega, by go_num, HCM, kF, k0F, k1F, oF, hnF, by omega⟩
          case measure => simp [intOf]; omega
    · have HE : Hid (ts.map RecA.v = rs.map RecA.v) := by
        have e : k = rs.length := by omega
        rw [e] at hc
        exact hc.out.all
      have e0 := k2.cell 0 _ rfl
      have e1 := k2.cell 1 _ rfl
      have m0 := k1.cell 0 _ rfl
      have m1 := k1.cell 1 _ rfl
      have mf0 := k1.frozen 0
      have mf1 := k1.frozen 1
      obtain ⟨WF, hWF, bF, hwF, hsF⟩ := box2_fill k1 (.slice a' ts.length c') (.int .i64 s)
      have q0 := bF.cell 0 _ rfl
      have q1 := bF.cell 1 _ rfl
      have hoF := (hown.within hwF (.inr (by omega))).widen (show w.heap.size ≤ W.heap.size by omega) (show wr.heap.size ≤ WF.heap.size by omega) (Nat.le_refl _)
      have hbF : Below w.heap.size w WF := hnx.trans (hwF.below (by omega) (by have := hnx.size; omega))
      clear hwF hsF bF
      go_wp2
      rw [hWF.out]
      exact bodyPost_ret (v := .agg #[.slice a' ts.length c', .int .i64 s]) (by simp [results, Tryz.results56, go_sem, q0, q1]) rfl ⟨⟨ts, s, a', c'⟩, rfl, by simp only [Hid, LogA.v]; rw [HE.out], hoF, hbF⟩
end Go.Proofs.YtbpdocjkhmiimaaGreatDoor

/- Logs: when they are right, what is made of them. -/
namespace Go.Proofs.YtbpdocjkhmiimaaGreatDoor
open Go.RowKit

theorem zeroR_v : zeroR.v = noR := rfl
theorem getD_v (rs : List RecA) (k : Nat) : (rs.map RecA.v).getD k noR = (rs.getD k zeroR).v := by
  simp only [List.getD, List.getElem?_map]
  cases rs[k]? <;> rfl
def okAt (rs : List RecV) (k : Nat) : Bool := ((rs.getD k noR).lsn == (k + 1 : Int)) && okR (rs.getD k noR)
/-- Is the log right? -/
def okLog (l : LogV) : Bool := decide (l.recs.length ≤ 4000) && (inB l.sure 0 l.recs.length && (List.range l.recs.length).all (okAt l.recs))
theorem okLog_len {l : LogV} (h : ¬ l.recs.length ≤ 4000) : okLog l = false := by simp [okLog, h]
theorem okLog_sure {l : LogV} (h : inB l.sure 0 l.recs.length = false) : okLog l = false := by simp [okLog, h]
theorem okLog_no {l : LogV} (k : Nat) (hk : k < l.recs.length) (h : okAt l.recs k = false) : okLog l = false := by
  have : (List.range l.recs.length).all (okAt l.recs) = false := by
    rw [List.all_eq_false]
    exact ⟨k, List.mem_range.2 hk, by rw [h]; decide⟩
  simp [okLog, this]
theorem okLog_all {l : LogV} (h0 : l.recs.length ≤ 4000) (h1 : inB l.sure 0 l.recs.length = true) (h : ∀ k, k < l.recs.length → okAt l.recs k = true) : okLog l = true := by
  have : (List.range l.recs.length).all (okAt l.recs) = true := by
    rw [List.all_eq_true]
    exact fun k hk => h k (List.mem_range.1 hk)
  simp [okLog, this, h0, h1]
theorem okLog_yes {l : LogV} (h : okLog l = true) : l.recs.length ≤ 4000 ∧ 0 ≤ l.sure ∧ l.sure ≤ l.recs.length ∧ ∀ k, k < l.recs.length → (l.recs.getD k noR).lsn = (k + 1 : Int) ∧ okR (l.recs.getD k noR) = true := by
  simp only [okLog, Bool.and_eq_true, decide_eq_true_eq, List.all_eq_true, List.mem_range, okAt, beq_iff_eq, inB] at h
  exact ⟨h.1, h.2.1.1, h.2.1.2, h.2.2⟩
theorem LogA.v_len (l : LogA) : l.v.recs.length = l.recs.length := by simp [LogA.v]
theorem LogA.v_at (l : LogA) (k : Nat) : l.v.recs.getD k noR = (l.recs.getD k zeroR).v := getD_v l.recs k
theorem okAt_v (l : LogA) (k : Nat) : okAt l.v.recs k = (((l.recs.getD k zeroR).lsn == (k + 1 : Int)) && okR (l.recs.getD k zeroR).v) := by
  unfold okAt
  rw [l.v_at]
  rfl

def lsnR (r : RecV) (n : Int) : RecV := { r with lsn := n }
def appendOf (l : LogV) (r : RecV) : LogV × Int :=
  if okLog l = true ∧ l.recs.length ≠ 4000 ∧ okR (lsnR r (l.recs.length + 1)) = true then (⟨l.recs ++ [lsnR r (l.recs.length + 1)], l.sure⟩, l.recs.length + 1) else (l, 0)
def forceOf (l : LogV) (n : Int) : LogV := if okLog l = true then ⟨l.recs, max l.sure (min n l.recs.length)⟩ else l
def leftOf (l : LogV) (keep : Int) : Nat := if keep < l.recs.length - l.sure then (l.sure + keep).toNat else l.recs.length
def tearOf (l : LogV) (keep : Int) : LogV := if okLog l = true ∧ 0 ≤ keep then ⟨l.recs.take (leftOf l keep), leftOf l keep⟩ else l
def logBytesOf (l : LogV) : List Int := if okLog l = true then l.recs.flatMap (fun r => frameOf (putRecOf r)) else []
end Go.Proofs.YtbpdocjkhmiimaaGreatDoor

/- The walk of spec.LogOk. -/
namespace Go.Proofs.YtbpdocjkhmiimaaGreatDoor
open Go.RowKit

/-- A whole value loaded where a guard stands ahead of it that lets it by. -/
theorem load_if {ops : Array Oper} {rest : List Oper} {op : Oper} {a : Act} {w : World} {Q : Exit → Act → World → Prop} {P : Program} (hw : Region.wanted op (yielded ops a.tmps) = true) (ty : TypeId) (x : Operand) (ho : op.op = .load ty x)
    (b o : Nat) (hx : a.eval x = .pointer (some ⟨b, o, none⟩)) (cs : List Value) (d : TypeDesc) (hc : w.rangeAt b o cs)
    (hu : P.underlying ty = some d) (hd : d.isRow = true) (hi : (P.info? ty).map (·.size) = some cs.length)
    (h : wpList P ops Q rest (a.put op.dst (.agg cs.toArray)) w) : wpList P ops Q (op :: rest) a w :=
  wpList_step fun _ hK => by
    simp only [hw, if_true]
    exact wp_load_mid ty x ho b o hx cs d hc hu hd hi (hK _ _ h)

set_option maxHeartbeats 4000000 in
set_option maxRecDepth 100000 in
theorem specLogOk_any (l : LogA) (w : World) (hr : l.reads w) (hl : l.short 1099511627776) :
    Calls Tryz.prog 11 #[.agg l.cells.toArray] w fun e w' => e = .returned (.bool (okLog l.v)) ∧ Below w.heap.size w w' := by
  have HLEN : Hid (¬ l.recs.length ≤ 4000 → okLog l.v = false) := fun h => okLog_len (by rw [l.v_len]; exact h)
  have HSURE : Hid (inB l.sure 0 l.recs.length = false → okLog l.v = false) := fun h => okLog_sure (by rw [l.v_len]; exact h)
  have HNO : Hid (∀ k, k < l.recs.length → (((l.recs.getD k zeroR).lsn == (k + 1 : Int)) && okR (l.recs.getD k zeroR).v) = false → okLog l.v = false) := fun k hk h => okLog_no k (by rw [l.v_len]; exact hk) (by rw [okAt_v]; exact h)
  have HALL : Hid (l.recs.length ≤ 4000 → inB l.sure 0 l.recs.length = true → (∀ k, k < l.recs.length → (((l.recs.getD k zeroR).lsn == (k + 1 : Int)) && okR (l.recs.getD k zeroR).v) = true) → okLog l.v = true) := fun h0 h1 h => okLog_all (by rw [l.v_len]; exact h0) (by rw [l.v_len]; exact h1) (fun k hk => by rw [okAt_v]; exact h k (by rw [l.v_len] at hk; exact hk))
  generalize okLog l.v = R at *
  have HS : Hid (∀ k, k < l.recs.length → (l.recs.getD k zeroR).short 1099511627776) := fun k hk => hl.at k hk
  have hlen := hl.len
  obtain ⟨rs, s, a, c⟩ := l
  simp only [LogA.reads, LogA.cells] at *
  obtain ⟨W, hW, b0, hbW, hsW⟩ := boxes1 w [.slice a rs.length c, .int .i64 s] 26
  have c0 := b0.cell 0 _ rfl
  have c1 := b0.cell 1 _ rfl
  clear hl hsW
  have HC : Hid (∀ k, k < rs.length → ∃ b off, a = some ⟨b, off, none⟩ ∧ W.rangeAt b (off + k * 15) (rs.getD k zeroR).cells ∧ (rs.getD k zeroR).reads W) := fun k hk => by
    obtain ⟨b, off, ha, hc⟩ := (ReadsRs.below hr hbW) (by intro e; rw [e] at hk; simp at hk)
    exact ⟨b, off, ha, hc k hk⟩
  have HI : Hid ((Tryz.prog.info? 42).map (·.size) = some 15) := by rw [Hid]; kernel_rfl
  clear hr
  by_cases h4 : rs.length ≤ 4000
  case neg =>
    have HR : Hid (R = false) := HLEN.out h4
    clear HLEN HSURE HNO HALL
    go_enter Tryz.func11, Tryz.ntmps11
    go_wp2_with fail
    rw [hW.out]
    go_ret
    exact ⟨ret_bool HR.out.symm, hbW⟩
  case pos =>
    cases h5 : inB s 0 rs.length with
    | false =>
      have HR : Hid (R = false) := HSURE.out h5
      clear HLEN HSURE HNO HALL
      go_enter Tryz.func11, Tryz.ntmps11
      go_wp2_with fail
      rw [hW.out]
      refine (l1In_any _ _ _ W).mono ?_
      rintro e u ⟨rfl, hu⟩
      rw [hu]
      clear hu u
      go_wp2
      go_ret
      exact ⟨ret_bool HR.out.symm, hbW⟩
    | true =>
      go_enter Tryz.func11, Tryz.ntmps11
      go_wp2_with fail
      rw [hW.out]
      refine (l1In_any _ _ _ W).mono ?_
      rintro e u ⟨rfl, hu⟩
      rw [hu]
      clear hu u hW
      go_wp2_with fail
      go_loopw [3] (fun i wr => ∃ k : Nat, k ≤ rs.length ∧ i = .int .i64 k ∧ Hid (∀ j, j < k → (((rs.getD j zeroR).lsn == (j + 1 : Int)) && okR (rs.getD j zeroR).v) = true) ∧ Below W.heap.size W wr) (fun i _ => rs.length - (intOf i).toNat)
      case atStart => exact ⟨0, Nat.zero_le _, rfl, fun j hj => by omega, Below.refl _ _⟩
      case round =>
        obtain ⟨k, hk, rfl, hall, hbl⟩ := hrel
        have hbm : Below w.heap.size w wr := hbW.trans (hbl.mono hbW.size)
        have r0 := (hbl.cell (block_lt c0)).trans c0
        clear c0 c1
        by_cases hlt : k < rs.length
        · obtain ⟨b, off, rfl, hcell, hrd⟩ := HC.out k hlt
          have HR : Hid (wr.rangeAt b (off + k * 15) (rs.getD k zeroR).cells) := range_below hcell hbl
          have x0 : wr.cell? ⟨b, off + k * 15, none⟩ = some (.int .i64 (rs.getD k zeroR).lsn) := HR.out 0 _ rfl
          have C := specRecOk_any (rs.getD k zeroR) wr (hrd.below hbl) (HS.out k hlt)
          have HN : Hid ((((rs.getD k zeroR).lsn == (k + 1 : Int)) && okR (rs.getD k zeroR).v) = false → R = false) := HNO.out k hlt
          have HY : Hid ((((rs.getD k zeroR).lsn == (k + 1 : Int)) && okR (rs.getD k zeroR).v) = true → ∀ j, j < k + 1 → (((rs.getD j zeroR).lsn == (j + 1 : Int)) && okR (rs.getD j zeroR).v) = true) := fun h j hj => by
            by_cases e : j = k
            · rw [e]; exact h
            · exact hall.out j (by omega)
          clear hcell HC HLEN HSURE HNO HALL hall HS hrd
          generalize rs.getD k zeroR = y at *
          cases h6 : (y.lsn == (k + 1 : Int)) with
          | false =>
            have HR2 : Hid (R = false) := HN.out (by rw [h6]; rfl)
            have h6b : (y.lsn != (k : Int) + 1) = true := by simp only [bne, h6, Bool.not_false]
            clear h6
            clear HN HY C
            go_wp2_with fail
            go_ret
            exact ⟨ret_bool HR2.out.symm, hbm⟩
          | true =>
            rw [h6, Bool.true_and] at HN HY
            have h6b : (y.lsn != (k : Int) + 1) = false := by simp only [bne, h6, Bool.not_true]
            clear h6
            cases h7 : okR y.v with
            | false =>
              have HR2 : Hid (R = false) := HN.out h7
              clear HN HY
              rw [h7] at C
              go_wp2_with (first | (guard_target = wpList _ _ _ (Oper.mk (some 38) _ _ _ _ _ :: _) _ _; refine load_if (by rfl) 42 (.tmp 37) rfl b (off + k * 15) rfl y.cells _ HR.out Tryz.underlying42 rfl HI.out ?_) | fail)
              refine C.mono ?_
              rintro e w1 ⟨rfl, hb1⟩
              go_wp2_with fail
              go_ret
              exact ⟨ret_bool HR2.out.symm, hbm.trans (hb1.mono hbm.size)⟩
            | true =>
              have HY2 := HY.out h7
              clear HN HY
              rw [h7] at C
              go_wp2_with (first | (guard_target = wpList _ _ _ (Oper.mk (some 38) _ _ _ _ _ :: _) _ _; refine load_if (by rfl) 42 (.tmp 37) rfl b (off + k * 15) rfl y.cells _ HR.out Tryz.underlying42 rfl HI.out ?_) | fail)
              refine C.mono ?_
              rintro e w1 ⟨rfl, hb1⟩
              clear C
              have hb2 : Below W.heap.size W w1 := hbl.trans (hb1.mono hbl.size)
              go_wp2_with fail
              go_roundw
              case rel => exact ⟨k + 1, by omega, by go_num, HY2, hb2⟩
              case measure => simp [intOf]; omega
        · have HR : Hid (R = true) := HALL.out h4 h5 (fun j hj => hall.out j (by omega))
          clear HLEN HSURE HNO HALL
          go_wp2
          go_ret
          exact ⟨ret_bool HR.out.symm, hbm⟩
end Go.Proofs.YtbpdocjkhmiimaaGreatDoor

/- A row of one record laid by a literal. -/
namespace Go.Proofs.YtbpdocjkhmiimaaGreatDoor
open Go.RowKit

set_option maxRecDepth 100000 in
theorem build_rec {w : World} {ops : Array Oper} {rest : List Oper} {dst : Option Nat} {ty : TypeId} {pos : String} {aft : Array Edge} {act : Act} {Q : Exit → Act → World → Prop} (x : Operand)
    (q : RecA) (hx : act.eval x = .agg q.cells.toArray)
    (h : wpList Tryz.prog ops Q rest (act.put dst (.slice (some ⟨w.heap.size, 0, none⟩) 1 1)) (w.alloc (.cells q.cells.toArray 42))) :
    wpList Tryz.prog ops Q ({ dst := dst, op := .buildSlice 24 1 #[(0, x)], type := ty, pos := pos, after := aft, guard := none } :: rest) act w := by
  refine wpList_plain rfl fun K hK => ?_
  unfold Oper.wp execOp
  simp only [List.map_toArray, List.map_cons, List.map_nil, hx]
  go_simp
  simp only [cellsR_len, lit_rec, not_true_eq_false, Nat.lt_irrefl, or_self, if_false]
  go_simp
  exact hK _ _ h
end Go.Proofs.YtbpdocjkhmiimaaGreatDoor
