/- Several texts in one, in their order. -/
import Derived.Test.YtbpdocjkhmiimabGreatDoorPTearx27
import Derived.Test.YtbpdocjkhmiimabGreatDoorPTearx28
import Derived.Test.YtbpdocjkhmiimabGreatDoorPTearx26
import Derived.Test.YtbpdocjkhmiimabGreatDoorPTearx16
import Derived.Deep.CutRange
/- The walk of impl.LogOk. -/
namespace Go.Proofs.YtbpdocjkhmiimabGreatDoor
open Go.RowKit

theorem lsnAt_any (p : Int) (w : World) (h : 0 ≤ p ∧ p ≤ 1099511627776) :
    Calls Tryz.prog 39 #[.int .i64 p] w fun e w' => e = .returned (.int .i64 (p + 1)) ∧ w' = w := by
  go_enter Tryz.func39, Tryz.ntmps39
  go_wp2
  go_ret
  exact ⟨rfl, rfl⟩

set_option maxHeartbeats 4000000 in
set_option maxRecDepth 100000 in
theorem implLogOk_any (l : LogA) (w : World) (hg : ErrT w) (hr : l.reads w) (hl : l.short 1099511627776) :
    Calls Tryz.prog 25 #[.agg l.cells.toArray] w fun e w' => e = .returned (.bool (okLog l.v)) ∧ Below w.heap.size w w' := by
  have HLEN : Hid (¬ l.recs.length ≤ 4000 → okLog l.v = false) := fun h => okLog_len (by rw [l.v_len]; exact h)
  have HSURE : Hid (¬ (0 ≤ l.sure ∧ l.sure ≤ l.recs.length) → okLog l.v = false) := fun h => okLog_sure (by rw [l.v_len]; unfold inB; exact decide_eq_false h)
  have HNO : Hid (∀ k, k < l.recs.length → (((l.recs.getD k zeroR).lsn == (k + 1 : Int)) && okR (l.recs.getD k zeroR).v) = false → okLog l.v = false) := fun k hk h => okLog_no k (by rw [l.v_len]; exact hk) (by rw [okAt_v]; exact h)
  have HALL : Hid (l.recs.length ≤ 4000 → 0 ≤ l.sure ∧ l.sure ≤ l.recs.length → (∀ k, k < l.recs.length → (((l.recs.getD k zeroR).lsn == (k + 1 : Int)) && okR (l.recs.getD k zeroR).v) = true) → okLog l.v = true) := fun h0 h1 h => okLog_all (by rw [l.v_len]; exact h0) (by rw [l.v_len]; unfold inB; exact decide_eq_true h1) (fun k hk => by rw [okAt_v]; exact h k (by rw [l.v_len] at hk; exact hk))
  generalize okLog l.v = R at *
  have HS : Hid (∀ k, k < l.recs.length → (l.recs.getD k zeroR).short 1099511627776) := fun k hk => hl.at k hk
  have hlen := hl.len
  obtain ⟨rs, s, a, c⟩ := l
  simp only [LogA.reads, LogA.cells] at *
  obtain ⟨W, hW, b0, hbW, hsW⟩ := boxes1 w [.slice a rs.length c, .int .i64 s] 28
  have c0 := b0.cell 0 _ rfl
  have c1 := b0.cell 1 _ rfl
  clear hl hsW
  have HC : Hid (∀ k, k < rs.length → ∃ b off, a = some ⟨b, off, none⟩ ∧ W.rangeAt b (off + k * 15) (rs.getD k zeroR).cells ∧ (rs.getD k zeroR).reads W) := fun k hk => by
    obtain ⟨b, off, ha, hc⟩ := (ReadsRs.below hr hbW) (by intro e; rw [e] at hk; simp at hk)
    exact ⟨b, off, ha, hc k hk⟩
  have HI : Hid ((Tryz.prog.info? 59).map (·.size) = some 15) := by rw [Hid]; kernel_rfl
  have HG : Hid (∀ u, Below W.heap.size W u → ErrT u) := fun u hu => hg.keep (hbW.trans (hu.mono hbW.size))
  clear hr hg
  by_cases h4 : rs.length ≤ 4000
  case neg =>
    have HR : Hid (R = false) := HLEN.out h4
    clear HLEN HSURE HNO HALL
    go_enter Tryz.func25, Tryz.ntmps25
    go_wp2_with fail
    rw [hW.out]
    go_ret
    exact ⟨ret_bool HR.out.symm, hbW⟩
  case pos =>
    by_cases h5 : 0 ≤ s
    case neg =>
      have HR : Hid (R = false) := HSURE.out (fun h => h5 h.1)
      clear HLEN HSURE HNO HALL
      go_enter Tryz.func25, Tryz.ntmps25
      go_wp2_with fail
      rw [hW.out]
      go_ret
      exact ⟨ret_bool HR.out.symm, hbW⟩
    by_cases h6 : s ≤ rs.length
    case neg =>
      have HR : Hid (R = false) := HSURE.out (fun h => h6 h.2)
      clear HLEN HSURE HNO HALL
      go_enter Tryz.func25, Tryz.ntmps25
      go_wp2_with fail
      rw [hW.out]
      go_ret
      exact ⟨ret_bool HR.out.symm, hbW⟩
    have HRES : Hid ((∀ k, k < rs.length → (((rs.getD k zeroR).lsn == (k + 1 : Int)) && okR (rs.getD k zeroR).v) = true) → R = true) := HALL.out h4 ⟨h5, h6⟩
    clear HALL HLEN HSURE
    go_enter Tryz.func25, Tryz.ntmps25
    go_wp2_with fail
    rw [hW.out]
    clear hW
    go_loopw [25] (fun i wr => ∃ k : Nat, k ≤ rs.length ∧ i = .int .i64 k ∧ Hid (∀ j, j < k → (((rs.getD j zeroR).lsn == (j + 1 : Int)) && okR (rs.getD j zeroR).v) = true) ∧ Below W.heap.size W wr) (fun i _ => rs.length - (intOf i).toNat)
    case atStart => exact ⟨0, Nat.zero_le _, rfl, fun j hj => by omega, Below.refl _ _⟩
    case round =>
      obtain ⟨k, hk, rfl, hall, hbl⟩ := hrel
      have hbm : Below w.heap.size w wr := hbW.trans (hbl.mono hbW.size)
      clear c0 c1
      by_cases hlt : k < rs.length
      · obtain ⟨b, off, rfl, hcell, hrd⟩ := HC.out k hlt
        have HR : Hid (wr.rangeAt b (off + k * 15) (rs.getD k zeroR).cells) := range_below hcell hbl
        have hrd' := hrd.below hbl
        have hsh := HS.out k hlt
        have HN : Hid ((((rs.getD k zeroR).lsn == (k + 1 : Int)) && okR (rs.getD k zeroR).v) = false → R = false) := HNO.out k hlt
        have HY : Hid ((((rs.getD k zeroR).lsn == (k + 1 : Int)) && okR (rs.getD k zeroR).v) = true → ∀ j, j < k + 1 → (((rs.getD j zeroR).lsn == (j + 1 : Int)) && okR (rs.getD j zeroR).v) = true) := fun h j hj => by
          by_cases e : j = k
          · rw [e]; exact h
          · exact hall.out j (by omega)
        clear hcell HC HNO hall HS hrd HRES
        generalize rs.getD k zeroR = y at *
        obtain ⟨W1, hW1, b1, hb1, hs1⟩ := boxes1 wr [.int .i64 0, .int .i64 0, .int .i64 0, .int .i64 0, .int .i64 0, .bool false, .int .i64 0, .slice none 0 0, .slice none 0 0, .bool false, .int .i64 0, .slice none 0 0, .slice none 0 0, .int .i64 0, .slice none 0 0] 59
        obtain ⟨W2, hW2, hw2, hs2, HT2, _, b2⟩ := rec_out y _ rfl b1
        have B2 : Below wr.heap.size wr W2 := hb1.trans (hw2.below (Nat.le_refl _) (by omega))
        have HRG : Hid (∀ u, Below W2.heap.size W2 u → u.rangeAt wr.heap.size 0 y.cells) := fun u hu => Box.range [] y.cells [] (by simpa using b2.below hu b2.lt)
        have C2 : Below W.heap.size W W2 := hbl.trans (B2.mono hbl.size)
        have hrd2 := hrd'.below B2
        have hO := rec_one y
        have D2 : Below w.heap.size w W2 := hbm.trans (B2.mono hbm.size)
        clear b1 b2 hw2 hs2 hs1 hb1 B2 hrd' hbl hbm
        go_wp2_with (first | (guard_target = wpList _ _ _ (Oper.mk (some 29) _ _ _ _ _ :: _) _ _; refine wpList_load_mid rfl 59 (.tmp 28) rfl b (off + k * 15) rfl y.cells _ HR.out Tryz.underlying59 rfl HI.out ?_) | (guard_target = wpList _ _ _ (Oper.mk none (Op.store _ (Operand.tmp 4) _) _ _ _ _ :: _) _ _; refine wpList_store_mid rfl 59 (.tmp 4) (.tmp 29) rfl wr.heap.size 0 y.cells.toArray rfl rfl (by rw [hW1.out]; exact HT2.out) HI.out hO ?_) | fail)
        rw [hW1.out, hW2.out]
        clear hW1 hW2 HT2 HR
        refine wp_region_held_drew (S := fun w' => w'.rangeAt wr.heap.size 0 y.cells) (by kernel_rfl) ?_ (fun hHeld => ?_)
        · exact HRG.out _ (Below.refl _ _).drew
        refine wpAnyH_take (i := 0) (v := .pointer (some ⟨wr.heap.size, 0, none⟩)) rfl (by kernel_rfl) (by kernel_rfl) (by kernel_rfl) (fun _ _ _ h => h) (Or.inl ⟨by rfl, ?_⟩) hHeld ?_
        · intro w' hSw
          go_simp <;> rfl
        try simp only [Act.put, List.getElem_toArray, List.getElem_cons_zero, List.setIfInBounds_toArray, List.set_cons_zero, List.set_cons_succ]
        refine wpAnyH_take (i := 1) (v := .int .i64 y.lsn) rfl (by kernel_rfl) (by kernel_rfl) (by kernel_rfl) (fun _ _ _ h => h) (Or.inl ⟨by rfl, ?_⟩) hHeld ?_
        · intro w' hSw
          have hx : w'.cell? ⟨wr.heap.size, 0, none⟩ = some (.int .i64 y.lsn) := hSw 0 _ rfl
          go_simp <;> rfl
        try simp only [Act.put, List.getElem_toArray, List.getElem_cons_zero, List.getElem_cons_succ, List.setIfInBounds_toArray, List.set_cons_zero, List.set_cons_succ]
        refine wpAnyH_take (i := 2) (v := .int .i64 k) rfl (by kernel_rfl) (by kernel_rfl) (by kernel_rfl) (fun _ _ _ h => h) (Or.inl ⟨by rfl, ?_⟩) hHeld ?_
        · intro w' hSw
          go_simp <;> rfl
        try simp only [Act.put, List.getElem_toArray, List.getElem_cons_zero, List.getElem_cons_succ, List.setIfInBounds_toArray, List.set_cons_zero, List.set_cons_succ]
        refine wpAnyH_ready (rs := [3]) (by kernel_rfl) (by simp) ?_
        refine AllReadyH.cons rfl (fun K hK => ?_) AllReadyH.nil
        go_simp
        refine (lsnAt_any k _ (by omega)).mono ?_
        rintro e w3 ⟨rfl, rfl⟩
        refine hK.out _ _ (HRG.out _ (Below.refl _ _).drew) (fun hHeld => ?_)
        clear hK K
        try simp only [Act.put, List.getElem_toArray, List.getElem_cons_zero, List.getElem_cons_succ, List.setIfInBounds_toArray, List.set_cons_zero, List.set_cons_succ]
        refine wpAnyH_take (i := 4) (v := .bool (y.lsn != (k : Int) + 1)) rfl (by kernel_rfl) (by kernel_rfl) (by kernel_rfl) (fun _ _ _ h => h) (Or.inl ⟨by rfl, ?_⟩) hHeld ?_
        · intro w' hSw
          go_simp <;> rfl
        try simp only [Act.put, List.getElem_toArray, List.getElem_cons_zero, List.getElem_cons_succ, List.setIfInBounds_toArray, List.set_cons_zero, List.set_cons_succ]
        cases h6 : (y.lsn == (k + 1 : Int)) with
        | false =>
          have HR2 : Hid (R = false) := HN.out (by rw [h6]; rfl)
          have h6b : (y.lsn != (k : Int) + 1) = true := by simp only [bne, h6, Bool.not_false]
          rw [h6b]
          clear h6 HN HY h6b
          refine wpAnyH_take (i := 5) (v := .bool true) rfl (by kernel_rfl) (by kernel_rfl) (by kernel_rfl) (fun _ _ _ h => h) (Or.inl ⟨by rfl, ?_⟩) hHeld ?_
          · intro w' hSw
            go_simp <;> rfl
          try simp only [Act.put, List.getElem_toArray, List.getElem_cons_zero, List.getElem_cons_succ, List.setIfInBounds_toArray, List.set_cons_zero, List.set_cons_succ]
          refine wpAnyH_take (i := 6) (v := undef) rfl (by kernel_rfl) (by kernel_rfl) (by kernel_rfl) (fun _ _ _ h => h) (Or.inr ⟨by rfl, rfl⟩) hHeld ?_
          try simp only [Act.put, List.getElem_toArray, List.getElem_cons_zero, List.getElem_cons_succ, List.setIfInBounds_toArray, List.set_cons_zero, List.set_cons_succ]
          refine wpAnyH_take (i := 7) (v := undef) rfl (by kernel_rfl) (by kernel_rfl) (by kernel_rfl) (fun _ _ _ h => h) (Or.inr ⟨by rfl, rfl⟩) hHeld ?_
          try simp only [Act.put, List.getElem_toArray, List.getElem_cons_zero, List.getElem_cons_succ, List.setIfInBounds_toArray, List.set_cons_zero, List.set_cons_succ]
          refine wpAnyH_take (i := 8) (v := undef) rfl (by kernel_rfl) (by kernel_rfl) (by kernel_rfl) (fun _ _ _ h => h) (Or.inr ⟨by rfl, rfl⟩) hHeld ?_
          try simp only [Act.put, List.getElem_toArray, List.getElem_cons_zero, List.getElem_cons_succ, List.setIfInBounds_toArray, List.set_cons_zero, List.set_cons_succ]
          refine wpAnyH_take (i := 9) (v := .bool true) rfl (by kernel_rfl) (by kernel_rfl) (by kernel_rfl) (fun _ _ _ h => h) (Or.inl ⟨by rfl, ?_⟩) hHeld ?_
          · intro w' hSw
            go_simp <;> rfl
          try simp only [Act.put, List.getElem_toArray, List.getElem_cons_zero, List.getElem_cons_succ, List.setIfInBounds_toArray, List.set_cons_zero, List.set_cons_succ]
          refine wpAnyH_done (by kernel_rfl) ?_ _
          go_wp2_with fail
          go_ret
          exact ⟨ret_bool HR2.out.symm, D2.drew⟩
        | true =>
          rw [h6, Bool.true_and] at HN HY
          have h6b : (y.lsn != (k : Int) + 1) = false := by simp only [bne, h6, Bool.not_true]
          rw [h6b]
          clear h6 h6b
          refine wpAnyH_take (i := 5) (v := .bool false) rfl (by kernel_rfl) (by kernel_rfl) (by kernel_rfl) (fun _ _ _ h => h) (Or.inl ⟨by rfl, ?_⟩) hHeld ?_
          · intro w' hSw
            go_simp <;> rfl
          try simp only [Act.put, List.getElem_toArray, List.getElem_cons_zero, List.getElem_cons_succ, List.setIfInBounds_toArray, List.set_cons_zero, List.set_cons_succ]
          refine wpAnyH_take (i := 6) rfl (by kernel_rfl) (by kernel_rfl) (by kernel_rfl) (fun _ _ _ h => h) (yieldsIf_load_mid (by rfl) _ _ rfl _ _ rfl y.cells _ (fun _ h => h) Tryz.underlying59 rfl HI.out) hHeld ?_
          try simp only [Act.put, List.getElem_toArray, List.getElem_cons_zero, List.getElem_cons_succ, List.setIfInBounds_toArray, List.set_cons_zero, List.set_cons_succ]
          refine wpAnyH_ready (rs := [7]) (by kernel_rfl) (by simp) ?_
          refine AllReadyH.cons rfl (fun K hK => ?_) AllReadyH.nil
          go_simp
          refine (implRecOk_any y _ (HG.out _ C2.drew) (hrd2.below (Below.refl _ _).drew) hsh).mono ?_
          rintro e w4 ⟨rfl, hb4⟩
          have hb4' : Below W2.heap.size W2 w4 := (Below.refl _ _).drew.trans hb4
          have D4 : Below w.heap.size w w4 := D2.trans (hb4'.mono D2.size)
          have C4 : Below W.heap.size W w4 := C2.trans (hb4'.mono C2.size)
          refine hK.out _ _ (HRG.out _ hb4') (fun hHeld => ?_)
          clear hK K
          try simp only [Act.put, List.getElem_toArray, List.getElem_cons_zero, List.getElem_cons_succ, List.setIfInBounds_toArray, List.set_cons_zero, List.set_cons_succ]
          cases h7 : okR y.v with
          | false =>
            have HR2 : Hid (R = false) := HN.out h7
            clear HN HY
            refine wpAnyH_take (i := 8) (v := .bool true) rfl (by kernel_rfl) (by kernel_rfl) (by kernel_rfl) (fun _ _ _ h => h) (Or.inl ⟨by rfl, ?_⟩) hHeld ?_
            · intro w' hSw
              go_simp <;> rfl
            try simp only [Act.put, List.getElem_toArray, List.getElem_cons_zero, List.getElem_cons_succ, List.setIfInBounds_toArray, List.set_cons_zero, List.set_cons_succ]
            refine wpAnyH_take (i := 9) (v := .bool true) rfl (by kernel_rfl) (by kernel_rfl) (by kernel_rfl) (fun _ _ _ h => h) (Or.inl ⟨by rfl, ?_⟩) hHeld ?_
            · intro w' hSw
              go_simp <;> rfl
            try simp only [Act.put, List.getElem_toArray, List.getElem_cons_zero, List.getElem_cons_succ, List.setIfInBounds_toArray, List.set_cons_zero, List.set_cons_succ]
            refine wpAnyH_done (by kernel_rfl) ?_ _
            go_wp2_with fail
            go_ret
            exact ⟨ret_bool HR2.out.symm, D4⟩
          | true =>
            have HY2 := HY.out h7
            clear HN HY
            refine wpAnyH_take (i := 8) (v := .bool false) rfl (by kernel_rfl) (by kernel_rfl) (by kernel_rfl) (fun _ _ _ h => h) (Or.inl ⟨by rfl, ?_⟩) hHeld ?_
            · intro w' hSw
              go_simp <;> rfl
            try simp only [Act.put, List.getElem_toArray, List.getElem_cons_zero, List.getElem_cons_succ, List.setIfInBounds_toArray, List.set_cons_zero, List.set_cons_succ]
            refine wpAnyH_take (i := 9) (v := .bool false) rfl (by kernel_rfl) (by kernel_rfl) (by kernel_rfl) (fun _ _ _ h => h) (Or.inl ⟨by rfl, ?_⟩) hHeld ?_
            · intro w' hSw
              go_simp <;> rfl
            try simp only [Act.put, List.getElem_toArray, List.getElem_cons_zero, List.getElem_cons_succ, List.setIfInBounds_toArray, List.set_cons_zero, List.set_cons_succ]
            refine wpAnyH_done (by kernel_rfl) ?_ _
            go_wp2_with fail
            go_roundw
            case rel => exact ⟨k + 1, by omega, by go_num, HY2, C4⟩
            case measure => simp [intOf]; omega
      · have HR : Hid (R = true) := HRES.out (fun j hj => hall.out j (by omega))
        clear HNO HRES
        go_wp2
        go_ret
        exact ⟨ret_bool HR.out.symm, hbm⟩
end Go.Proofs.YtbpdocjkhmiimabGreatDoor

/- The walk of spec.LogOk. -/
namespace Go.Proofs.YtbpdocjkhmiimabGreatDoor
open Go.RowKit

/-- A whole value loaded where a guard stands ahead of it that lets it by. -/
theorem load_if {ops : Array Oper} {rest : List Oper} {op : Oper} {a : Act} {w : World} {Q : Exit → Act → World → Prop} {P : Program} (hw : Region.wanted op (yielded ops a.tmps) = true) (ty : TypeId) (x : Operand) (ho : op.op = .load ty x)
    (b o : Nat) (hx : a.eval x = .pointer (some ⟨b, o, none⟩)) (cs : List Value) (d : TypeDesc) (hc : w.rangeAt b o cs)
    (hu : P.underlying ty = some d) (hd : d.isRow = true) (hi : (P.info? ty).map (·.size) = some cs.length)
    (h : wpList P ops Q rest (a.put op.dst (.agg cs.toArray)) w) : wpList P ops Q (op :: rest) a w :=
  wpList_step fun _ hK => by
    simp only [hw, if_true]
    exact wp_load_mid ty x ho b o hx cs d hc hu hd hi (hK _ _ h)

set_option maxHeartbeats 4000000 in
set_option maxRecDepth 100000 in
theorem specLogOk_any (l : LogA) (w : World) (hr : l.reads w) (hl : l.short 1099511627776) :
    Calls Tryz.prog 23 #[.agg l.cells.toArray] w fun e w' => e = .returned (.bool (okLog l.v)) ∧ Below w.heap.size w w' := by
  have HLEN : Hid (¬ l.recs.length ≤ 4000 → okLog l.v = false) := fun h => okLog_len (by rw [l.v_len]; exact h)
  have HSURE : Hid (inB l.sure 0 l.recs.length = false → okLog l.v = false) := fun h => okLog_sure (by rw [l.v_len]; exact h)
  have HNO : Hid (∀ k, k < l.recs.length → (((l.recs.getD k zeroR).lsn == (k + 1 : Int)) && okR (l.recs.getD k zeroR).v) = false → okLog l.v = false) := fun k hk h => okLog_no k (by rw [l.v_len]; exact hk) (by rw [okAt_v]; exact h)
  have HALL : Hid (l.recs.length ≤ 4000 → inB l.sure 0 l.recs.length = true → (∀ k, k < l.recs.length → (((l.recs.getD k zeroR).lsn == (k + 1 : Int)) && okR (l.recs.getD k zeroR).v) = true) → okLog l.v = true) := fun h0 h1 h => okLog_all (by rw [l.v_len]; exact h0) (by rw [l.v_len]; exact h1) (fun k hk => by rw [okAt_v]; exact h k (by rw [l.v_len] at hk; exact hk))
  generalize okLog l.v = R at *
  have HS : Hid (∀ k, k < l.recs.length → (l.recs.getD k zeroR).short 1099511627776) := fun k hk => hl.at k hk
  have hlen := hl.len
  obtain ⟨rs, s, a, c⟩ := l
  simp only [LogA.reads, LogA.cells] at *
  obtain ⟨W, hW, b0, hbW, hsW⟩ := boxes1 w [.slice a rs.length c, .int .i64 s] 28
  have c0 := b0.cell 0 _ rfl
  have c1 := b0.cell 1 _ rfl
  clear hl hsW
  have HC : Hid (∀ k, k < rs.length → ∃ b off, a = some ⟨b, off, none⟩ ∧ W.rangeAt b (off + k * 15) (rs.getD k zeroR).cells ∧ (rs.getD k zeroR).reads W) := fun k hk => by
    obtain ⟨b, off, ha, hc⟩ := (ReadsRs.below hr hbW) (by intro e; rw [e] at hk; simp at hk)
    exact ⟨b, off, ha, hc k hk⟩
  have HI : Hid ((Tryz.prog.info? 59).map (·.size) = some 15) := by rw [Hid]; kernel_rfl
  clear hr
  by_cases h4 : rs.length ≤ 4000
  case neg =>
    have HR : Hid (R = false) := HLEN.out h4
    clear HLEN HSURE HNO HALL
    go_enter Tryz.func23, Tryz.ntmps23
    go_wp2_with fail
    rw [hW.out]
    go_ret
    exact ⟨ret_bool HR.out.symm, hbW⟩
  case pos =>
    cases h5 : inB s 0 rs.length with
    | false =>
      have HR : Hid (R = false) := HSURE.out h5
      clear HLEN HSURE HNO HALL
      go_enter Tryz.func23, Tryz.ntmps23
      go_wp2_with fail
      rw [hW.out]
      refine (l1In_any _ _ _ W).mono ?_
      rintro e u ⟨rfl, hu⟩
      rw [hu]
      clear hu u
      go_wp2
      go_ret
      exact ⟨ret_bool HR.out.symm, hbW⟩
    | true =>
      go_enter Tryz.func23, Tryz.ntmps23
      go_wp2_with fail
      rw [hW.out]
      refine (l1In_any _ _ _ W).mono ?_
      rintro e u ⟨rfl, hu⟩
      rw [hu]
      clear hu u hW
      go_wp2_with fail
      go_loopw [3] (fun i wr => ∃ k : Nat, k ≤ rs.length ∧ i = .int .i64 k ∧ Hid (∀ j, j < k → (((rs.getD j zeroR).lsn == (j + 1 : Int)) && okR (rs.getD j zeroR).v) = true) ∧ Below W.heap.size W wr) (fun i _ => rs.length - (intOf i).toNat)
      case atStart => exact ⟨0, Nat.zero_le _, rfl, fun j hj => by omega, Below.refl _ _⟩
      case round =>
        obtain ⟨k, hk, rfl, hall, hbl⟩ := hrel
        have hbm : Below w.heap.size w wr := hbW.trans (hbl.mono hbW.size)
        have r0 := (hbl.cell (block_lt c0)).trans c0
        clear c0 c1
        by_cases hlt : k < rs.length
        · obtain ⟨b, off, rfl, hcell, hrd⟩ := HC.out k hlt
          have HR : Hid (wr.rangeAt b (off + k * 15) (rs.getD k zeroR).cells) := range_below hcell hbl
          have x0 : wr.cell? ⟨b, off + k * 15, none⟩ = some (.int .i64 (rs.getD k zeroR).lsn) := HR.out 0 _ rfl
          have C := specRecOk_any (rs.getD k zeroR) wr (hrd.below hbl) (HS.out k hlt)
          have HN : Hid ((((rs.getD k zeroR).lsn == (k + 1 : Int)) && okR (rs.getD k zeroR).v) = false → R = false) := HNO.out k hlt
          have HY : Hid ((((rs.getD k zeroR).lsn == (k + 1 : Int)) && okR (rs.getD k zeroR).v) = true → ∀ j, j < k + 1 → (((rs.getD j zeroR).lsn == (j + 1 : Int)) && okR (rs.getD j zeroR).v) = true) := fun h j hj => by
            by_cases e : j = k
            · rw [e]; exact h
            · exact hall.out j (by omega)
          clear hcell HC HLEN HSURE HNO HALL hall HS hrd
          generalize rs.getD k zeroR = y at *
          cases h6 : (y.lsn == (k + 1 : Int)) with
          | false =>
            have HR2 : Hid (R = false) := HN.out (by rw [h6]; rfl)
            have h6b : (y.lsn != (k : Int) + 1) = true := by simp only [bne, h6, Bool.not_false]
            clear h6
            clear HN HY C
            go_wp2_with fail
            go_ret
            exact ⟨ret_bool HR2.out.symm, hbm⟩
          | true =>
            rw [h6, Bool.true_and] at HN HY
            have h6b : (y.lsn != (k : Int) + 1) = false := by simp only [bne, h6, Bool.not_true]
            clear h6
            cases h7 : okR y.v with
            | false =>
              have HR2 : Hid (R = false) := HN.out h7
              clear HN HY
              rw [h7] at C
              go_wp2_with (first | (guard_target = wpList _ _ _ (Oper.mk (some 38) _ _ _ _ _ :: _) _ _; refine load_if (by rfl) 59 (.tmp 37) rfl b (off + k * 15) rfl y.cells _ HR.out Tryz.underlying59 rfl HI.out ?_) | fail)
              refine C.mono ?_
              rintro e w1 ⟨rfl, hb1⟩
              go_wp2_with fail
              go_ret
              exact ⟨ret_bool HR2.out.symm, hbm.trans (hb1.mono hbm.size)⟩
            | true =>
              have HY2 := HY.out h7
              clear HN HY
              rw [h7] at C
              go_wp2_with (first | (guard_target = wpList _ _ _ (Oper.mk (some 38) _ _ _ _ _ :: _) _ _; refine load_if (by rfl) 59 (.tmp 37) rfl b (off + k * 15) rfl y.cells _ HR.out Tryz.underlying59 rfl HI.out ?_) | fail)
              refine C.mono ?_
              rintro e w1 ⟨rfl, hb1⟩
              clear C
              have hb2 : Below W.heap.size W w1 := hbl.trans (hb1.mono hbl.size)
              go_wp2_with fail
              go_roundw
              case rel => exact ⟨k + 1, by omega, by go_num, HY2, hb2⟩
              case measure => simp [intOf]; omega
        · have HR : Hid (R = true) := HALL.out h4 h5 (fun j hj => hall.out j (by omega))
          clear HLEN HSURE HNO HALL
          go_wp2
          go_ret
          exact ⟨ret_bool HR.out.symm, hbm⟩
end Go.Proofs.YtbpdocjkhmiimabGreatDoor

/- The walks of spec.Tear and impl.Tear. -/
namespace Go.Proofs.YtbpdocjkhmiimabGreatDoor
open Go.RowKit

theorem tearOf_no {l : LogV} (n : Int) (h : okLog l = false) : tearOf l n = l := by unfold tearOf; rw [if_neg]; rintro ⟨h1, _⟩; rw [h] at h1; cases h1
theorem tearOf_neg {l : LogV} {n : Int} (h : ¬ 0 ≤ n) : tearOf l n = l := by unfold tearOf; rw [if_neg]; rintro ⟨_, h1⟩; exact h h1
theorem tearOf_yes {l : LogV} {n : Int} (h : okLog l = true) (hn : 0 ≤ n) : tearOf l n = ⟨l.recs.take (leftOf l n), leftOf l n⟩ := by unfold tearOf; rw [if_pos ⟨h, hn⟩]
theorem tear_short {t p : LogA} {n : Int} (h : t.v = tearOf p.v n) {m : Nat} (hs : p.short m) : t.short m := by
  have e : ∃ j, t.recs.map RecA.v = (p.recs.take j).map RecA.v := by
    have := congrArg LogV.recs h
    unfold tearOf at this
    split at this
    · exact ⟨_, by simp only [LogA.v] at this; rw [this, List.map_take]⟩
    · exact ⟨p.recs.length, by rw [List.take_length]; exact this⟩
  obtain ⟨j, e⟩ := e
  exact ⟨by rw [mapV_len e, List.length_take]; have := hs.len; omega, mapV_all e (fun r => r.short m) (fun a b e hb => short_of e hb) (fun r hr => hs.each r (List.mem_of_mem_take hr))⟩
/-- The first of a row. -/
theorem ReadsRs.take {w : World} {a : Option Addr} {rs : List RecA} (h : ReadsRs w a rs) (j : Nat) : ReadsRs w a (rs.take j) := by
  intro hne
  have hne' : rs ≠ [] := by rintro rfl; simp at hne
  obtain ⟨b, off, ha, hc⟩ := h hne'
  refine ⟨b, off, ha, fun k hk => ?_⟩
  rw [List.length_take] at hk
  have e : (rs.take j).getD k zeroR = rs.getD k zeroR := by simp [List.getD, show k < j by omega]
  rw [e]
  exact hc k (by omega)
theorem OwnRs.take {w : World} {lo hi : Nat} {a : Option Addr} {c : Nat} {rs : List RecA} (h : OwnRs w lo hi a c rs) (j : Nat) (hj : j ≤ rs.length) : OwnRs w lo hi a c (rs.take j) := by
  have hl : (rs.take j).length = j := by rw [List.length_take]; omega
  have hob : (Value.slice a (rs.take j).length c).ownBlock = (Value.slice a rs.length c).ownBlock := by cases a <;> rfl
  refine ⟨?_, h.top, fun k hk => h.blk k (by rw [← hob]; exact hk), fun r hr => h.each r (List.mem_of_mem_take hr), ?_⟩
  · have hcl : cellsRs (rs.take j) = (cellsRs rs).take (j * 15) := by
      have e2 : cellsRs rs = cellsRs (rs.take j) ++ cellsRs (rs.drop j) := by rw [← cellsRs_app, List.take_append_drop]
      rw [e2]
      exact (List.take_left' (by rw [cellsRs_len, hl])).symm
    refine ⟨by rw [cellsRs_len], ?_⟩
    rcases h.row.2 with ⟨hv, h0⟩ | ⟨g, cap, cur, hv, hg, hgg, h1, h2, h3, h4⟩
    · simp only [Value.slice.injEq] at hv
      refine .inl ⟨?_, by omega⟩
      rw [hv.1, hv.2.2, show (rs.take j).length = 0 by omega]
    · simp only [Value.slice.injEq] at hv
      refine .inr ⟨g, cap, cur, ?_, hg, hgg, by omega, h2, h3, ?_⟩
      · rw [hv.1, hv.2.2]
      · rw [hcl, ← h4, List.take_take, hl]
        congr 1
        have := Nat.mul_le_mul_right 15 hj
        omega
  · rw [hob]
    have hap := h.apart
    have e : rs.flatMap RecA.blocks = (rs.take j).flatMap RecA.blocks ++ (rs.drop j).flatMap RecA.blocks := by rw [← List.flatMap_append, List.take_append_drop]
    rw [e, ← List.append_assoc] at hap
    exact (List.nodup_append.1 hap).1
set_option maxHeartbeats 4000000 in
set_option maxRecDepth 100000 in
theorem specTear_any (l : LogA) (n : Int) (w : World) (hr : l.reads w) (hl : l.short 1048576) (hcp : ∀ r ∈ l.recs, r.aL = none → r.cL = 0) :
    Calls Tryz.prog 7 #[.agg l.cells.toArray, .int .i64 n] w fun e w' => ∃ t : LogA, e = .returned (.agg t.cells.toArray) ∧ Hid (t.v = tearOf l.v n) ∧ t.own w' w.heap.size w'.heap.size ∧ Below w.heap.size w w' := by
  have HNO : Hid (okLog l.v = false → tearOf l.v n = l.v) := fun h => tearOf_no n h
  have HNEG : Hid (¬ 0 ≤ n → tearOf l.v n = l.v) := fun h => tearOf_neg h
  have HYES : Hid (okLog l.v = true → 0 ≤ n → tearOf l.v n = ⟨l.v.recs.take (if n < l.recs.length - l.sure then (l.sure + n).toNat else l.recs.length), ((if n < l.recs.length - l.sure then (l.sure + n).toNat else l.recs.length) : Nat)⟩) := fun h hn => by rw [tearOf_yes h hn]; unfold leftOf; rw [l.v_len]; rfl
  have HSR : Hid (okLog l.v = true → 0 ≤ l.sure ∧ l.sure ≤ l.recs.length) := fun h => by have h1 := (okLog_yes h).2.1; have := (okLog_yes h).2.2.1; rw [l.v_len] at this; exact ⟨h1, this⟩
  obtain ⟨W, hW, b0, b1, hbW, hsW⟩ := boxes2 w l.cells [.slice none 0 0, .int .i64 0] 28 28
  have hs0 : w.heap.size + 1 < W.heap.size := by omega
  clear hsW
  have C1 := l5Copy_any l W (hr.below hbW) hl hcp
  have HLV : Hid (∀ t : LogA, t.v = l.v → t.recs.length = l.recs.length ∧ t.sure = l.sure ∧ t.recs.map RecA.v = l.v.recs) := fun t h => by
    simp only [LogA.v, LogV.mk.injEq] at h
    exact ⟨mapV_len h.1, h.2, h.1⟩
  have HX : Hid (∀ u, Below W.heap.size W u → Box u w.heap.size l.cells 28) := fun u hu => b0.below hu b0.lt
  have hll := hl.len
  simp only [LogA.cells] at *
  have x0 := b0.cell 0 _ rfl
  have x1 := b0.cell 1 _ rfl
  clear b0
  go_enter Tryz.func7, Tryz.ntmps7
  go_wp2_with fail
  rw [hW.out]
  clear hW
  refine C1.mono ?_
  clear C1 x0 x1
  rintro e w1 ⟨t, rfl, hv, ho, hb1⟩
  have HE : Hid (_ ∧ _ ∧ _) := HLV.out t hv.out
  obtain ⟨rt, st, at', ct⟩ := t
  have hrt : rt.length ≤ 1048576 := by have := HE.out.1; simp only at this; omega
  simp only
  obtain ⟨W2, hW2, b2, hb2, hs2⟩ := boxes1 w1 [.slice at' rt.length ct, .int .i64 st] 28
  have k12 : Below W.heap.size W W2 := hb1.trans (hb2.mono hb1.size)
  have hs1 := hb1.size
  have hs2' := hb2.size
  have hlt2 := b2.lt
  have D2 : Below w.heap.size w W2 := hbW.trans (k12.mono hbW.size)
  have o2 : OwnRs W2 W.heap.size w1.heap.size at' ct rt := OwnRs.below ho hb2
  have b12 := b1.below k12 b1.lt
  have C2 := specLogOk_any l W2 (hr.below D2) (LogA.short_wide hl)
  simp only [LogA.cells] at C2
  have y0 := (HX.out W2 k12).cell 0 _ rfl
  have y1 := (HX.out W2 k12).cell 1 _ rfl
  clear hs2 ho hb1 hb2 b1
  go_upto_region 2 with fail
  rw [hW2.out]
  clear hW2
  go_wp2_with fail
  refine C2.mono ?_
  clear C2 y0 y1
  generalize okLog l.v = R at *
  rintro e w3 ⟨rfl, hb3⟩
  have hs3 := hb3.size
  have b23 := b2.below hb3 b2.lt
  have b13 := b12.below hb3 b12.lt
  have o3 := OwnRs.below o2 hb3
  have D3 : Below w.heap.size w w3 := D2.trans (hb3.mono D2.size)
  have K13 : Hid (Below W.heap.size W w3) := k12.trans (hb3.mono k12.size)
  clear b2 b12 o2 hb3 D2 k12
  have k13 : Below W.heap.size W w3 := K13.out
  cases R with
  | false =>
    have HV := HNO.out rfl
    have e0 := b23.cell 0 _ rfl
    have e1' := b23.cell 1 _ rfl
    have m0 := b13.cell 0 _ rfl
    have m1 := b13.cell 1 _ rfl
    have mf0 := b13.frozen 0
    have mf1 := b13.frozen 1
    obtain ⟨WF, hWF, bF, hwF, hsF⟩ := box2_fill b13 (.slice at' rt.length ct) (.int .i64 st)
    have q0 := bF.cell 0 _ rfl
    have q1 := bF.cell 1 _ rfl
    have hoF := (o3.within hwF (.inr (by omega))).widen (show w.heap.size ≤ W.heap.size by omega) (show w1.heap.size ≤ WF.heap.size by omega) (Nat.le_refl _)
    have hbF : Below w.heap.size w WF := D3.trans (hwF.below (by omega) (by omega))
    have HF : Hid (_ ∧ _ ∧ _) := ⟨hv.out.trans HV.symm, hoF, hbF⟩
    clear hwF hsF bF hv HV hoF hbF HNO HYES HLV HE hs1 hs2' hs3 hlt2
    go_wp2
    rw [hWF.out]
    exact bodyPost_ret (v := .agg #[.slice at' rt.length ct, .int .i64 st]) (by simp [results, Tryz.results7, go_sem, q0, q1]) rfl ⟨⟨rt, st, at', ct⟩, rfl, HF.out.1, HF.out.2.1, HF.out.2.2⟩
  | true =>
    by_cases h0 : 0 ≤ n
    case neg =>
      have HV := HNEG.out (by omega)
      have e0 := b23.cell 0 _ rfl
      have e1' := b23.cell 1 _ rfl
      have m0 := b13.cell 0 _ rfl
      have m1 := b13.cell 1 _ rfl
      have mf0 := b13.frozen 0
      have mf1 := b13.frozen 1
      obtain ⟨WF, hWF, bF, hwF, hsF⟩ := box2_fill b13 (.slice at' rt.length ct) (.int .i64 st)
      have q0 := bF.cell 0 _ rfl
      have q1 := bF.cell 1 _ rfl
      have hoF := (o3.within hwF (.inr (by omega))).widen (show w.heap.size ≤ W.heap.size by omega) (show w1.heap.size ≤ WF.heap.size by omega) (Nat.le_refl _)
      have hbF : Below w.heap.size w WF := D3.trans (hwF.below (by omega) (by omega))
      have HF : Hid (_ ∧ _ ∧ _) := ⟨hv.out.trans HV.symm, hoF, hbF⟩
      clear hwF hsF bF hv HV hoF hbF HNO HYES HLV HE hs1 hs2' hs3 hlt2
      go_wp2
      rw [hWF.out]
      exact bodyPost_ret (v := .agg #[.slice at' rt.length ct, .int .i64 st]) (by simp [results, Tryz.results7, go_sem, q0, q1]) rfl ⟨⟨rt, st, at', ct⟩, rfl, HF.out.1, HF.out.2.1, HF.out.2.2⟩

    case pos =>
    have HV := HYES.out rfl h0
    obtain ⟨hsr0, hsr1⟩ := HSR.out rfl
    have p0 := (HX.out w3 k13).cell 0 _ rfl
    have p1 := (HX.out w3 k13).cell 1 _ rfl
    obtain ⟨j, hj, HJ1, HJ2⟩ : ∃ j : Nat, j ≤ rt.length ∧ Hid ((if n < l.recs.length - l.sure then (l.sure + n).toNat else l.recs.length) = j) ∧ Hid ((if n < (l.recs.length : Int) - l.sure then l.sure + n else (l.recs.length : Int)) = (j : Int)) := by
      have e1 : rt.length = l.recs.length := HE.out.1
      refine ⟨_, ?_, rfl, ?_⟩
      · split <;> omega
      · rw [Hid]; split <;> omega
    have oj := OwnRs.take o3 j hj
    have hcap : rt.length ≤ ct := by
      rcases o3.row.2 with ⟨hv', h00⟩ | ⟨g, cap, cur, hv', _, _, h1, _⟩
      · omega
      · simp only [Value.slice.injEq] at hv'; omega
    have hjl : (rt.take j).length = j := by rw [List.length_take]; omega
    rw [HJ1.out] at HV
    have e0 := b23.cell 0 _ rfl
    have e1' := b23.cell 1 _ rfl
    have ef0 := b23.frozen 0
    have ef1 := b23.frozen 1
    have hnil : at' = none → ct = 0 ∧ j = 0 := by
      intro ha
      have h1 := OwnRs.nocap o3 ha
      exact ⟨h1, by omega⟩
    obtain ⟨W4, hW4, b24, hw4, hs4⟩ := box2_fill b23 (.slice at' j ct) (.int .i64 j)
    have hs4a := Nat.le_of_eq hs4
    have hs4b := Nat.le_of_eq hs4.symm
    clear hs4
    have b14 := b13.within hw4 (by omega)
    have o4 := oj.within hw4 (.inl (Nat.le_refl _))
    have D4 : Below w.heap.size w W4 := D3.trans (hw4.below (by omega) (by omega))
    have y0 := b24.cell 0 _ rfl
    have y1 := b24.cell 1 _ rfl
    have m0 := b14.cell 0 _ rfl
    have m1 := b14.cell 1 _ rfl
    have mf0 := b14.frozen 0
    have mf1 := b14.frozen 1
    obtain ⟨WF, hWF, bF, hwF, hsF⟩ := box2_fill b14 (.slice at' j ct) (.int .i64 j)
    have q0 := bF.cell 0 _ rfl
    have q1 := bF.cell 1 _ rfl
    have hoF := (o4.within hwF (.inr (by omega))).widen (show w.heap.size ≤ W.heap.size by omega) (show w1.heap.size ≤ WF.heap.size by omega) (Nat.le_refl _)
    have hbF : Below w.heap.size w WF := D4.trans (hwF.below (by omega) (by omega))
    have HVV : Hid ((⟨rt.take j, (j : Int), at', ct⟩ : LogA).v = tearOf l.v n) := by
      rw [Hid, HV]
      have e3 : rt.map RecA.v = l.v.recs := HE.out.2.2
      simp only [LogA.v, List.map_take] at e3 ⊢
      rw [e3]
    have HF : Hid (_ ∧ _ ∧ _) := ⟨HVV.out, hoF, hbF⟩
    have HL : Hid ((rt.take j).length = j) := hjl
    clear hwF hsF bF hv HV hoF hbF HNO HNEG HYES HLV HE hs1 hs2' hs3 hlt2 HVV hs4a hs4b hw4 hjl HSR oj o4 b24 b14
    by_cases hk : n < (l.recs.length : Int) - l.sure
    · rw [if_pos hk] at HJ2
      have hJ := HJ2.out
      clear HJ1 HJ2
      cases at' with
      | none =>
        obtain ⟨rfl, rfl⟩ := hnil rfl
        have z0 : ((0 : Nat) : Int) = 0 := rfl
        rw [z0] at hW4 hWF q1 y1
        clear z0
        go_upto_region 9 with fail
        rw [hW4.out]
        clear hW4 e0 e1' ef0 ef1
        go_wp2
        rw [hWF.out]
        exact bodyPost_ret (v := .agg #[.slice none 0 0, .int .i64 0]) (by simp [results, Tryz.results7, go_sem, q0, q1]) rfl ⟨⟨rt.take 0, ((0 : Nat) : Int), none, 0⟩, by simp, HF.out.1, HF.out.2.1, HF.out.2.2⟩
      | some ad =>
        go_upto_region 9 with fail
        rw [hW4.out]
        clear hW4 e0 e1' ef0 ef1
        go_wp2
        rw [hWF.out]
        exact bodyPost_ret (v := .agg #[.slice (some ad) j ct, .int .i64 j]) (by simp [results, Tryz.results7, go_sem, q0, q1]) rfl ⟨⟨rt.take j, (j : Int), some ad, ct⟩, by simp only; rw [HL.out], HF.out.1, HF.out.2.1, HF.out.2.2⟩
    · rw [if_neg hk] at HJ2
      have hJ := HJ2.out
      have hJn : l.recs.length = j := by omega
      clear HJ1 HJ2
      cases at' with
      | none =>
        obtain ⟨rfl, rfl⟩ := hnil rfl
        have z0 : ((0 : Nat) : Int) = 0 := rfl
        rw [z0] at hW4 hWF q1 y1
        clear z0
        go_upto_region 9 with fail
        rw [hW4.out]
        clear hW4 e0 e1' ef0 ef1
        go_wp2
        rw [hWF.out]
        exact bodyPost_ret (v := .agg #[.slice none 0 0, .int .i64 0]) (by simp [results, Tryz.results7, go_sem, q0, q1]) rfl ⟨⟨rt.take 0, ((0 : Nat) : Int), none, 0⟩, by simp, HF.out.1, HF.out.2.1, HF.out.2.2⟩
      | some ad =>
        go_upto_region 9 with fail
        rw [hW4.out]
        clear hW4 e0 e1' ef0 ef1
        go_wp2
        rw [hWF.out]
        exact bodyPost_ret (v := .agg #[.slice (some ad) j ct, .int .i64 j]) (by simp [results, Tryz.results7, go_sem, q0, q1]) rfl ⟨⟨rt.take j, (j : Int), some ad, ct⟩, by simp only; rw [HL.out], HF.out.1, HF.out.2.1, HF.out.2.2⟩

theorem OwnRs.capLen {w : World} {lo hi : Nat} {a : Option Addr} {c : Nat} {rs : List RecA} (h : OwnRs w lo hi a c rs) : rs.length ≤ c := by
  rcases h.row.2 with ⟨hv', h00⟩ | ⟨g, cap, cur, hv', _, _, h1, _⟩
  · omega
  · simp only [Value.slice.injEq] at hv'; omega
theorem OwnRs.nilLen {w : World} {lo hi : Nat} {a : Option Addr} {c : Nat} {rs : List RecA} (h : OwnRs w lo hi a c rs) : a = none → rs.length = 0 ∧ c = 0 := fun ha => by
  have h1 := h.nocap ha
  have h2 := h.capLen
  exact ⟨by omega, h1⟩

set_option maxHeartbeats 1000000 in
theorem sureLog_any (a : Option Addr) (c m : Nat) (w : World) :
    Calls Tryz.prog 27 #[.slice a m c] w fun e w' => e = .returned (.agg #[.slice a m c, .int .i64 m]) ∧ Below w.heap.size w w' := by
  obtain ⟨W, hW, b0, hbW, hsW⟩ := boxes1 w [.slice a m c, .int .i64 m] 28
  have q0 := b0.cell 0 _ rfl
  have q1 := b0.cell 1 _ rfl
  clear b0 hsW
  go_enter Tryz.func27, Tryz.ntmps27
  go_wp2
  rw [hW.out]
  exact bodyPost_ret (v := .agg #[.slice a m c, .int .i64 m]) (by simp [results, Tryz.results27, go_sem, q0, q1]) rfl ⟨rfl, hbW⟩

set_option maxHeartbeats 4000000 in
set_option maxRecDepth 100000 in
theorem implTear_any (l : LogA) (n : Int) (w : World) (hg : ErrT w) (hr : l.reads w) (hl : l.short 1048576) (hcp : ∀ r ∈ l.recs, r.aL = none → r.cL = 0) (hcl : l.recs.length ≤ l.c) (hnl : l.a = none → l.recs.length = 0 ∧ l.c = 0) :
    Calls Tryz.prog 9 #[.agg l.cells.toArray, .int .i64 n] w fun e w' => ∃ t : LogA, e = .returned (.agg t.cells.toArray) ∧ Hid (t.v = tearOf l.v n) ∧ t.own w' w.heap.size w'.heap.size ∧ Below w.heap.size w w' := by
  have HNO : Hid (okLog l.v = false → tearOf l.v n = l.v) := fun h => tearOf_no n h
  have HNEG : Hid (¬ 0 ≤ n → tearOf l.v n = l.v) := fun h => tearOf_neg h
  have HYES : Hid (okLog l.v = true → 0 ≤ n → tearOf l.v n = ⟨l.v.recs.take (if n < l.recs.length - l.sure then (l.sure + n).toNat else l.recs.length), ((if n < l.recs.length - l.sure then (l.sure + n).toNat else l.recs.length) : Nat)⟩) := fun h hn => by rw [tearOf_yes h hn]; unfold leftOf; rw [l.v_len]; rfl
  have HSR : Hid (okLog l.v = true → 0 ≤ l.sure ∧ l.sure ≤ l.recs.length) := fun h => by have h1 := (okLog_yes h).2.1; have := (okLog_yes h).2.2.1; rw [l.v_len] at this; exact ⟨h1, this⟩
  obtain ⟨W, hW, b0, b1, hbW, hsW⟩ := boxes2 w l.cells [.slice none 0 0, .int .i64 0] 28 28
  have hs0 : w.heap.size + 1 < W.heap.size := by omega
  clear hsW
  have C1 := implLogOk_any l W (hg.keep hbW) (hr.below hbW) (LogA.short_wide hl)
  have HC2 : Hid (∀ u, Below W.heap.size W u → Calls _ _ _ _ _) := fun u hu => copyLog_any l u (hr.below (hbW.trans (hu.mono hbW.size))) hl hcp
  have HC3 : Hid (∀ u j, Below W.heap.size W u → Calls _ _ _ _ _) := fun u j hu => copyRecs_any l.a l.c (l.recs.take j) u (ReadsRs.take (hr.below (hbW.trans (hu.mono hbW.size))) j) (by rw [List.length_take]; have := hl.len; omega) (fun r hr' => (LogA.short_wide hl).each r (List.mem_of_mem_take hr')) (fun r hr' => hcp r (List.mem_of_mem_take hr'))
  have HX : Hid (∀ u, Below W.heap.size W u → Box u w.heap.size l.cells 28) := fun u hu => b0.below hu b0.lt
  have HY : Hid (∀ u, Below W.heap.size W u → Box u (w.heap.size + 1) [.slice none 0 0, .int .i64 0] 28) := fun u hu => b1.below hu b1.lt
  have hll := hl.len
  simp only [LogA.cells] at *
  have x0 := b0.cell 0 _ rfl
  have x1 := b0.cell 1 _ rfl
  clear b0 b1
  go_enter Tryz.func9, Tryz.ntmps9
  go_wp2_with fail
  rw [hW.out]
  clear hW
  refine C1.mono ?_
  clear C1 x0 x1
  generalize okLog l.v = R at *
  rintro e w1 ⟨rfl, hb1⟩
  have hs1 := hb1.size
  have p0 := (HX.out w1 hb1).cell 0 _ rfl
  have p1 := (HX.out w1 hb1).cell 1 _ rfl
  cases R with
  | false =>
    have HV : Hid (tearOf l.v n = l.v) := HNO.out rfl
    clear HNO HNEG HYES HSR
    have C2 := HC2.out w1 hb1
    go_wp2_with fail
    refine C2.mono ?_
    clear C2 p0 p1
    rintro e w2 ⟨t, rfl, hv, ho, hb2⟩
    have hs2 := hb2.size
    have B2 : Below W.heap.size W w2 := hb1.trans (hb2.mono hs1)
    have b12 := HY.out w2 B2
    have m0 := b12.cell 0 _ rfl
    have m1 := b12.cell 1 _ rfl
    have mf0 := b12.frozen 0
    have mf1 := b12.frozen 1
    obtain ⟨WF, hWF, bF, hwF, hsF⟩ := box2_fill b12 (.slice t.a t.recs.length t.c) (.int .i64 t.sure)
    have q0 := bF.cell 0 _ rfl
    have q1 := bF.cell 1 _ rfl
    have hoF := (LogA.own.within ho hwF (.inr (by omega))).widen (show w.heap.size ≤ w1.heap.size by omega) (show w2.heap.size ≤ WF.heap.size by omega) (Nat.le_refl _)
    have hbF : Below w.heap.size w WF := (hbW.trans (B2.mono hbW.size)).trans (hwF.below (by omega) (by omega))
    have HF : Hid (_ ∧ _ ∧ _) := ⟨hv.out.trans HV.out.symm, hoF, hbF⟩
    clear hwF hsF bF hv HV hoF hbF b12 ho hb2 B2
    go_wp2
    rw [hWF.out]
    exact bodyPost_ret (v := .agg #[.slice t.a t.recs.length t.c, .int .i64 t.sure]) (by simp [results, Tryz.results9, go_sem, q0, q1]) rfl ⟨t, rfl, HF.out.1, HF.out.2.1, HF.out.2.2⟩
  | true =>
    by_cases h0 : 0 ≤ n
    case neg =>
      have HV : Hid (tearOf l.v n = l.v) := HNEG.out (by omega)
      clear HNO HNEG HYES HSR
      have C2 := HC2.out w1 hb1
      go_wp2_with fail
      refine C2.mono ?_
      clear C2 p0 p1
      rintro e w2 ⟨t, rfl, hv, ho, hb2⟩
      have hs2 := hb2.size
      have B2 : Below W.heap.size W w2 := hb1.trans (hb2.mono hs1)
      have b12 := HY.out w2 B2
      have m0 := b12.cell 0 _ rfl
      have m1 := b12.cell 1 _ rfl
      have mf0 := b12.frozen 0
      have mf1 := b12.frozen 1
      obtain ⟨WF, hWF, bF, hwF, hsF⟩ := box2_fill b12 (.slice t.a t.recs.length t.c) (.int .i64 t.sure)
      have q0 := bF.cell 0 _ rfl
      have q1 := bF.cell 1 _ rfl
      have hoF := (LogA.own.within ho hwF (.inr (by omega))).widen (show w.heap.size ≤ w1.heap.size by omega) (show w2.heap.size ≤ WF.heap.size by omega) (Nat.le_refl _)
      have hbF : Below w.heap.size w WF := (hbW.trans (B2.mono hbW.size)).trans (hwF.below (by omega) (by omega))
      have HF : Hid (_ ∧ _ ∧ _) := ⟨hv.out.trans HV.out.symm, hoF, hbF⟩
      clear hwF hsF bF hv HV hoF hbF b12 ho hb2 B2
      go_wp2
      rw [hWF.out]
      exact bodyPost_ret (v := .agg #[.slice t.a t.recs.length t.c, .int .i64 t.sure]) (by simp [results, Tryz.results9, go_sem, q0, q1]) rfl ⟨t, rfl, HF.out.1, HF.out.2.1, HF.out.2.2⟩
    case pos =>
    have HV := HYES.out rfl h0
    obtain ⟨hsr0, hsr1⟩ := HSR.out rfl
    obtain ⟨j, hj, HJ1, HJ2⟩ : ∃ j : Nat, j ≤ l.recs.length ∧ Hid ((if n < l.recs.length - l.sure then (l.sure + n).toNat else l.recs.length) = j) ∧ Hid (l.sure + (if (l.recs.length : Int) - l.sure < n then (l.recs.length : Int) - l.sure else n) = (j : Int)) := by
      refine ⟨_, ?_, rfl, ?_⟩
      · split <;> omega
      · rw [Hid]; split <;> split <;> omega
    rw [HJ1.out] at HV
    have hJ := HJ2.out
    clear HNO HNEG HYES HSR HJ1 HJ2
    have hjl : (l.recs.take j).length = j := by rw [List.length_take]; omega
    have C3 := HC3.out w1 j hb1
    rw [hjl] at C3
    have HVT : Hid (∀ ts : List RecA, ts.map RecA.v = (l.recs.take j).map RecA.v → ∀ (a' : Option Addr) (c' : Nat), (⟨ts, (ts.length : Int), a', c'⟩ : LogA).v = tearOf l.v n) := fun ts h a' c' => by
      rw [HV]
      have hlen := mapV_len h
      rw [hjl] at hlen
      simp only [LogA.v, h, hlen, List.map_take]
    clear HV
    go_upto_region 4 with fail
    generalize (if (l.recs.length : Int) - l.sure < n then (l.recs.length : Int) - l.sure else n) = I1 at *
    clear hJ
    have hjc : j ≤ l.c := by omega
    generalize l.a = A at *
    cases A with
    | none =>
      obtain ⟨hz1, hz2⟩ := hnl rfl
      obtain rfl : j = 0 := by omega
      rw [hz2] at C3 p0 ⊢
      go_wp2_with fail
      refine C3.mono ?_
      clear C3 p0 p1
      rintro e w2 ⟨a', c', ts, rfl, hv, ho, hb2⟩
      have hs2 := hb2.size
      have B2 : Below W.heap.size W w2 := hb1.trans (hb2.mono hs1)
      have HVV : Hid _ := HVT.out ts hv.out a' c'
      have C4 := sureLog_any a' c' ts.length w2
      go_wp2_with fail
      refine C4.mono ?_
      clear C4 HVT
      rintro e w3 ⟨rfl, hb3⟩
      have hs3 := hb3.size
      have B3 : Below W.heap.size W w3 := B2.trans (hb3.mono (by omega))
      have o3 := OwnRs.below ho hb3
      have b13 := HY.out w3 B3
      have m0 := b13.cell 0 _ rfl
      have m1 := b13.cell 1 _ rfl
      have mf0 := b13.frozen 0
      have mf1 := b13.frozen 1
      obtain ⟨WF, hWF, bF, hwF, hsF⟩ := box2_fill b13 (.slice a' ts.length c') (.int .i64 ts.length)
      have q0 := bF.cell 0 _ rfl
      have q1 := bF.cell 1 _ rfl
      have hoF := (o3.within hwF (.inr (by omega))).widen (show w.heap.size ≤ w1.heap.size by omega) (show w2.heap.size ≤ WF.heap.size by omega) (Nat.le_refl _)
      have hbF : Below w.heap.size w WF := (hbW.trans (B3.mono hbW.size)).trans (hwF.below (by omega) (by omega))
      have HF : Hid (_ ∧ _ ∧ _) := ⟨HVV.out, hoF, hbF⟩
      clear hwF hsF bF hv HVV hoF hbF b13 ho o3 hb2 hb3 B2 B3
      go_wp2
      rw [hWF.out]
      exact bodyPost_ret (v := .agg #[.slice a' ts.length c', .int .i64 ts.length]) (by simp [results, Tryz.results9, go_sem, q0, q1]) rfl ⟨⟨ts, (ts.length : Int), a', c'⟩, rfl, HF.out.1, HF.out.2.1, HF.out.2.2⟩
    | some ad =>
      go_wp2_with fail
      refine C3.mono ?_
      clear C3 p0 p1
      rintro e w2 ⟨a', c', ts, rfl, hv, ho, hb2⟩
      have hs2 := hb2.size
      have B2 : Below W.heap.size W w2 := hb1.trans (hb2.mono hs1)
      have HVV : Hid _ := HVT.out ts hv.out a' c'
      have C4 := sureLog_any a' c' ts.length w2
      go_wp2_with fail
      refine C4.mono ?_
      clear C4 HVT
      rintro e w3 ⟨rfl, hb3⟩
      have hs3 := hb3.size
      have B3 : Below W.heap.size W w3 := B2.trans (hb3.mono (by omega))
      have o3 := OwnRs.below ho hb3
      have b13 := HY.out w3 B3
      have m0 := b13.cell 0 _ rfl
      have m1 := b13.cell 1 _ rfl
      have mf0 := b13.frozen 0
      have mf1 := b13.frozen 1
      obtain ⟨WF, hWF, bF, hwF, hsF⟩ := box2_fill b13 (.slice a' ts.length c') (.int .i64 ts.length)
      have q0 := bF.cell 0 _ rfl
      have q1 := bF.cell 1 _ rfl
      have hoF := (o3.within hwF (.inr (by omega))).widen (show w.heap.size ≤ w1.heap.size by omega) (show w2.heap.size ≤ WF.heap.size by omega) (Nat.le_refl _)
      have hbF : Below w.heap.size w WF := (hbW.trans (B3.mono hbW.size)).trans (hwF.below (by omega) (by omega))
      have HF : Hid (_ ∧ _ ∧ _) := ⟨HVV.out, hoF, hbF⟩
      clear hwF hsF bF hv HVV hoF hbF b13 ho o3 hb2 hb3 B2 B3
      go_wp2
      rw [hWF.out]
      exact bodyPost_ret (v := .agg #[.slice a' ts.length c', .int .i64 ts.length]) (by simp [results, Tryz.results9, go_sem, q0, q1]) rfl ⟨⟨ts, (ts.length : Int), a', c'⟩, rfl, HF.out.1, HF.out.2.1, HF.out.2.2⟩
end Go.Proofs.YtbpdocjkhmiimabGreatDoor
