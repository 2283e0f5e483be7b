/- Several texts in one, in their order. -/
import Derived.Test.YtekljhabjkmhpaaDoorPFnLockedx13
import Derived.Test.YtekljhabjkmhpaaDoorPFnLockedx11
import Derived.Test.YtekljhabjkmhpaaDoorPFnLockedx12
import Derived.Deep.Cut
import Derived.Deep.RegionHeld3
/- The walk of spec.l9Give. -/
namespace Go.Proofs.YtekljhabjkmhpaaDoor
open Go.RowKit

/-- A transaction gets a mode of a resource: in the place of what it had, or behind the others. -/
def giveV (G : List GrantV) (g : GrantV) (m : Int) : List GrantV := if 0 ≤ placeZ (atB g.tx g.res) G then G.set (placeZ (atB g.tx g.res) G).toNat ⟨g.tx, g.res, m⟩ else G ++ [⟨g.tx, g.res, m⟩]
theorem giveV_hit {G : List GrantV} {g : GrantV} {m : Int} {k : Nat} (h : k < G.length) (h0 : (G.take k).any (atB g.tx g.res) = false) (h1 : atB g.tx g.res (G.getD k zeroG) = true) : giveV G g m = G.set k ⟨g.tx, g.res, m⟩ := by
  have e := placeZ_hit h h0 h1
  unfold giveV
  rw [e, if_pos (by omega), Int.toNat_natCast]
theorem giveV_none {G : List GrantV} {g : GrantV} {m : Int} {k : Nat} (h : ¬ k < G.length) (h0 : (G.take k).any (atB g.tx g.res) = false) : giveV G g m = G ++ [⟨g.tx, g.res, m⟩] := by
  have e := placeZ_end h h0
  unfold giveV
  rw [e, if_neg (by omega)]

set_option maxHeartbeats 4000000 in
set_option maxRecDepth 100000 in
theorem l9Give_any (lo B : Nat) (l : LocksA) (g : GrantV) (m : Int) (w : World) (h : LkAt w lo B l) (hlo : lo ≤ w.heap.size) (hlen : l.given.length ≤ 1000) :
    Calls Tryd.prog 66 #[.pointer (some ⟨B, 0, none⟩), .agg #[.int .i64 g.tx, .int .i64 g.res, .int .i64 g.mode], .int .i64 m] w fun e w' => (∃ v, e = .returned v) ∧ ∃ l', Hid (l'.given = giveV l.given g m ∧ l'.waits = l.waits) ∧ LkStep w w' lo B l l' := by
  obtain ⟨W, hW, b1, hbW, hsW⟩ := boxes1 w [.int .i64 g.tx, .int .i64 g.res, .int .i64 g.mode] 37
  have hs1 := b1.lt
  have hBw := h.box.lt
  have HCG : Hid (∀ k, k < l.given.length → ∃ gb, l.aG = some ⟨gb, 0, none⟩ ∧ ∀ u, Below W.heap.size W u → (u.cell? ⟨B, 0, none⟩ = some (.slice l.aG l.given.length l.cG) ∧ (u.cell? ⟨w.heap.size, 0, none⟩ = some (.int .i64 g.tx) ∧ u.cell? ⟨w.heap.size, 1, none⟩ = some (.int .i64 g.res))) ∧ (u.cell? ⟨gb, k * 3, none⟩ = some (.int .i64 (l.given.getD k zeroG).tx) ∧ u.cell? ⟨gb, k * 3 + 1, none⟩ = some (.int .i64 (l.given.getD k zeroG).res))) := fun k hk => by
    rcases h.own.given.1.2 with ⟨_, h0⟩ | ⟨gb, cap', cur, hv, _⟩
    · omega
    · simp only [Value.slice.injEq] at hv
      have hr := h.own.given.1
      rw [hv.1] at hr
      obtain ⟨k0, k1, _, _⟩ := row_grant hr rfl k hk
      exact ⟨gb, hv.1, fun u hu => by
        have hu' := hbW.trans (hu.mono hbW.size)
        exact ⟨⟨(h.below hu').box.cell 0 _ rfl, (b1.below hu hs1).cell 0 _ rfl, (b1.below hu hs1).cell 1 _ rfl⟩, (hu'.cell (block_lt k0)).trans k0, (hu'.cell (block_lt k1)).trans k1⟩⟩
  have HL0 : Hid (∀ u, Below W.heap.size W u → u.cell? ⟨B, 0, none⟩ = some (.slice l.aG l.given.length l.cG) ∧ (u.cell? ⟨w.heap.size, 0, none⟩ = some (.int .i64 g.tx) ∧ u.cell? ⟨w.heap.size, 1, none⟩ = some (.int .i64 g.res))) := fun u hu => ⟨(h.below (hbW.trans (hu.mono hbW.size))).box.cell 0 _ rfl, (b1.below hu hs1).cell 0 _ rfl, (b1.below hu hs1).cell 1 _ rfl⟩
  have HBW : Hid (∀ u, Below W.heap.size W u → Below w.heap.size w u) := fun u hu => hbW.trans (hu.mono hbW.size)
  have hl1 : w.heap.size < W.heap.size := hs1
  have HBX : Hid (∀ u, Below W.heap.size W u → Box u w.heap.size [.int .i64 g.tx, .int .i64 g.res, .int .i64 g.mode] 37) := fun u hu => b1.below hu hs1
  have hBW : B < W.heap.size := by omega
  have HLK : Hid (LkAt w lo B l) := h
  clear b1 hbW hsW
  have c0 := (HL0.out W (Below.refl _ _)).1
  go_enter Tryd.func66, Tryd.ntmps66
  go_wp2
  rw [hW.out]
  clear hW c0
  go_loopw [6] (fun i wr => ∃ k : Nat, k ≤ l.given.length ∧ i = .int .i64 k ∧ Hid ((l.given.take k).any (atB g.tx g.res) = false) ∧ Below W.heap.size W wr) (fun i _ => l.given.length - (intOf i).toNat)
  case atStart => exact ⟨0, Nat.zero_le _, rfl, rfl, Below.refl _ _⟩
  case round =>
    obtain ⟨k, hk, rfl, hany, hbl⟩ := hrel
    have c0 := (HL0.out _ hbl).1
    by_cases hlt : k < l.given.length
    · obtain ⟨gb, hgb, hcs⟩ := HCG.out k hlt
      have HK : Hid (_) := hcs
      have HN : Hid (atB g.tx g.res (l.given.getD k zeroG) = false → (l.given.take (k + 1)).any (atB g.tx g.res) = false) := any_step hlt hany
      have HH : Hid (atB g.tx g.res (l.given.getD k zeroG) = true → giveV l.given g m = l.given.set k ⟨g.tx, g.res, m⟩) := giveV_hit hlt hany
      have HBA : Hid (∀ z : GrantV, atB g.tx g.res z = (z.tx == g.tx && z.res == g.res)) := fun _ => rfl
      have HGB : Hid (l.aG = some ⟨gb, 0, none⟩) := hgb
      rw [hgb] at HK c0
      clear HCG hany hcs
      obtain ⟨z, hz⟩ : ∃ z, Hid (l.given.getD k zeroG = z) := ⟨_, rfl⟩
      rw [hz.out] at HK HN HH
      go_upto_region 4 with fail
      clear c0 hgb
      have D0 : Below W.heap.size W wr.drew := hbl.drew
      by_cases q1 : z.tx = g.tx
      · have hq1 : (z.tx == g.tx) = true := by simp [q1]
        by_cases q2 : z.res = g.res
        · have hq2 : (z.res == g.res) = true := by simp [q2]
          have HR : Hid _ := HH.out (by rw [HBA.out, hq1, hq2]; rfl)
          refine wp_region_held_drew (S := fun u => (u.cell? ⟨B, 0, none⟩ = some (.slice (some ⟨gb, 0, none⟩) l.given.length l.cG) ∧ (u.cell? ⟨w.heap.size, 0, none⟩ = some (.int .i64 g.tx) ∧ u.cell? ⟨w.heap.size, 1, none⟩ = some (.int .i64 g.res))) ∧ (u.cell? ⟨gb, k * 3, none⟩ = some (.int .i64 z.tx) ∧ u.cell? ⟨gb, k * 3 + 1, none⟩ = some (.int .i64 z.res))) (by kernel_rfl) (HK.out _ D0) (fun hHeld => ?_)
          generalize wr.drew = d0 at *
          refine wpAnyH_take (i := 0) (v := .pointer (some ⟨B, 0, none⟩)) rfl (by kernel_rfl) (by kernel_rfl) (by kernel_rfl) (fun _ _ _ h => h) (Or.inl ⟨by rfl, ?_⟩) hHeld ?_
          · intro w' hSw
            go_simp <;> rfl
          try simp only [Act.put, List.getElem_toArray, List.getElem_cons_zero, List.setIfInBounds_toArray, List.set_cons_zero, List.set_cons_succ]
          refine wpAnyH_take (i := 1) (v := .pointer (some ⟨B, 0, none⟩)) rfl (by kernel_rfl) (by kernel_rfl) (by kernel_rfl) (fun _ _ _ h => h) (Or.inl ⟨by rfl, ?_⟩) hHeld ?_
          · intro w' hSw
            go_simp <;> rfl
          try simp only [Act.put, List.getElem_toArray, List.getElem_cons_zero, List.getElem_cons_succ, List.setIfInBounds_toArray, List.set_cons_zero, List.set_cons_succ]
          refine wpAnyH_take (i := 2) (v := .pointer (some ⟨B, 0, none⟩)) rfl (by kernel_rfl) (by kernel_rfl) (by kernel_rfl) (fun _ _ _ h => h) (Or.inl ⟨by rfl, ?_⟩) hHeld ?_
          · intro w' hSw
            go_simp <;> rfl
          try simp only [Act.put, List.getElem_toArray, List.getElem_cons_zero, List.getElem_cons_succ, List.setIfInBounds_toArray, List.set_cons_zero, List.set_cons_succ]
          refine wpAnyH_take (i := 3) (v := .slice (some ⟨gb, 0, none⟩) l.given.length l.cG) rfl (by kernel_rfl) (by kernel_rfl) (by kernel_rfl) (fun _ _ _ h => h) (Or.inl ⟨by rfl, ?_⟩) hHeld ?_
          · intro w' hSw
            have hx := hSw.1.1
            go_simp <;> rfl
          try simp only [Act.put, List.getElem_toArray, List.getElem_cons_zero, List.getElem_cons_succ, List.setIfInBounds_toArray, List.set_cons_zero, List.set_cons_succ]
          refine wpAnyH_take (i := 4) (v := .int .i64 (k : Int)) rfl (by kernel_rfl) (by kernel_rfl) (by kernel_rfl) (fun _ _ _ h => h) (Or.inl ⟨by rfl, ?_⟩) hHeld ?_
          · intro w' hSw
            go_simp <;> rfl
          try simp only [Act.put, List.getElem_toArray, List.getElem_cons_zero, List.getElem_cons_succ, List.setIfInBounds_toArray, List.set_cons_zero, List.set_cons_succ]
          refine wpAnyH_take (i := 5) (v := .pointer (some ⟨gb, k * 3, none⟩)) rfl (by kernel_rfl) (by kernel_rfl) (by kernel_rfl) (fun _ _ _ h => h) (Or.inl ⟨by rfl, ?_⟩) hHeld ?_
          · intro w' hSw
            go_simp <;> rfl
          try simp only [Act.put, List.getElem_toArray, List.getElem_cons_zero, List.getElem_cons_succ, List.setIfInBounds_toArray, List.set_cons_zero, List.set_cons_succ]
          refine wpAnyH_take (i := 6) (v := .pointer (some ⟨gb, k * 3, none⟩)) rfl (by kernel_rfl) (by kernel_rfl) (by kernel_rfl) (fun _ _ _ h => h) (Or.inl ⟨by rfl, ?_⟩) hHeld ?_
          · intro w' hSw
            go_simp <;> rfl
          try simp only [Act.put, List.getElem_toArray, List.getElem_cons_zero, List.getElem_cons_succ, List.setIfInBounds_toArray, List.set_cons_zero, List.set_cons_succ]
          refine wpAnyH_take (i := 7) (v := .int .i64 z.tx) rfl (by kernel_rfl) (by kernel_rfl) (by kernel_rfl) (fun _ _ _ h => h) (Or.inl ⟨by rfl, ?_⟩) hHeld ?_
          · intro w' hSw
            have hx := hSw.2.1
            go_simp <;> rfl
          try simp only [Act.put, List.getElem_toArray, List.getElem_cons_zero, List.getElem_cons_succ, List.setIfInBounds_toArray, List.set_cons_zero, List.set_cons_succ]
          refine wpAnyH_take (i := 8) (v := .pointer (some ⟨w.heap.size, 0, none⟩)) rfl (by kernel_rfl) (by kernel_rfl) (by kernel_rfl) (fun _ _ _ h => h) (Or.inl ⟨by rfl, ?_⟩) hHeld ?_
          · intro w' hSw
            go_simp <;> rfl
          try simp only [Act.put, List.getElem_toArray, List.getElem_cons_zero, List.getElem_cons_succ, List.setIfInBounds_toArray, List.set_cons_zero, List.set_cons_succ]
          refine wpAnyH_take (i := 9) (v := .int .i64 g.tx) rfl (by kernel_rfl) (by kernel_rfl) (by kernel_rfl) (fun _ _ _ h => h) (Or.inl ⟨by rfl, ?_⟩) hHeld ?_
          · intro w' hSw
            have hx := hSw.1.2.1
            go_simp <;> rfl
          try simp only [Act.put, List.getElem_toArray, List.getElem_cons_zero, List.getElem_cons_succ, List.setIfInBounds_toArray, List.set_cons_zero, List.set_cons_succ]
          refine wpAnyH_take (i := 10) (v := .bool true) rfl (by kernel_rfl) (by kernel_rfl) (by kernel_rfl) (fun _ _ _ h => h) (Or.inl ⟨by rfl, ?_⟩) hHeld ?_
          · intro w' hSw
            have hx := hq1
            go_simp <;> rfl
          try simp only [Act.put, List.getElem_toArray, List.getElem_cons_zero, List.getElem_cons_succ, List.setIfInBounds_toArray, List.set_cons_zero, List.set_cons_succ]
          refine wpAnyH_take (i := 11) (v := .bool true) rfl (by kernel_rfl) (by kernel_rfl) (by kernel_rfl) (fun _ _ _ h => h) (Or.inl ⟨by rfl, ?_⟩) hHeld ?_
          · intro w' hSw
            go_simp <;> rfl
          try simp only [Act.put, List.getElem_toArray, List.getElem_cons_zero, List.getElem_cons_succ, List.setIfInBounds_toArray, List.set_cons_zero, List.set_cons_succ]
          refine wpAnyH_take (i := 12) (v := .pointer (some ⟨B, 0, none⟩)) rfl (by kernel_rfl) (by kernel_rfl) (by kernel_rfl) (fun _ _ _ h => h) (Or.inl ⟨by rfl, ?_⟩) hHeld ?_
          · intro w' hSw
            go_simp <;> rfl
          try simp only [Act.put, List.getElem_toArray, List.getElem_cons_zero, List.getElem_cons_succ, List.setIfInBounds_toArray, List.set_cons_zero, List.set_cons_succ]
          refine wpAnyH_take (i := 13) (v := .pointer (some ⟨B, 0, none⟩)) rfl (by kernel_rfl) (by kernel_rfl) (by kernel_rfl) (fun _ _ _ h => h) (Or.inl ⟨by rfl, ?_⟩) hHeld ?_
          · intro w' hSw
            go_simp <;> rfl
          try simp only [Act.put, List.getElem_toArray, List.getElem_cons_zero, List.getElem_cons_succ, List.setIfInBounds_toArray, List.set_cons_zero, List.set_cons_succ]
          refine wpAnyH_take (i := 14) (v := .pointer (some ⟨B, 0, none⟩)) rfl (by kernel_rfl) (by kernel_rfl) (by kernel_rfl) (fun _ _ _ h => h) (Or.inl ⟨by rfl, ?_⟩) hHeld ?_
          · intro w' hSw
            go_simp <;> rfl
          try simp only [Act.put, List.getElem_toArray, List.getElem_cons_zero, List.getElem_cons_succ, List.setIfInBounds_toArray, List.set_cons_zero, List.set_cons_succ]
          refine wpAnyH_take (i := 15) (v := .slice (some ⟨gb, 0, none⟩) l.given.length l.cG) rfl (by kernel_rfl) (by kernel_rfl) (by kernel_rfl) (fun _ _ _ h => h) (Or.inl ⟨by rfl, ?_⟩) hHeld ?_
          · intro w' hSw
            have hx := hSw.1.1
            go_simp <;> rfl
          try simp only [Act.put, List.getElem_toArray, List.getElem_cons_zero, List.getElem_cons_succ, List.setIfInBounds_toArray, List.set_cons_zero, List.set_cons_succ]
          refine wpAnyH_take (i := 16) (v := .int .i64 (k : Int)) rfl (by kernel_rfl) (by kernel_rfl) (by kernel_rfl) (fun _ _ _ h => h) (Or.inl ⟨by rfl, ?_⟩) hHeld ?_
          · intro w' hSw
            go_simp <;> rfl
          try simp only [Act.put, List.getElem_toArray, List.getElem_cons_zero, List.getElem_cons_succ, List.setIfInBounds_toArray, List.set_cons_zero, List.set_cons_succ]
          refine wpAnyH_take (i := 17) (v := .pointer (some ⟨gb, k * 3, none⟩)) rfl (by kernel_rfl) (by kernel_rfl) (by kernel_rfl) (fun _ _ _ h => h) (Or.inl ⟨by rfl, ?_⟩) hHeld ?_
          · intro w' hSw
            go_simp <;> rfl
          try simp only [Act.put, List.getElem_toArray, List.getElem_cons_zero, List.getElem_cons_succ, List.setIfInBounds_toArray, List.set_cons_zero, List.set_cons_succ]
          refine wpAnyH_take (i := 18) (v := .pointer (some ⟨gb, k * 3 + 1, none⟩)) rfl (by kernel_rfl) (by kernel_rfl) (by kernel_rfl) (fun _ _ _ h => h) (Or.inl ⟨by rfl, ?_⟩) hHeld ?_
          · intro w' hSw
            go_simp <;> rfl
          try simp only [Act.put, List.getElem_toArray, List.getElem_cons_zero, List.getElem_cons_succ, List.setIfInBounds_toArray, List.set_cons_zero, List.set_cons_succ]
          refine wpAnyH_take (i := 19) (v := .int .i64 z.res) rfl (by kernel_rfl) (by kernel_rfl) (by kernel_rfl) (fun _ _ _ h => h) (Or.inl ⟨by rfl, ?_⟩) hHeld ?_
          · intro w' hSw
            have hx := hSw.2.2
            go_simp <;> rfl
          try simp only [Act.put, List.getElem_toArray, List.getElem_cons_zero, List.getElem_cons_succ, List.setIfInBounds_toArray, List.set_cons_zero, List.set_cons_succ]
          refine wpAnyH_take (i := 20) (v := .pointer (some ⟨w.heap.size, 1, none⟩)) rfl (by kernel_rfl) (by kernel_rfl) (by kernel_rfl) (fun _ _ _ h => h) (Or.inl ⟨by rfl, ?_⟩) hHeld ?_
          · intro w' hSw
            go_simp <;> rfl
          try simp only [Act.put, List.getElem_toArray, List.getElem_cons_zero, List.getElem_cons_succ, List.setIfInBounds_toArray, List.set_cons_zero, List.set_cons_succ]
          refine wpAnyH_take (i := 21) (v := .int .i64 g.res) rfl (by kernel_rfl) (by kernel_rfl) (by kernel_rfl) (fun _ _ _ h => h) (Or.inl ⟨by rfl, ?_⟩) hHeld ?_
          · intro w' hSw
            have hx := hSw.1.2.2
            go_simp <;> rfl
          try simp only [Act.put, List.getElem_toArray, List.getElem_cons_zero, List.getElem_cons_succ, List.setIfInBounds_toArray, List.set_cons_zero, List.set_cons_succ]
          refine wpAnyH_take (i := 22) (v := .bool true) rfl (by kernel_rfl) (by kernel_rfl) (by kernel_rfl) (fun _ _ _ h => h) (Or.inl ⟨by rfl, ?_⟩) hHeld ?_
          · intro w' hSw
            have hx := hq2
            go_simp <;> rfl
          try simp only [Act.put, List.getElem_toArray, List.getElem_cons_zero, List.getElem_cons_succ, List.setIfInBounds_toArray, List.set_cons_zero, List.set_cons_succ]
          refine wpAnyH_take (i := 23) (v := .bool true) rfl (by kernel_rfl) (by kernel_rfl) (by kernel_rfl) (fun _ _ _ h => h) (Or.inl ⟨by rfl, ?_⟩) hHeld ?_
          · intro w' hSw
            go_simp <;> rfl
          try simp only [Act.put, List.getElem_toArray, List.getElem_cons_zero, List.getElem_cons_succ, List.setIfInBounds_toArray, List.set_cons_zero, List.set_cons_succ]
          refine wpAnyH_done (by kernel_rfl) ?_ _
          clear hHeld
          have hD : Below w.heap.size w d0 := HBW.out _ D0
          have hL := HLK.out.below hD
          have hro := hL.own.given.1
          rw [HGB.out] at hro
          obtain ⟨x0, x1, x2, hfz⟩ := row_grant hro rfl k hlt
          have f2 := hfz (k * 3 + 2)
          obtain ⟨W2, hW2, ho2, hg2⟩ := row_modeG hro rfl k hlt m
          have y0 := (HK.out _ D0).1.1
          have HF : Hid (LkStep w W2 lo B l ⟨l.given.set k ⟨g.tx, g.res, m⟩, l.waits, l.aG, l.cG, l.aW, l.cW⟩) := by
            have hzz : l.given.set k ⟨(l.given.getD k zeroG).tx, (l.given.getD k zeroG).res, m⟩ = l.given.set k ⟨g.tx, g.res, m⟩ := by rw [hz.out, q1, q2]
            rw [hzz] at ho2
            exact (HLK.out.same hD).trans (hL.putG (by simp) (by rw [HGB.out]; exact ho2) (by rw [HGB.out]; exact hg2))
          have HR2 : Hid _ := HR.out
          clear HK HN HH HBA q1 q2 ho2 hg2 hro hL x0 x1 hfz hq1 hq2
          go_wp2_with fail
          rw [hW2.out]
          (try simp only [Exit.inBlock, Exit.then])
          refine bodyPost_ret (results_none rfl _ _ _) rfl ?_
          exact ⟨⟨_, rfl⟩, ⟨l.given.set k ⟨g.tx, g.res, m⟩, l.waits, l.aG, l.cG, l.aW, l.cW⟩, ⟨HR2.out.symm, rfl⟩, HF.out⟩
        · have hq2 : (z.res == g.res) = false := by simp [q2]
          have HR : Hid _ := HN.out (by rw [HBA.out, hq2]; simp)
          clear q1 q2 hz
          refine wp_region_held_drew (S := fun u => (u.cell? ⟨B, 0, none⟩ = some (.slice (some ⟨gb, 0, none⟩) l.given.length l.cG) ∧ (u.cell? ⟨w.heap.size, 0, none⟩ = some (.int .i64 g.tx) ∧ u.cell? ⟨w.heap.size, 1, none⟩ = some (.int .i64 g.res))) ∧ (u.cell? ⟨gb, k * 3, none⟩ = some (.int .i64 z.tx) ∧ u.cell? ⟨gb, k * 3 + 1, none⟩ = some (.int .i64 z.res))) (by kernel_rfl) (HK.out _ D0) (fun hHeld => ?_)
          generalize wr.drew = d0 at *
          refine wpAnyH_take (i := 0) (v := .pointer (some ⟨B, 0, none⟩)) rfl (by kernel_rfl) (by kernel_rfl) (by kernel_rfl) (fun _ _ _ h => h) (Or.inl ⟨by rfl, ?_⟩) hHeld ?_
          · intro w' hSw
            go_simp <;> rfl
          try simp only [Act.put, List.getElem_toArray, List.getElem_cons_zero, List.setIfInBounds_toArray, List.set_cons_zero, List.set_cons_succ]
          refine wpAnyH_take (i := 1) (v := .pointer (some ⟨B, 0, none⟩)) rfl (by kernel_rfl) (by kernel_rfl) (by kernel_rfl) (fun _ _ _ h => h) (Or.inl ⟨by rfl, ?_⟩) hHeld ?_
          · intro w' hSw
            go_simp <;> rfl
          try simp only [Act.put, List.getElem_toArray, List.getElem_cons_zero, List.getElem_cons_succ, List.setIfInBounds_toArray, List.set_cons_zero, List.set_cons_succ]
          refine wpAnyH_take (i := 2) (v := .pointer (some ⟨B, 0, none⟩)) rfl (by kernel_rfl) (by kernel_rfl) (by kernel_rfl) (fun _ _ _ h => h) (Or.inl ⟨by rfl, ?_⟩) hHeld ?_
          · intro w' hSw
            go_simp <;> rfl
          try simp only [Act.put, List.getElem_toArray, List.getElem_cons_zero, List.getElem_cons_succ, List.setIfInBounds_toArray, List.set_cons_zero, List.set_cons_succ]
          refine wpAnyH_take (i := 3) (v := .slice (some ⟨gb, 0, none⟩) l.given.length l.cG) rfl (by kernel_rfl) (by kernel_rfl) (by kernel_rfl) (fun _ _ _ h => h) (Or.inl ⟨by rfl, ?_⟩) hHeld ?_
          · intro w' hSw
            have hx := hSw.1.1
            go_simp <;> rfl
          try simp only [Act.put, List.getElem_toArray, List.getElem_cons_zero, List.getElem_cons_succ, List.setIfInBounds_toArray, List.set_cons_zero, List.set_cons_succ]
          refine wpAnyH_take (i := 4) (v := .int .i64 (k : Int)) rfl (by kernel_rfl) (by kernel_rfl) (by kernel_rfl) (fun _ _ _ h => h) (Or.inl ⟨by rfl, ?_⟩) hHeld ?_
          · intro w' hSw
            go_simp <;> rfl
          try simp only [Act.put, List.getElem_toArray, List.getElem_cons_zero, List.getElem_cons_succ, List.setIfInBounds_toArray, List.set_cons_zero, List.set_cons_succ]
          refine wpAnyH_take (i := 5) (v := .pointer (some ⟨gb, k * 3, none⟩)) rfl (by kernel_rfl) (by kernel_rfl) (by kernel_rfl) (fun _ _ _ h => h) (Or.inl ⟨by rfl, ?_⟩) hHeld ?_
          · intro w' hSw
            go_simp <;> rfl
          try simp only [Act.put, List.getElem_toArray, List.getElem_cons_zero, List.getElem_cons_succ, List.setIfInBounds_toArray, List.set_cons_zero, List.set_cons_succ]
          refine wpAnyH_take (i := 6) (v := .pointer (some ⟨gb, k * 3, none⟩)) rfl (by kernel_rfl) (by kernel_rfl) (by kernel_rfl) (fun _ _ _ h => h) (Or.inl ⟨by rfl, ?_⟩) hHeld ?_
          · intro w' hSw
            go_simp <;> rfl
          try simp only [Act.put, List.getElem_toArray, List.getElem_cons_zero, List.getElem_cons_succ, List.setIfInBounds_toArray, List.set_cons_zero, List.set_cons_succ]
          refine wpAnyH_take (i := 7) (v := .int .i64 z.tx) rfl (by kernel_rfl) (by kernel_rfl) (by kernel_rfl) (fun _ _ _ h => h) (Or.inl ⟨by rfl, ?_⟩) hHeld ?_
          · intro w' hSw
            have hx := hSw.2.1
            go_simp <;> rfl
          try simp only [Act.put, List.getElem_toArray, List.getElem_cons_zero, List.getElem_cons_succ, List.setIfInBounds_toArray, List.set_cons_zero, List.set_cons_succ]
          refine wpAnyH_take (i := 8) (v := .pointer (some ⟨w.heap.size, 0, none⟩)) rfl (by kernel_rfl) (by kernel_rfl) (by kernel_rfl) (fun _ _ _ h => h) (Or.inl ⟨by rfl, ?_⟩) hHeld ?_
          · intro w' hSw
            go_simp <;> rfl
          try simp only [Act.put, List.getElem_toArray, List.getElem_cons_zero, List.getElem_cons_succ, List.setIfInBounds_toArray, List.set_cons_zero, List.set_cons_succ]
          refine wpAnyH_take (i := 9) (v := .int .i64 g.tx) rfl (by kernel_rfl) (by kernel_rfl) (by kernel_rfl) (fun _ _ _ h => h) (Or.inl ⟨by rfl, ?_⟩) hHeld ?_
          · intro w' hSw
            have hx := hSw.1.2.1
            go_simp <;> rfl
          try simp only [Act.put, List.getElem_toArray, List.getElem_cons_zero, List.getElem_cons_succ, List.setIfInBounds_toArray, List.set_cons_zero, List.set_cons_succ]
          refine wpAnyH_take (i := 10) (v := .bool true) rfl (by kernel_rfl) (by kernel_rfl) (by kernel_rfl) (fun _ _ _ h => h) (Or.inl ⟨by rfl, ?_⟩) hHeld ?_
          · intro w' hSw
            have hx := hq1
            go_simp <;> rfl
          try simp only [Act.put, List.getElem_toArray, List.getElem_cons_zero, List.getElem_cons_succ, List.setIfInBounds_toArray, List.set_cons_zero, List.set_cons_succ]
          refine wpAnyH_take (i := 11) (v := .bool true) rfl (by kernel_rfl) (by kernel_rfl) (by kernel_rfl) (fun _ _ _ h => h) (Or.inl ⟨by rfl, ?_⟩) hHeld ?_
          · intro w' hSw
            go_simp <;> rfl
          try simp only [Act.put, List.getElem_toArray, List.getElem_cons_zero, List.getElem_cons_succ, List.setIfInBounds_toArray, List.set_cons_zero, List.set_cons_succ]
          refine wpAnyH_take (i := 12) (v := .pointer (some ⟨B, 0, none⟩)) rfl (by kernel_rfl) (by kernel_rfl) (by kernel_rfl) (fun _ _ _ h => h) (Or.inl ⟨by rfl, ?_⟩) hHeld ?_
          · intro w' hSw
            go_simp <;> rfl
          try simp only [Act.put, List.getElem_toArray, List.getElem_cons_zero, List.getElem_cons_succ, List.setIfInBounds_toArray, List.set_cons_zero, List.set_cons_succ]
          refine wpAnyH_take (i := 13) (v := .pointer (some ⟨B, 0, none⟩)) rfl (by kernel_rfl) (by kernel_rfl) (by kernel_rfl) (fun _ _ _ h => h) (Or.inl ⟨by rfl, ?_⟩) hHeld ?_
          · intro w' hSw
            go_simp <;> rfl
          try simp only [Act.put, List.getElem_toArray, List.getElem_cons_zero, List.getElem_cons_succ, List.setIfInBounds_toArray, List.set_cons_zero, List.set_cons_succ]
          refine wpAnyH_take (i := 14) (v := .pointer (some ⟨B, 0, none⟩)) rfl (by kernel_rfl) (by kernel_rfl) (by kernel_rfl) (fun _ _ _ h => h) (Or.inl ⟨by rfl, ?_⟩) hHeld ?_
          · intro w' hSw
            go_simp <;> rfl
          try simp only [Act.put, List.getElem_toArray, List.getElem_cons_zero, List.getElem_cons_succ, List.setIfInBounds_toArray, List.set_cons_zero, List.set_cons_succ]
          refine wpAnyH_take (i := 15) (v := .slice (some ⟨gb, 0, none⟩) l.given.length l.cG) rfl (by kernel_rfl) (by kernel_rfl) (by kernel_rfl) (fun _ _ _ h => h) (Or.inl ⟨by rfl, ?_⟩) hHeld ?_
          · intro w' hSw
            have hx := hSw.1.1
            go_simp <;> rfl
          try simp only [Act.put, List.getElem_toArray, List.getElem_cons_zero, List.getElem_cons_succ, List.setIfInBounds_toArray, List.set_cons_zero, List.set_cons_succ]
          refine wpAnyH_take (i := 16) (v := .int .i64 (k : Int)) rfl (by kernel_rfl) (by kernel_rfl) (by kernel_rfl) (fun _ _ _ h => h) (Or.inl ⟨by rfl, ?_⟩) hHeld ?_
          · intro w' hSw
            go_simp <;> rfl
          try simp only [Act.put, List.getElem_toArray, List.getElem_cons_zero, List.getElem_cons_succ, List.setIfInBounds_toArray, List.set_cons_zero, List.set_cons_succ]
          refine wpAnyH_take (i := 17) (v := .pointer (some ⟨gb, k * 3, none⟩)) rfl (by kernel_rfl) (by kernel_rfl) (by kernel_rfl) (fun _ _ _ h => h) (Or.inl ⟨by rfl, ?_⟩) hHeld ?_
          · intro w' hSw
            go_simp <;> rfl
          try simp only [Act.put, List.getElem_toArray, List.getElem_cons_zero, List.getElem_cons_succ, List.setIfInBounds_toArray, List.set_cons_zero, List.set_cons_succ]
          refine wpAnyH_take (i := 18) (v := .pointer (some ⟨gb, k * 3 + 1, none⟩)) rfl (by kernel_rfl) (by kernel_rfl) (by kernel_rfl) (fun _ _ _ h => h) (Or.inl ⟨by rfl, ?_⟩) hHeld ?_
          · intro w' hSw
            go_simp <;> rfl
          try simp only [Act.put, List.getElem_toArray, List.getElem_cons_zero, List.getElem_cons_succ, List.setIfInBounds_toArray, List.set_cons_zero, List.set_cons_succ]
          refine wpAnyH_take (i := 19) (v := .int .i64 z.res) rfl (by kernel_rfl) (by kernel_rfl) (by kernel_rfl) (fun _ _ _ h => h) (Or.inl ⟨by rfl, ?_⟩) hHeld ?_
          · intro w' hSw
            have hx := hSw.2.2
            go_simp <;> rfl
          try simp only [Act.put, List.getElem_toArray, List.getElem_cons_zero, List.getElem_cons_succ, List.setIfInBounds_toArray, List.set_cons_zero, List.set_cons_succ]
          refine wpAnyH_take (i := 20) (v := .pointer (some ⟨w.heap.size, 1, none⟩)) rfl (by kernel_rfl) (by kernel_rfl) (by kernel_rfl) (fun _ _ _ h => h) (Or.inl ⟨by rfl, ?_⟩) hHeld ?_
          · intro w' hSw
            go_simp <;> rfl
          try simp only [Act.put, List.getElem_toArray, List.getElem_cons_zero, List.getElem_cons_succ, List.setIfInBounds_toArray, List.set_cons_zero, List.set_cons_succ]
          refine wpAnyH_take (i := 21) (v := .int .i64 g.res) rfl (by kernel_rfl) (by kernel_rfl) (by kernel_rfl) (fun _ _ _ h => h) (Or.inl ⟨by rfl, ?_⟩) hHeld ?_
          · intro w' hSw
            have hx := hSw.1.2.2
            go_simp <;> rfl
          try simp only [Act.put, List.getElem_toArray, List.getElem_cons_zero, List.getElem_cons_succ, List.setIfInBounds_toArray, List.set_cons_zero, List.set_cons_succ]
          refine wpAnyH_take (i := 22) (v := .bool false) rfl (by kernel_rfl) (by kernel_rfl) (by kernel_rfl) (fun _ _ _ h => h) (Or.inl ⟨by rfl, ?_⟩) hHeld ?_
          · intro w' hSw
            have hx := hq2
            go_simp <;> rfl
          try simp only [Act.put, List.getElem_toArray, List.getElem_cons_zero, List.getElem_cons_succ, List.setIfInBounds_toArray, List.set_cons_zero, List.set_cons_succ]
          refine wpAnyH_take (i := 23) (v := .bool false) rfl (by kernel_rfl) (by kernel_rfl) (by kernel_rfl) (fun _ _ _ h => h) (Or.inl ⟨by rfl, ?_⟩) hHeld ?_
          · intro w' hSw
            go_simp <;> rfl
          try simp only [Act.put, List.getElem_toArray, List.getElem_cons_zero, List.getElem_cons_succ, List.setIfInBounds_toArray, List.set_cons_zero, List.set_cons_succ]
          refine wpAnyH_done (by kernel_rfl) ?_ _
          clear hHeld
          clear HK HN HH HBA
          go_wp2_with fail
          go_roundw
          case rel => exact ⟨k + 1, by omega, by go_num, HR.out, D0⟩
          case measure => simp [intOf]; omega
      · have hq1 : (z.tx == g.tx) = false := by simp [q1]
        have HR : Hid _ := HN.out (by rw [HBA.out, hq1]; rfl)
        clear q1 hz
        refine wp_region_held_drew (S := fun u => (u.cell? ⟨B, 0, none⟩ = some (.slice (some ⟨gb, 0, none⟩) l.given.length l.cG) ∧ (u.cell? ⟨w.heap.size, 0, none⟩ = some (.int .i64 g.tx) ∧ u.cell? ⟨w.heap.size, 1, none⟩ = some (.int .i64 g.res))) ∧ (u.cell? ⟨gb, k * 3, none⟩ = some (.int .i64 z.tx) ∧ u.cell? ⟨gb, k * 3 + 1, none⟩ = some (.int .i64 z.res))) (by kernel_rfl) (HK.out _ D0) (fun hHeld => ?_)
        generalize wr.drew = d0 at *
        refine wpAnyH_take (i := 0) (v := .pointer (some ⟨B, 0, none⟩)) rfl (by kernel_rfl) (by kernel_rfl) (by kernel_rfl) (fun _ _ _ h => h) (Or.inl ⟨by rfl, ?_⟩) hHeld ?_
        · intro w' hSw
          go_simp <;> rfl
        try simp only [Act.put, List.getElem_toArray, List.getElem_cons_zero, List.setIfInBounds_toArray, List.set_cons_zero, List.set_cons_succ]
        refine wpAnyH_take (i := 1) (v := .pointer (some ⟨B, 0, none⟩)) rfl (by kernel_rfl) (by kernel_rfl) (by kernel_rfl) (fun _ _ _ h => h) (Or.inl ⟨by rfl, ?_⟩) hHeld ?_
        · intro w' hSw
          go_simp <;> rfl
        try simp only [Act.put, List.getElem_toArray, List.getElem_cons_zero, List.getElem_cons_succ, List.setIfInBounds_toArray, List.set_cons_zero, List.set_cons_succ]
        refine wpAnyH_take (i := 2) (v := .pointer (some ⟨B, 0, none⟩)) rfl (by kernel_rfl) (by kernel_rfl) (by kernel_rfl) (fun _ _ _ h => h) (Or.inl ⟨by rfl, ?_⟩) hHeld ?_
        · intro w' hSw
          go_simp <;> rfl
        try simp only [Act.put, List.getElem_toArray, List.getElem_cons_zero, List.getElem_cons_succ, List.setIfInBounds_toArray, List.set_cons_zero, List.set_cons_succ]
        refine wpAnyH_take (i := 3) (v := .slice (some ⟨gb, 0, none⟩) l.given.length l.cG) rfl (by kernel_rfl) (by kernel_rfl) (by kernel_rfl) (fun _ _ _ h => h) (Or.inl ⟨by rfl, ?_⟩) hHeld ?_
        · intro w' hSw
          have hx := hSw.1.1
          go_simp <;> rfl
        try simp only [Act.put, List.getElem_toArray, List.getElem_cons_zero, List.getElem_cons_succ, List.setIfInBounds_toArray, List.set_cons_zero, List.set_cons_succ]
        refine wpAnyH_take (i := 4) (v := .int .i64 (k : Int)) rfl (by kernel_rfl) (by kernel_rfl) (by kernel_rfl) (fun _ _ _ h => h) (Or.inl ⟨by rfl, ?_⟩) hHeld ?_
        · intro w' hSw
          go_simp <;> rfl
        try simp only [Act.put, List.getElem_toArray, List.getElem_cons_zero, List.getElem_cons_succ, List.setIfInBounds_toArray, List.set_cons_zero, List.set_cons_succ]
        refine wpAnyH_take (i := 5) (v := .pointer (some ⟨gb, k * 3, none⟩)) rfl (by kernel_rfl) (by kernel_rfl) (by kernel_rfl) (fun _ _ _ h => h) (Or.inl ⟨by rfl, ?_⟩) hHeld ?_
        · intro w' hSw
          go_simp <;> rfl
        try simp only [Act.put, List.getElem_toArray, List.getElem_cons_zero, List.getElem_cons_succ, List.setIfInBounds_toArray, List.set_cons_zero, List.set_cons_succ]
        refine wpAnyH_take (i := 6) (v := .pointer (some ⟨gb, k * 3, none⟩)) rfl (by kernel_rfl) (by kernel_rfl) (by kernel_rfl) (fun _ _ _ h => h) (Or.inl ⟨by rfl, ?_⟩) hHeld ?_
        · intro w' hSw
          go_simp <;> rfl
        try simp only [Act.put, List.getElem_toArray, List.getElem_cons_zero, List.getElem_cons_succ, List.setIfInBounds_toArray, List.set_cons_zero, List.set_cons_succ]
        refine wpAnyH_take (i := 7) (v := .int .i64 z.tx) rfl (by kernel_rfl) (by kernel_rfl) (by kernel_rfl) (fun _ _ _ h => h) (Or.inl ⟨by rfl, ?_⟩) hHeld ?_
        · intro w' hSw
          have hx := hSw.2.1
          go_simp <;> rfl
        try simp only [Act.put, List.getElem_toArray, List.getElem_cons_zero, List.getElem_cons_succ, List.setIfInBounds_toArray, List.set_cons_zero, List.set_cons_succ]
        refine wpAnyH_take (i := 8) (v := .pointer (some ⟨w.heap.size, 0, none⟩)) rfl (by kernel_rfl) (by kernel_rfl) (by kernel_rfl) (fun _ _ _ h => h) (Or.inl ⟨by rfl, ?_⟩) hHeld ?_
        · intro w' hSw
          go_simp <;> rfl
        try simp only [Act.put, List.getElem_toArray, List.getElem_cons_zero, List.getElem_cons_succ, List.setIfInBounds_toArray, List.set_cons_zero, List.set_cons_succ]
        refine wpAnyH_take (i := 9) (v := .int .i64 g.tx) rfl (by kernel_rfl) (by kernel_rfl) (by kernel_rfl) (fun _ _ _ h => h) (Or.inl ⟨by rfl, ?_⟩) hHeld ?_
        · intro w' hSw
          have hx := hSw.1.2.1
          go_simp <;> rfl
        try simp only [Act.put, List.getElem_toArray, List.getElem_cons_zero, List.getElem_cons_succ, List.setIfInBounds_toArray, List.set_cons_zero, List.set_cons_succ]
        refine wpAnyH_take (i := 10) (v := .bool false) rfl (by kernel_rfl) (by kernel_rfl) (by kernel_rfl) (fun _ _ _ h => h) (Or.inl ⟨by rfl, ?_⟩) hHeld ?_
        · intro w' hSw
          have hx := hq1
          go_simp <;> rfl
        try simp only [Act.put, List.getElem_toArray, List.getElem_cons_zero, List.getElem_cons_succ, List.setIfInBounds_toArray, List.set_cons_zero, List.set_cons_succ]
        refine wpAnyH_take (i := 11) (v := .bool false) rfl (by kernel_rfl) (by kernel_rfl) (by kernel_rfl) (fun _ _ _ h => h) (Or.inl ⟨by rfl, ?_⟩) hHeld ?_
        · intro w' hSw
          go_simp <;> rfl
        try simp only [Act.put, List.getElem_toArray, List.getElem_cons_zero, List.getElem_cons_succ, List.setIfInBounds_toArray, List.set_cons_zero, List.set_cons_succ]
        refine wpAnyH_take (i := 12) (v := undef) rfl (by kernel_rfl) (by kernel_rfl) (by kernel_rfl) (fun _ _ _ h => h) (Or.inr ⟨by rfl, rfl⟩) hHeld ?_
        try simp only [Act.put, List.getElem_toArray, List.getElem_cons_zero, List.getElem_cons_succ, List.setIfInBounds_toArray, List.set_cons_zero, List.set_cons_succ]
        refine wpAnyH_take (i := 13) (v := undef) rfl (by kernel_rfl) (by kernel_rfl) (by kernel_rfl) (fun _ _ _ h => h) (Or.inr ⟨by rfl, rfl⟩) hHeld ?_
        try simp only [Act.put, List.getElem_toArray, List.getElem_cons_zero, List.getElem_cons_succ, List.setIfInBounds_toArray, List.set_cons_zero, List.set_cons_succ]
        refine wpAnyH_take (i := 14) (v := undef) rfl (by kernel_rfl) (by kernel_rfl) (by kernel_rfl) (fun _ _ _ h => h) (Or.inr ⟨by rfl, rfl⟩) hHeld ?_
        try simp only [Act.put, List.getElem_toArray, List.getElem_cons_zero, List.getElem_cons_succ, List.setIfInBounds_toArray, List.set_cons_zero, List.set_cons_succ]
        refine wpAnyH_take (i := 15) (v := undef) rfl (by kernel_rfl) (by kernel_rfl) (by kernel_rfl) (fun _ _ _ h => h) (Or.inr ⟨by rfl, rfl⟩) hHeld ?_
        try simp only [Act.put, List.getElem_toArray, List.getElem_cons_zero, List.getElem_cons_succ, List.setIfInBounds_toArray, List.set_cons_zero, List.set_cons_succ]
        refine wpAnyH_take (i := 16) (v := undef) rfl (by kernel_rfl) (by kernel_rfl) (by kernel_rfl) (fun _ _ _ h => h) (Or.inr ⟨by rfl, rfl⟩) hHeld ?_
        try simp only [Act.put, List.getElem_toArray, List.getElem_cons_zero, List.getElem_cons_succ, List.setIfInBounds_toArray, List.set_cons_zero, List.set_cons_succ]
        refine wpAnyH_take (i := 17) (v := undef) rfl (by kernel_rfl) (by kernel_rfl) (by kernel_rfl) (fun _ _ _ h => h) (Or.inr ⟨by rfl, rfl⟩) hHeld ?_
        try simp only [Act.put, List.getElem_toArray, List.getElem_cons_zero, List.getElem_cons_succ, List.setIfInBounds_toArray, List.set_cons_zero, List.set_cons_succ]
        refine wpAnyH_take (i := 18) (v := undef) rfl (by kernel_rfl) (by kernel_rfl) (by kernel_rfl) (fun _ _ _ h => h) (Or.inr ⟨by rfl, rfl⟩) hHeld ?_
        try simp only [Act.put, List.getElem_toArray, List.getElem_cons_zero, List.getElem_cons_succ, List.setIfInBounds_toArray, List.set_cons_zero, List.set_cons_succ]
        refine wpAnyH_take (i := 19) (v := undef) rfl (by kernel_rfl) (by kernel_rfl) (by kernel_rfl) (fun _ _ _ h => h) (Or.inr ⟨by rfl, rfl⟩) hHeld ?_
        try simp only [Act.put, List.getElem_toArray, List.getElem_cons_zero, List.getElem_cons_succ, List.setIfInBounds_toArray, List.set_cons_zero, List.set_cons_succ]
        refine wpAnyH_take (i := 20) (v := undef) rfl (by kernel_rfl) (by kernel_rfl) (by kernel_rfl) (fun _ _ _ h => h) (Or.inr ⟨by rfl, rfl⟩) hHeld ?_
        try simp only [Act.put, List.getElem_toArray, List.getElem_cons_zero, List.getElem_cons_succ, List.setIfInBounds_toArray, List.set_cons_zero, List.set_cons_succ]
        refine wpAnyH_take (i := 21) (v := undef) rfl (by kernel_rfl) (by kernel_rfl) (by kernel_rfl) (fun _ _ _ h => h) (Or.inr ⟨by rfl, rfl⟩) hHeld ?_
        try simp only [Act.put, List.getElem_toArray, List.getElem_cons_zero, List.getElem_cons_succ, List.setIfInBounds_toArray, List.set_cons_zero, List.set_cons_succ]
        refine wpAnyH_take (i := 22) (v := undef) rfl (by kernel_rfl) (by kernel_rfl) (by kernel_rfl) (fun _ _ _ h => h) (Or.inr ⟨by rfl, rfl⟩) hHeld ?_
        try simp only [Act.put, List.getElem_toArray, List.getElem_cons_zero, List.getElem_cons_succ, List.setIfInBounds_toArray, List.set_cons_zero, List.set_cons_succ]
        refine wpAnyH_take (i := 23) (v := .bool false) rfl (by kernel_rfl) (by kernel_rfl) (by kernel_rfl) (fun _ _ _ h => h) (Or.inl ⟨by rfl, ?_⟩) hHeld ?_
        · intro w' hSw
          go_simp <;> rfl
        try simp only [Act.put, List.getElem_toArray, List.getElem_cons_zero, List.getElem_cons_succ, List.setIfInBounds_toArray, List.set_cons_zero, List.set_cons_succ]
        refine wpAnyH_done (by kernel_rfl) ?_ _
        clear hHeld
        clear HK HN HH HBA
        go_wp2_with fail
        go_roundw
        case rel => exact ⟨k + 1, by omega, by go_num, HR.out, D0⟩
        case measure => simp [intOf]; omega
    · have HR : Hid _ := giveV_none (m := m) hlt hany
      have hD : Below w.heap.size w wr := HBW.out _ hbl
      have HK : Hid (_) := HL0.out
      have hd := hbl.size
      clear HCG hany HL0
      go_upto_region 6 with fail
      clear c0
      have hD0 : Below w.heap.size w wr.drew := hD.drew
      have D0 : Below W.heap.size W wr.drew := hbl.drew
      refine wp_region_late (· == 15) (S := fun u => u.cell? ⟨B, 0, none⟩ = some (.slice l.aG l.given.length l.cG) ∧ (u.cell? ⟨w.heap.size, 0, none⟩ = some (.int .i64 g.tx) ∧ u.cell? ⟨w.heap.size, 1, none⟩ = some (.int .i64 g.res))) (by kernel_rfl) (HK.out _ D0) (fun hHeld => ?_)
      replace hD := hD0
      clear hD0
      have hdd : wr.heap.size ≤ wr.drew.heap.size := Nat.le_refl _
      generalize wr.drew = d0 at *
      refine wpAnyL_take (i := 0) (v := .pointer (some ⟨B, 0, none⟩)) rfl (by kernel_rfl) (fun _ _ _ h => h) (Or.inl ⟨by rfl, ?_⟩) hHeld ?_
      · intro w' hSw
        go_simp <;> rfl
      try simp only [Act.put, List.getElem_toArray, List.getElem_cons_zero, List.setIfInBounds_toArray, List.set_cons_zero, List.set_cons_succ]
      refine wpAnyL_take (i := 1) (v := .pointer (some ⟨B, 0, none⟩)) rfl (by kernel_rfl) (fun _ _ _ h => h) (Or.inl ⟨by rfl, ?_⟩) hHeld ?_
      · intro w' hSw
        go_simp <;> rfl
      try simp only [Act.put, List.getElem_toArray, List.getElem_cons_zero, List.getElem_cons_succ, List.setIfInBounds_toArray, List.set_cons_zero, List.set_cons_succ]
      refine wpAnyL_take (i := 2) (v := .pointer (some ⟨B, 0, none⟩)) rfl (by kernel_rfl) (fun _ _ _ h => h) (Or.inl ⟨by rfl, ?_⟩) hHeld ?_
      · intro w' hSw
        go_simp <;> rfl
      try simp only [Act.put, List.getElem_toArray, List.getElem_cons_zero, List.getElem_cons_succ, List.setIfInBounds_toArray, List.set_cons_zero, List.set_cons_succ]
      refine wpAnyL_take (i := 3) (v := .pointer (some ⟨B, 0, none⟩)) rfl (by kernel_rfl) (fun _ _ _ h => h) (Or.inl ⟨by rfl, ?_⟩) hHeld ?_
      · intro w' hSw
        go_simp <;> rfl
      try simp only [Act.put, List.getElem_toArray, List.getElem_cons_zero, List.getElem_cons_succ, List.setIfInBounds_toArray, List.set_cons_zero, List.set_cons_succ]
      refine wpAnyL_take (i := 4) (v := .slice l.aG l.given.length l.cG) rfl (by kernel_rfl) (fun _ _ _ h => h) (Or.inl ⟨by rfl, ?_⟩) hHeld ?_
      · intro w' hSw
        have hx := hSw.1
        go_simp <;> rfl
      try simp only [Act.put, List.getElem_toArray, List.getElem_cons_zero, List.getElem_cons_succ, List.setIfInBounds_toArray, List.set_cons_zero, List.set_cons_succ]
      refine wpAnyL_take (i := 5) (v := .pointer (some ⟨w.heap.size, 0, none⟩)) rfl (by kernel_rfl) (fun _ _ _ h => h) (Or.inl ⟨by rfl, ?_⟩) hHeld ?_
      · intro w' hSw
        go_simp <;> rfl
      try simp only [Act.put, List.getElem_toArray, List.getElem_cons_zero, List.getElem_cons_succ, List.setIfInBounds_toArray, List.set_cons_zero, List.set_cons_succ]
      refine wpAnyL_take (i := 6) (v := .int .i64 g.tx) rfl (by kernel_rfl) (fun _ _ _ h => h) (Or.inl ⟨by rfl, ?_⟩) hHeld ?_
      · intro w' hSw
        have hx := hSw.2.1
        go_simp <;> rfl
      try simp only [Act.put, List.getElem_toArray, List.getElem_cons_zero, List.getElem_cons_succ, List.setIfInBounds_toArray, List.set_cons_zero, List.set_cons_succ]
      refine wpAnyL_take (i := 7) (v := .pointer (some ⟨w.heap.size, 1, none⟩)) rfl (by kernel_rfl) (fun _ _ _ h => h) (Or.inl ⟨by rfl, ?_⟩) hHeld ?_
      · intro w' hSw
        go_simp <;> rfl
      try simp only [Act.put, List.getElem_toArray, List.getElem_cons_zero, List.getElem_cons_succ, List.setIfInBounds_toArray, List.set_cons_zero, List.set_cons_succ]
      refine wpAnyL_take (i := 8) (v := .int .i64 g.res) rfl (by kernel_rfl) (fun _ _ _ h => h) (Or.inl ⟨by rfl, ?_⟩) hHeld ?_
      · intro w' hSw
        have hx := hSw.2.2
        go_simp <;> rfl
      try simp only [Act.put, List.getElem_toArray, List.getElem_cons_zero, List.getElem_cons_succ, List.setIfInBounds_toArray, List.set_cons_zero, List.set_cons_succ]
      refine wpAnyL_take (i := 9) (v := .int .i64 m) rfl (by kernel_rfl) (fun _ _ _ h => h) (Or.inl ⟨by rfl, ?_⟩) hHeld ?_
      · intro w' hSw
        go_simp <;> rfl
      try simp only [Act.put, List.getElem_toArray, List.getElem_cons_zero, List.getElem_cons_succ, List.setIfInBounds_toArray, List.set_cons_zero, List.set_cons_succ]
      refine wpAnyL_take (i := 10) (v := .agg #[.int .i64 g.tx, .int .i64 g.res, .int .i64 m]) rfl (by kernel_rfl) (fun _ _ _ h => h) (Or.inl ⟨by rfl, ?_⟩) hHeld ?_
      · intro w' hSw
        go_simp <;> rfl
      try simp only [Act.put, List.getElem_toArray, List.getElem_cons_zero, List.getElem_cons_succ, List.setIfInBounds_toArray, List.set_cons_zero, List.set_cons_succ]
      refine wpAnyL_next 11 (by kernel_rfl) rfl (fun K hK => ?_)
      go_simp
      obtain ⟨W9, hW9, y9, hb9, hs9⟩ := boxes1 d0 [.int .i64 (⟨g.tx, g.res, m⟩ : GrantV).tx, .int .i64 (⟨g.tx, g.res, m⟩ : GrantV).res, .int .i64 (⟨g.tx, g.res, m⟩ : GrantV).mode] 37
      have r9 : ReadsG W9 (some ⟨d0.heap.size, 0, none⟩) [(⟨g.tx, g.res, m⟩ : GrantV)] := by rw [← hW9.out]; exact readsG_one d0 (⟨g.tx, g.res, m⟩ : GrantV) _
      simp only at hW9 r9
      rw [hW9.out]
      have D9 : Below w.heap.size w W9 := hD.trans (hb9.mono hD.size)
      have o9 := (HLK.out.below D9).own.given
      clear hs9 y9
      have D9b : Below W.heap.size W W9 := D0.trans (hb9.mono D0.size)
      refine hK.out _ _ ((HK.out _ (D0.trans (hb9.mono D0.size)))) (fun hHeld => ?_)
      clear hK K hW9 hb9
      try simp only [Act.put, List.getElem_toArray, List.getElem_cons_zero, List.getElem_cons_succ, List.setIfInBounds_toArray, List.set_cons_zero, List.set_cons_succ]
      refine wpAnyL_next 12 (by kernel_rfl) rfl (fun K hK => ?_)
      refine step_append_grants rfl (.tmp 52) (.tmp 59) rfl lo W9.heap.size l.aG l.cG l.given rfl o9 _ _ [(⟨g.tx, g.res, m⟩ : GrantV)] rfl r9 (fun h => by cases h) (by simp only [List.length_cons, List.length_nil]; omega) (by have := D9.size; omega) ?_
      intro a10 c10 y10 w10 hy10 o10 g10 k10
      obtain ⟨⟨f1, f2⟩, W3, hW3, hst⟩ := LkAt.setG (w := w) HLK.out D9 o10 g10 (fun k hk => by
        rcases k10 k hk with e | e
        · exact .inl e
        · exact .inr (by have := D9.size; omega))
      have HK10 : Hid (_) := fun k (hk : k < W9.heap.size) hn => g10.block k hk hn
      clear k10 r9 o9
      have hwg : w.heap.size ∉ l.blocks := fun hm => by have := (HLK.out.own.lt hm).2; omega
      have hb10 : Box w10 w.heap.size [.int .i64 g.tx, .int .i64 g.res, .int .i64 g.mode] 37 := (HBX.out _ D9b).block (g10.block _ (HBX.out _ D9b).lt (fun e => hwg (mem_blocksG e.symm)))
      have KS : w10.cell? ⟨B, 0, none⟩ = some (.slice l.aG l.given.length l.cG) ∧ (w10.cell? ⟨w.heap.size, 0, none⟩ = some (.int .i64 g.tx) ∧ w10.cell? ⟨w.heap.size, 1, none⟩ = some (.int .i64 g.res)) := ⟨f1, hb10.cell 0 _ rfl, hb10.cell 1 _ rfl⟩
      clear hb10 hwg
      refine hK.out _ _ (KS) (fun hHeld => ?_)
      clear hK K 
      try simp only [Act.put, List.getElem_toArray, List.getElem_cons_zero, List.getElem_cons_succ, List.setIfInBounds_toArray, List.set_cons_zero, List.set_cons_succ]
      refine wpAnyL_next 13 (by kernel_rfl) rfl (fun K hK => ?_)
      go_simp
      refine hK.out _ _ (hHeld) (fun hHeld => ?_)
      clear hK K 
      try simp only [Act.put, List.getElem_toArray, List.getElem_cons_zero, List.getElem_cons_succ, List.setIfInBounds_toArray, List.set_cons_zero, List.set_cons_succ]
      refine wpAnyL_take (i := 14) (v := .pointer (some ⟨B, 0, none⟩)) rfl (by kernel_rfl) (fun _ _ _ h => h) (Or.inl ⟨by rfl, ?_⟩) hHeld ?_
      · intro w' hSw
        go_simp <;> rfl
      try simp only [Act.put, List.getElem_toArray, List.getElem_cons_zero, List.getElem_cons_succ, List.setIfInBounds_toArray, List.set_cons_zero, List.set_cons_succ]
      refine wpAnyL_last 15 (by kernel_rfl) rfl rfl (fun K hK => ?_)
      go_simp
      rw [hW3.out]
      refine hK.out _ _ ?_
      clear hK K
      refine wpAnyL_done (by kernel_rfl) ?_ _
      have e10 := hy10.out
      subst e10
      clear hHeld hW3 f1 f2 g10 o10 HK10 hy10 KS
      have HF : Hid (LkStep w W3 lo B l ⟨l.given ++ [⟨g.tx, g.res, m⟩], l.waits, a10, c10, l.aW, l.cW⟩) := hst
      clear hst HK
      go_wp2_with fail
      go_end0
      exact ⟨⟨_, rfl⟩, ⟨l.given ++ [⟨g.tx, g.res, m⟩], l.waits, a10, c10, l.aW, l.cW⟩, ⟨HR.out.symm, rfl⟩, HF.out⟩
end Go.Proofs.YtekljhabjkmhpaaDoor

/- The walk of spec.l9Without; more of the frame of locks. -/
namespace Go.Proofs.YtekljhabjkmhpaaDoor
open Go.RowKit

theorem filter_stepG (p : GrantV → Bool) (ls : List GrantV) (k : Nat) (h : k < ls.length) : (ls.take (k + 1)).filter p = if p (ls.getD k zeroG) = true then (ls.take k).filter p ++ [ls.getD k zeroG] else (ls.take k).filter p := by
  rw [take_step ls zeroG k h, List.filter_append]
  by_cases hp : p (ls.getD k zeroG) = true
  · rw [if_pos hp, List.filter_cons_of_pos hp]; rfl
  · rw [if_neg hp, List.filter_cons_of_neg hp]; simp
theorem ownG_lit0 (w : World) : OwnG (w.alloc (.cells #[] 37)) w.heap.size (w.heap.size + 1) (some ⟨w.heap.size, 0, none⟩) 0 [] :=
  ⟨World.ownsRow_lit w #[] 0 (Nat.le_refl _) (by simp [maxLen]) rfl, by simp, fun k hk => by cases hk; simp⟩
theorem LkAt.touch {w w' : World} {lo B : Nat} {l : LocksA} {bl : List Nat} (h : LkAt w lo B l) (ht : Touch bl w w') (hB : B ∉ bl) (hd : ∀ k ∈ l.blocks, k ∉ bl) : LkAt w' lo B l :=
  ⟨h.box.touch ht hB, (h.own.touch ht hd).widen (Nat.le_refl _) ht.size (Nat.le_refl _), h.off⟩
/-- What another row of the call becomes does not touch them. -/
theorem LkStep.grown {w w1 w2 : World} {lo B : Nat} {l l1 : LocksA} {r : Option Nat} (h : LkStep w w1 lo B l l1) (hg : w1.grownBy w2 r) (hr : ∀ k, r = some k → w.heap.size ≤ k ∧ k ≠ B ∧ k ∉ l1.blocks) : LkStep w w2 lo B l l1 := by
  refine ⟨h.now.touch (bl := r.toList) (Touch.of_grown hg (fun k hk => Option.mem_toList.2 hk)) (fun hm => (hr B (Option.mem_toList.1 hm)).2.1 rfl) (fun k hk hm => (hr k (Option.mem_toList.1 hm)).2.2 hk), ?_, h.fresh⟩
  refine ⟨hg.os.trans h.touch.os, hg.tape.trans h.touch.tape, hg.output.trans h.touch.output, Nat.le_trans h.touch.size hg.size, fun k hk hn => ?_⟩
  rw [hg.block k (Nat.lt_of_lt_of_le hk h.touch.size) (fun e => by have := (hr k e.symm).1; omega)]
  exact h.touch.block k hk hn

set_option maxHeartbeats 2000000 in
set_option maxRecDepth 100000 in
theorem l9Without_any (ls : List GrantV) (a : Option Addr) (c : Nat) (tx : Int) (w : World) (hr : ReadsG w a ls) (hl : ls.length ≤ 1000) :
    Calls Tryd.prog 69 #[.slice a ls.length c, .int .i64 tx] w fun e w' => ∃ a' c', e = .returned (.slice a' (ls.filter (fun g => g.tx != tx)).length c') ∧ OwnG w' w.heap.size w'.heap.size a' c' (ls.filter (fun g => g.tx != tx)) ∧ Below w.heap.size w w' := by
  have HCG : Hid (∀ u, Below w.heap.size w u → ∀ k, k < ls.length → ∃ b off, a = some ⟨b, off, none⟩ ∧ u.cell? ⟨b, off + k * 3, none⟩ = some (.int .i64 (ls.getD k zeroG).tx) ∧ u.cell? ⟨b, off + k * 3 + 1, none⟩ = some (.int .i64 (ls.getD k zeroG).res) ∧ u.cell? ⟨b, off + k * 3 + 2, none⟩ = some (.int .i64 (ls.getD k zeroG).mode)) := fun u h k hk => by
    obtain ⟨b, off, ha, hc⟩ := (hr.below h) (by intro e; rw [e] at hk; simp at hk)
    exact ⟨b, off, ha, hc k hk⟩
  have HS0 : Hid (OwnG (w.alloc (.cells #[] 37)) w.heap.size (w.alloc (.cells #[] 37)).heap.size (some ⟨w.heap.size, 0, none⟩) 0 [] ∧ Below w.heap.size w (w.alloc (.cells #[] 37))) := ⟨(ownG_lit0 w).widen (Nat.le_refl _) (by simp) (Nat.le_refl _), (Below.refl _ _).alloc (Nat.le_refl _) _⟩
  clear hr
  go_enter Tryd.func69, Tryd.ntmps69
  go_wp2_with fail
  go_loopw [5, 6] (fun o i wr => ∃ (j : Nat) (a' : Option Addr) (c' : Nat) (L : List GrantV), j ≤ ls.length ∧ i = .int .i64 j ∧ o = .slice a' L.length c' ∧ Hid (L = (ls.take j).filter (fun g => g.tx != tx)) ∧ L.length ≤ j ∧ OwnG wr w.heap.size wr.heap.size a' c' L ∧ Below w.heap.size w wr) (fun _ i _ => ls.length - (intOf i).toNat)
  case atStart => exact ⟨0, _, _, [], Nat.zero_le _, rfl, rfl, rfl, Nat.zero_le _, HS0.out.1, HS0.out.2⟩
  case round =>
    obtain ⟨j, a', c', L, hj, rfl, rfl, hL, hLj, ho, hbl⟩ := hrel
    have hls := hbl.size
    clear HS0
    by_cases hlt : j < ls.length
    · obtain ⟨b, off, rfl, d0, d1, d2⟩ := HCG.out wr hbl j hlt
      have HST : Hid (_ = _) := filter_stepG (fun g : GrantV => g.tx != tx) ls j hlt
      clear HCG
      generalize ls.getD j zeroG = z at *
      by_cases q : z.tx = tx
      · have HR : Hid (L = (ls.take (j + 1)).filter (fun g => g.tx != tx)) := by rw [Hid, HST.out, if_neg (by simp [q])]; exact hL.out
        have qb : (z.tx != tx) = false := by simp [q]
        clear hL HST q
        go_wp2_with fail
        go_roundw
        case rel => exact ⟨j + 1, a', c', L, by omega, by go_num, rfl, HR.out, by omega, ho, hbl⟩
        case measure => simp [intOf]; omega
      · have HR : Hid (L ++ [z] = (ls.take (j + 1)).filter (fun g => g.tx != tx)) := by rw [Hid, HST.out, if_pos (by simp [q]), ← hL.out]
        have qb : (z.tx != tx) = true := by simp [q]
        clear hL HST q
        have ho2 := ho.below ((Below.refl _ _).alloc (Nat.le_refl _) (.cells #[.int .i64 z.tx, .int .i64 z.res, .int .i64 z.mode] 37))
        go_wp2_with (at_builtin; refine append_grants rfl _ _ rfl w.heap.size wr.heap.size a' c' L rfl ho2 _ _ [z] rfl (readsG_one wr z _) (fun h => by cases h) (by simp; omega) (by simp; omega) ?_; intro a3 c3 y3 w3 hy3 ho3 hg3)
        go_roundw
        case rel => exact ⟨j + 1, a3, c3, y3, by omega, by go_num, rfl, by rw [Hid, hy3.out]; exact HR.out, by rw [hy3.out]; simp; omega, ho3, below_append hbl hg3 (fun k hk => (ho.lt k hk).1) hls⟩
        case measure => simp [intOf]; omega
    · have HR : Hid (L = ls.filter (fun g => g.tx != tx)) := by
        have e := hL.out
        rw [List.take_of_length_le (by omega)] at e
        exact e
      clear hL HCG
      go_wp2_with fail
      go_ret
      have e := HR.out
      subst e
      exact ⟨a', c', rfl, ho, hbl⟩
end Go.Proofs.YtekljhabjkmhpaaDoor

/- The walk of (*impl.Locks).wouldHave. -/
namespace Go.Proofs.YtekljhabjkmhpaaDoor
open Go.RowKit

set_option maxHeartbeats 4000000 in
set_option maxRecDepth 100000 in
theorem wouldHave_any (B : Nat) (G : List GrantV) (aG : Option Addr) (cG : Nat) (g : GrantV) (w : World) (hT : TabBoth w) (hB : w.cell? ⟨B, 0, none⟩ = some (.slice aG G.length cG)) (hG : ReadsG w aG G) (hl : G.length ≤ 1099511627776) :
    Calls Tryd.prog 59 #[.pointer (some ⟨B, 0, none⟩), .agg #[.int .i64 g.tx, .int .i64 g.res, .int .i64 g.mode]] w fun e w' => e = .returned (.tuple #[.agg #[.int .i64 g.tx, .int .i64 g.res, .int .i64 (wouldZ G g)], .int .i64 (placeZ (atB g.tx g.res) G)]) ∧ Below w.heap.size w w' := by
  have hBl : B < w.heap.size := block_lt hB
  obtain ⟨W, hW, b0, b1, hbW, hsW⟩ := boxes2 w [.int .i64 g.tx, .int .i64 g.res, .int .i64 g.mode] [.int .i64 0, .int .i64 0, .int .i64 0] 37 37
  have hs0 := b0.lt
  have hs1 := b1.lt
  have HK : Hid (∀ u, Below W.heap.size W u → u.cell? ⟨B, 0, none⟩ = some (.slice aG G.length cG) ∧ (u.cell? ⟨w.heap.size, 0, none⟩ = some (.int .i64 g.tx) ∧ u.cell? ⟨w.heap.size, 1, none⟩ = some (.int .i64 g.res) ∧ u.cell? ⟨w.heap.size, 2, none⟩ = some (.int .i64 g.mode))) := fun u h =>
    ⟨((hbW.trans (h.mono hbW.size)).cell hBl).trans hB, (b0.below h hs0).cell 0 _ rfl, (b0.below h hs0).cell 1 _ rfl, (b0.below h hs0).cell 2 _ rfl⟩
  have HC : Hid (∀ u, Below W.heap.size W u → Calls Tryd.prog 45 #[.slice aG G.length cG, .int .i64 g.tx, .int .i64 g.res] u fun e w' => e = .returned (.int .i64 (placeZ (atB g.tx g.res) G)) ∧ Below u.heap.size u w') := fun u h => placeOf_any aG cG G g.tx g.res u ((hG.below hbW).below h) hl
  have HD : Hid (∀ u, Below W.heap.size W u → ∀ k, k < G.length → ∃ b off, aG = some ⟨b, off, none⟩ ∧ u.cell? ⟨b, off + k * 3 + 2, none⟩ = some (.int .i64 (G.getD k zeroG).mode)) := fun u h k hk => by
    obtain ⟨b, off, ha, hc⟩ := ((hG.below hbW).below h) (by intro e; rw [e] at hk; simp at hk)
    exact ⟨b, off, ha, (hc k hk).2.2⟩
  have HTB : Hid (∀ u, Below W.heap.size W u → TabBoth u) := fun u h => (hT.keep hbW).keep h
  have HW1 : Hid (∀ k : Nat, placeZ (atB g.tx g.res) G = k → k < G.length ∧ wouldZ G g = bothZ g.mode (G.getD k zeroG).mode) := fun k e => by
    refine ⟨(placeZ_at e zeroG).1, ?_⟩
    unfold wouldZ
    rw [e, if_pos (by omega), Int.toNat_natCast]
  have HW2 : Hid (¬ 0 ≤ placeZ (atB g.tx g.res) G → wouldZ G g = g.mode) := fun h => by unfold wouldZ; rw [if_neg h]
  have HNN : Hid (0 ≤ placeZ (atB g.tx g.res) G → ∃ k : Nat, placeZ (atB g.tx g.res) G = k) := fun h => by
    obtain ⟨k, _, e⟩ := placeZ_lt h
    exact ⟨k, e⟩
  have HBX : Hid (∀ u, Below W.heap.size W u → Box u w.heap.size [.int .i64 g.tx, .int .i64 g.res, .int .i64 g.mode] 37 ∧ Box u (w.heap.size + 1) [.int .i64 0, .int .i64 0, .int .i64 0] 37) := fun u h => ⟨b0.below h hs0, b1.below h hs1⟩
  have HE : Hid (∀ u, Below W.heap.size W u → Below w.heap.size w u) := fun u h => hbW.trans (h.mono hbW.size)
  have hws : w.heap.size + 2 ≤ W.heap.size := Nat.le_of_eq hsW.symm
  clear b0 b1 hbW hsW hB hG hT
  go_enter Tryd.func59, Tryd.ntmps59
  go_upto_region 1 with fail
  rw [hW.out]
  clear hW
  have D0 : Below W.heap.size W W.drew := (Below.refl _ _).drew
  refine wp_region_held_drew (S := fun u => u.cell? ⟨B, 0, none⟩ = some (.slice aG G.length cG) ∧ (u.cell? ⟨w.heap.size, 0, none⟩ = some (.int .i64 g.tx) ∧ u.cell? ⟨w.heap.size, 1, none⟩ = some (.int .i64 g.res) ∧ u.cell? ⟨w.heap.size, 2, none⟩ = some (.int .i64 g.mode))) (by kernel_rfl) (HK.out _ D0) (fun hHeld => ?_)
  generalize W.drew = d0 at *
  refine wpAnyH_take (i := 0) (v := .pointer (some ⟨B, 0, none⟩)) rfl (by kernel_rfl) (by kernel_rfl) (by kernel_rfl) (fun _ _ _ h => h) (Or.inl ⟨by rfl, ?_⟩) hHeld ?_
  · intro w' hSw
    go_simp <;> rfl
  try simp only [Act.put, List.getElem_toArray, List.getElem_cons_zero, List.setIfInBounds_toArray, List.set_cons_zero, List.set_cons_succ]
  refine wpAnyH_take (i := 1) (v := .pointer (some ⟨B, 0, none⟩)) rfl (by kernel_rfl) (by kernel_rfl) (by kernel_rfl) (fun _ _ _ h => h) (Or.inl ⟨by rfl, ?_⟩) hHeld ?_
  · intro w' hSw
    go_simp <;> rfl
  try simp only [Act.put, List.getElem_toArray, List.getElem_cons_zero, List.getElem_cons_succ, List.setIfInBounds_toArray, List.set_cons_zero, List.set_cons_succ]
  refine wpAnyH_take (i := 2) (v := .pointer (some ⟨B, 0, none⟩)) rfl (by kernel_rfl) (by kernel_rfl) (by kernel_rfl) (fun _ _ _ h => h) (Or.inl ⟨by rfl, ?_⟩) hHeld ?_
  · intro w' hSw
    go_simp <;> rfl
  try simp only [Act.put, List.getElem_toArray, List.getElem_cons_zero, List.getElem_cons_succ, List.setIfInBounds_toArray, List.set_cons_zero, List.set_cons_succ]
  refine wpAnyH_take (i := 3) (v := .slice aG G.length cG) rfl (by kernel_rfl) (by kernel_rfl) (by kernel_rfl) (fun _ _ _ h => h) (Or.inl ⟨by rfl, ?_⟩) hHeld ?_
  · intro w' hSw
    have hx := hSw.1
    go_simp <;> rfl
  try simp only [Act.put, List.getElem_toArray, List.getElem_cons_zero, List.getElem_cons_succ, List.setIfInBounds_toArray, List.set_cons_zero, List.set_cons_succ]
  refine wpAnyH_take (i := 4) (v := .pointer (some ⟨w.heap.size, 0, none⟩)) rfl (by kernel_rfl) (by kernel_rfl) (by kernel_rfl) (fun _ _ _ h => h) (Or.inl ⟨by rfl, ?_⟩) hHeld ?_
  · intro w' hSw
    go_simp <;> rfl
  try simp only [Act.put, List.getElem_toArray, List.getElem_cons_zero, List.getElem_cons_succ, List.setIfInBounds_toArray, List.set_cons_zero, List.set_cons_succ]
  refine wpAnyH_take (i := 5) (v := .int .i64 g.tx) rfl (by kernel_rfl) (by kernel_rfl) (by kernel_rfl) (fun _ _ _ h => h) (Or.inl ⟨by rfl, ?_⟩) hHeld ?_
  · intro w' hSw
    have hx := hSw.2.1
    go_simp <;> rfl
  try simp only [Act.put, List.getElem_toArray, List.getElem_cons_zero, List.getElem_cons_succ, List.setIfInBounds_toArray, List.set_cons_zero, List.set_cons_succ]
  refine wpAnyH_take (i := 6) (v := .pointer (some ⟨w.heap.size, 1, none⟩)) rfl (by kernel_rfl) (by kernel_rfl) (by kernel_rfl) (fun _ _ _ h => h) (Or.inl ⟨by rfl, ?_⟩) hHeld ?_
  · intro w' hSw
    go_simp <;> rfl
  try simp only [Act.put, List.getElem_toArray, List.getElem_cons_zero, List.getElem_cons_succ, List.setIfInBounds_toArray, List.set_cons_zero, List.set_cons_succ]
  refine wpAnyH_take (i := 7) (v := .int .i64 g.res) rfl (by kernel_rfl) (by kernel_rfl) (by kernel_rfl) (fun _ _ _ h => h) (Or.inl ⟨by rfl, ?_⟩) hHeld ?_
  · intro w' hSw
    have hx := hSw.2.2.1
    go_simp <;> rfl
  try simp only [Act.put, List.getElem_toArray, List.getElem_cons_zero, List.getElem_cons_succ, List.setIfInBounds_toArray, List.set_cons_zero, List.set_cons_succ]
  refine wpAnyH_ready (rs := [8]) (by kernel_rfl) (by simp) ?_
  refine AllReadyH.cons rfl (fun K hK => ?_) AllReadyH.nil
  go_simp
  refine (HC.out _ D0).mono ?_
  rintro r d1 ⟨rfl, hb1⟩
  have D1 : Below W.heap.size W d1 := D0.trans (hb1.mono D0.size)
  refine hK.out _ _ (HK.out _ D1) (fun hHeld => ?_)
  clear hK K hb1
  try simp only [Act.put, List.getElem_toArray, List.getElem_cons_zero, List.getElem_cons_succ, List.setIfInBounds_toArray, List.set_cons_zero, List.set_cons_succ]
  refine wpAnyH_take (i := 9) (v := .int .i64 (placeZ (atB g.tx g.res) G)) rfl (by kernel_rfl) (by kernel_rfl) (by kernel_rfl) (fun _ _ _ h => h) (Or.inl ⟨by rfl, ?_⟩) hHeld ?_
  · intro w' hSw
    go_simp <;> rfl
  try simp only [Act.put, List.getElem_toArray, List.getElem_cons_zero, List.getElem_cons_succ, List.setIfInBounds_toArray, List.set_cons_zero, List.set_cons_succ]
  refine wpAnyH_done (by kernel_rfl) ?_ _
  clear hHeld HC
  obtain ⟨bA, bR⟩ := HBX.out _ D1
  have hd1 : w.heap.size + 1 < d1.heap.size := bR.lt
  by_cases hp : 0 ≤ placeZ (atB g.tx g.res) G
  · obtain ⟨k, hk⟩ := HNN.out hp
    obtain ⟨hkl, hwz⟩ := HW1.out k hk
    have HWZ : Hid (wouldZ G g = bothZ g.mode (G.getD k zeroG).mode ∧ placeZ (atB g.tx g.res) G = k) := ⟨hwz, hk⟩
    rw [hk]
    obtain ⟨b, off, rfl, _⟩ := HD.out _ D1 k hkl
    have hk0 : (0 : Int) ≤ (k : Int) := by omega
    have HK2 : Hid (∀ u, Below W.heap.size W u → (u.cell? ⟨B, 0, none⟩ = some (.slice (some ⟨b, off, none⟩) G.length cG) ∧ u.cell? ⟨b, off + k * 3 + 2, none⟩ = some (.int .i64 (G.getD k zeroG).mode)) ∧ u.cell? ⟨w.heap.size, 2, none⟩ = some (.int .i64 g.mode)) := fun u h => by
      obtain ⟨b', off', e, hc⟩ := HD.out u h k hkl
      cases e
      exact ⟨⟨(HK.out u h).1, hc⟩, (HK.out u h).2.2.2⟩
    have hkI : (k : Int) < (G.length : Int) := by omega
    clear hp hk hwz HW1 HW2 HNN HD HK
    generalize (G.getD k zeroG).mode = hm at *
    go_upto_region 3 with fail
    have D2 : Below W.heap.size W d1.drew := D1.drew
    have HD2 : Hid (d1.drew.heap.size = d1.heap.size) := rfl
    refine wp_region_late (· == 12) (S := fun u => (u.cell? ⟨B, 0, none⟩ = some (.slice (some ⟨b, off, none⟩) G.length cG) ∧ u.cell? ⟨b, off + k * 3 + 2, none⟩ = some (.int .i64 hm)) ∧ u.cell? ⟨w.heap.size, 2, none⟩ = some (.int .i64 g.mode)) (by kernel_rfl) (HK2.out _ D2) (fun hHeld => ?_)
    generalize d1.drew = d2 at *
    refine wpAnyL_take (i := 0) (v := .pointer (some ⟨w.heap.size, 2, none⟩)) rfl (by kernel_rfl) (fun _ _ _ h => h) (Or.inl ⟨by rfl, ?_⟩) hHeld ?_
    · intro w' hSw
      go_simp <;> rfl
    try simp only [Act.put, List.getElem_toArray, List.getElem_cons_zero, List.setIfInBounds_toArray, List.set_cons_zero, List.set_cons_succ]
    refine wpAnyL_take (i := 1) (v := .int .i64 g.mode) rfl (by kernel_rfl) (fun _ _ _ h => h) (Or.inl ⟨by rfl, ?_⟩) hHeld ?_
    · intro w' hSw
      have hx := hSw.2
      go_simp <;> rfl
    try simp only [Act.put, List.getElem_toArray, List.getElem_cons_zero, List.getElem_cons_succ, List.setIfInBounds_toArray, List.set_cons_zero, List.set_cons_succ]
    refine wpAnyL_take (i := 2) (v := .pointer (some ⟨B, 0, none⟩)) rfl (by kernel_rfl) (fun _ _ _ h => h) (Or.inl ⟨by rfl, ?_⟩) hHeld ?_
    · intro w' hSw
      go_simp <;> rfl
    try simp only [Act.put, List.getElem_toArray, List.getElem_cons_zero, List.getElem_cons_succ, List.setIfInBounds_toArray, List.set_cons_zero, List.set_cons_succ]
    refine wpAnyL_take (i := 3) (v := .pointer (some ⟨B, 0, none⟩)) rfl (by kernel_rfl) (fun _ _ _ h => h) (Or.inl ⟨by rfl, ?_⟩) hHeld ?_
    · intro w' hSw
      go_simp <;> rfl
    try simp only [Act.put, List.getElem_toArray, List.getElem_cons_zero, List.getElem_cons_succ, List.setIfInBounds_toArray, List.set_cons_zero, List.set_cons_succ]
    refine wpAnyL_take (i := 4) (v := .pointer (some ⟨B, 0, none⟩)) rfl (by kernel_rfl) (fun _ _ _ h => h) (Or.inl ⟨by rfl, ?_⟩) hHeld ?_
    · intro w' hSw
      go_simp <;> rfl
    try simp only [Act.put, List.getElem_toArray, List.getElem_cons_zero, List.getElem_cons_succ, List.setIfInBounds_toArray, List.set_cons_zero, List.set_cons_succ]
    refine wpAnyL_take (i := 5) (v := .slice (some ⟨b, off, none⟩) G.length cG) rfl (by kernel_rfl) (fun _ _ _ h => h) (Or.inl ⟨by rfl, ?_⟩) hHeld ?_
    · intro w' hSw
      have hx := hSw.1.1
      go_simp <;> rfl
    try simp only [Act.put, List.getElem_toArray, List.getElem_cons_zero, List.getElem_cons_succ, List.setIfInBounds_toArray, List.set_cons_zero, List.set_cons_succ]
    refine wpAnyL_take (i := 6) (v := .int .i64 (k : Int)) rfl (by kernel_rfl) (fun _ _ _ h => h) (Or.inl ⟨by rfl, ?_⟩) hHeld ?_
    · intro w' hSw
      go_simp <;> rfl
    try simp only [Act.put, List.getElem_toArray, List.getElem_cons_zero, List.getElem_cons_succ, List.setIfInBounds_toArray, List.set_cons_zero, List.set_cons_succ]
    refine wpAnyL_take (i := 7) (v := .pointer (some ⟨b, off + k * 3, none⟩)) rfl (by kernel_rfl) (fun _ _ _ h => h) (Or.inl ⟨by rfl, ?_⟩) hHeld ?_
    · intro w' hSw
      go_simp <;> rfl
    try simp only [Act.put, List.getElem_toArray, List.getElem_cons_zero, List.getElem_cons_succ, List.setIfInBounds_toArray, List.set_cons_zero, List.set_cons_succ]
    refine wpAnyL_take (i := 8) (v := .pointer (some ⟨b, off + k * 3 + 2, none⟩)) rfl (by kernel_rfl) (fun _ _ _ h => h) (Or.inl ⟨by rfl, ?_⟩) hHeld ?_
    · intro w' hSw
      go_simp <;> rfl
    try simp only [Act.put, List.getElem_toArray, List.getElem_cons_zero, List.getElem_cons_succ, List.setIfInBounds_toArray, List.set_cons_zero, List.set_cons_succ]
    refine wpAnyL_take (i := 9) (v := .int .i64 hm) rfl (by kernel_rfl) (fun _ _ _ h => h) (Or.inl ⟨by rfl, ?_⟩) hHeld ?_
    · intro w' hSw
      have hx := hSw.1.2
      go_simp <;> rfl
    try simp only [Act.put, List.getElem_toArray, List.getElem_cons_zero, List.getElem_cons_succ, List.setIfInBounds_toArray, List.set_cons_zero, List.set_cons_succ]
    refine wpAnyL_next 10 (by kernel_rfl) rfl (fun K hK => ?_)
    go_simp
    refine (implBoth_any g.mode hm d2 (HTB.out _ D2)).mono ?_
    rintro r d3 ⟨rfl, rfl⟩
    refine hK.out _ _ (HK2.out _ D2) (fun hHeld => ?_)
    clear hK K 
    try simp only [Act.put, List.getElem_toArray, List.getElem_cons_zero, List.getElem_cons_succ, List.setIfInBounds_toArray, List.set_cons_zero, List.set_cons_succ]
    refine wpAnyL_take (i := 11) (v := .pointer (some ⟨w.heap.size, 2, none⟩)) rfl (by kernel_rfl) (fun _ _ _ h => h) (Or.inl ⟨by rfl, ?_⟩) hHeld ?_
    · intro w' hSw
      go_simp <;> rfl
    try simp only [Act.put, List.getElem_toArray, List.getElem_cons_zero, List.getElem_cons_succ, List.setIfInBounds_toArray, List.set_cons_zero, List.set_cons_succ]
    obtain ⟨bA, bR⟩ := HBX.out _ D2
    have f2 := bA.frozen 2
    have x2 := bA.cell 2 _ rfl
    obtain ⟨W4, hW4, bA4, hw4, hs4⟩ := box_set bA 2 (.int .i64 (bothZ g.mode hm))
    have bR4 := bR.within hw4 (by omega)
    simp only [List.set] at bA4
    refine wpAnyL_last 12 (by kernel_rfl) rfl rfl (fun K hK => ?_)
    go_simp
    rw [hW4.out]
    refine hK.out _ _ ?_
    clear hK K
    refine wpAnyL_done (by kernel_rfl) ?_ _
    clear hHeld hW4 f2 x2
    obtain ⟨y0, y1, y2, _⟩ := bA4.three
    obtain ⟨z0, z1, z2, g0, g1, g2⟩ := bR4.three
    obtain ⟨W5, hW5, bR5, hw5, hs5⟩ := box3_fill bR4 (.int .i64 g.tx) (.int .i64 g.res) (.int .i64 (bothZ g.mode hm))
    have HF : Hid (Below w.heap.size w W5) := by
      have hd2 := D2.size
      have h4 : Below w.heap.size d3 W4 := hw4.below (Nat.le_refl _) (by omega)
      have h5 : Below w.heap.size W4 W5 := hw5.below (by omega) (by omega)
      exact ((HE.out _ D2).trans h4).trans h5
    obtain ⟨r0, r1, r2, _⟩ := bR5.three
    clear hw4 hw5 hs4 hs5 bA4 bR4
    go_wp2_with fail
    rw [hW5.out]
    refine bodyPost_ret (v := .tuple #[.agg #[.int .i64 g.tx, .int .i64 g.res, .int .i64 (bothZ g.mode hm)], .int .i64 (k : Int)]) (by simp [results, Tryd.results59, go_sem, r0, r1, r2]) rfl ⟨by rw [HWZ.out.1, HWZ.out.2], HF.out⟩
  · have HWZ : Hid (wouldZ G g = g.mode) := HW2.out hp
    clear HW1 HW2 HNN HD HK
    obtain ⟨y0, y1, y2, _⟩ := bA.three
    obtain ⟨z0, z1, z2, g0, g1, g2⟩ := bR.three
    obtain ⟨W5, hW5, bR5, hw5, hs5⟩ := box3_fill bR (.int .i64 g.tx) (.int .i64 g.res) (.int .i64 g.mode)
    have HF : Hid (Below w.heap.size w W5) := (HE.out _ D1).trans (hw5.below (by omega) (by omega))
    obtain ⟨r0, r1, r2, _⟩ := bR5.three
    clear hw5 hs5 bA bR
    go_wp2_with fail
    rw [hW5.out]
    refine bodyPost_ret (v := .tuple #[.agg #[.int .i64 g.tx, .int .i64 g.res, .int .i64 g.mode], .int .i64 (placeZ (atB g.tx g.res) G)]) (by simp [results, Tryd.results59, go_sem, r0, r1, r2]) rfl ⟨by rw [HWZ.out], HF.out⟩
end Go.Proofs.YtekljhabjkmhpaaDoor
