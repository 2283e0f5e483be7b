/- Several texts in one, in their order. -/
import Derived.Test.YtajcffchopcamaaGreatDoorPFnPathsx18
import Derived.Test.YtajcffchopcamaaGreatDoorPFnPathsx14
import Derived.Deep.Cut
import Derived.Test.YtajcffchopcamaaGreatDoorPFnPathsx17
import Derived.Test.YtajcffchopcamaaGreatDoorPFnPathsx6
import Derived.Test.YtajcffchopcamaaGreatDoorPFnPathsx7
import Derived.WalkKit
import Derived.Laws.Strings
/- The walks of spec.l11Draw, DrawHeap. -/
namespace Go.Proofs.YtajcffchopcamaaGreatDoor
open Go.RowKit
attribute [local go_sem ↓] Go.wp_at_zero Go.wp_at_succ

theorem heap_more {ts : List SlotA} {n : Nat} (hl : ts.length = n) (hn : n < 32) (q : SlotA) : ts ++ List.replicate (32 - n) zeroS = ts ++ zeroS :: List.replicate (32 - (n + 1)) zeroS ∧ (ts ++ q :: List.replicate (32 - (n + 1)) zeroS) = (ts ++ [q]) ++ List.replicate (32 - (n + 1)) zeroS := by
  refine ⟨?_, by simp⟩
  rw [show 32 - n = (32 - (n + 1)) + 1 by omega, List.replicate_succ]
theorem heapOk_snoc {ts : List SlotA} (h : HeapOk ts) (hl : 1 ≤ ts.length) {q : SlotA} (hq : slotB q.v = true) : HeapOk (ts ++ [q]) := by
  refine ⟨?_, fun t ht => ?_⟩
  · cases ts with
    | nil => simp at hl
    | cons t r => exact h.1
  · rcases List.mem_append.1 ht with ht | ht
    · exact h.2 t ht
    · rw [List.mem_singleton.1 ht]; exact hq
theorem own_blockH {w w' : World} {pI : Nat} {y : Int} (h : OwnI w pI (pI + 1) (some ⟨pI, 0, none⟩) 1 [y]) (hb : w'.heap[pI]? = w.heap[pI]?) (hs : pI + 1 ≤ w'.heap.size) : OwnI w' pI (pI + 1) (some ⟨pI, 0, none⟩) 1 [y] := ⟨ownsRow_block h.1 (fun k hk => by cases hk; exact hb), hs, h.2.2⟩
set_option maxHeartbeats 8000000 in
set_option maxRecDepth 100000 in
theorem l11Draw_any (B : Nat) (zs : List Int) (w : World) (hc : CurAt w B zs) (hl : zs.length ≤ 70368744177664) :
    Calls Tryz.prog 27 #[.pointer (some ⟨B, 0, none⟩)] w fun e w' => ∃ g ts, e = .returned (.slice (some ⟨g, 0, none⟩) 32 32) ∧ Hid (ts.length = 32 ∧ HeapOk ts) ∧ OwnVw w' w.heap.size w'.heap.size (some ⟨g, 0, none⟩) 32 ts ∧ CurAt w' B zs ∧ w.grownBy w' (some B) := by
  have hB := hc.lt
  obtain ⟨i0, hi, hz0, hz1, hz2⟩ := info_parts Tryz.infoSlotV
  have HJ : Hid ((Tryz.prog.info? 41).map (·.size) = some 4) := by rw [Hid]; kernel_rfl
  go_enter Tryz.func27, Tryz.ntmps27
  go_upto_region 2 with (first | (at_make; refine wpList_make_full _ rfl _ _ 24 rfl w.heap.size 41 i0 (.agg zeroS.cells.toArray) 4 Tryz.underlying24 hi hz0 hz1 _ _ _ _ 32 rfl rfl rfl rfl (by rw [hz2]; omega) (by simp [maxLen]) (Nat.le_refl _) ?_; intro w0 hown0 hgrow0) | fail)
  have hb0 : Below w.heap.size w w0 := (Below.refl _ _).grown hgrow0 (Nat.le_refl _) (fun k h => by cases h)
  have ho : w0.ownsRow w.heap.size 41 4 (.slice (some ⟨w.heap.size, 0, none⟩) 32 32) 32 (cellsVw (List.replicate 32 zeroS)) := by
    rw [← zero_cellsVw]
    exact hown0
  have HO : Hid (OwnVw w0 w.heap.size w0.heap.size (some ⟨w.heap.size, 0, none⟩) 32 ([zeroS] ++ List.replicate (32 - 1) zeroS)) := own_zeroVw 32 ho (Nat.le_refl _) (ho.lt _ rfl).2
  have hc0 := hc.below hb0
  have hg0 : w.grownBy w0 (some B) := ⟨hb0.os, hb0.tape, hb0.output, hb0.size, fun k hk _ => hb0.block k hk⟩
  have HK0 : Hid (HeapOk [zeroS]) := ⟨rfl, fun t ht => by rw [List.mem_singleton.1 ht]; rfl⟩
  clear hown0 hgrow0 ho hb0 hc
  obtain ⟨g, hgE⟩ : ∃ g, Hid (w.heap.size = g) := ⟨_, rfl⟩
  rw [show (some (⟨w.heap.size, 0, none⟩ : Addr)) = some ⟨g, 0, none⟩ from by rw [hgE.out]] at HO
  rw [hgE.out]
  go_wp2_with fail
  go_loopw [4] (fun i wr => ∃ (n : Nat) (ts : List SlotA), 1 ≤ n ∧ n ≤ 32 ∧ i = .int .i64 n ∧ Hid (ts.length = n ∧ HeapOk ts ∧ OwnVw wr w.heap.size wr.heap.size (some ⟨g, 0, none⟩) 32 (ts ++ List.replicate (32 - n) zeroS)) ∧ CurAt wr B zs ∧ w.grownBy wr (some B)) (fun i _ => 32 - (RowKit.intOf i).toNat)
  case atStart => exact ⟨1, [zeroS], by omega, by omega, rfl, ⟨rfl, HK0.out, HO.out⟩, hc0, hg0⟩
  case round =>
    obtain ⟨n, ts, hn1, hn2, rfl, hI, hcr, hgr⟩ := hrel
    clear HO HK0 hc0 hg0
    by_cases hlt : n < 32
    · have hnI : (n : Int) < 32 := by omega
      have hsr := hgr.size
      have C := l1Once_any B zs 3 wr hcr hl (by omega)
      have HSK : Hid (∀ u, wr.grownBy u (some B) → OwnVw u w.heap.size wr.heap.size (some ⟨g, 0, none⟩) 32 (ts ++ zeroS :: List.replicate (32 - (n + 1)) zeroS)) := fun u hu => by
        have h1 := hI.out.2.2.touch (Touch.of_grown hu (bl := [B]) (fun k hk => by cases hk; simp)) (fun k hk hm => by
          have h2 := (hI.out.2.2.blocks_lt k hk).1
          rw [List.mem_singleton.1 hm] at h2
          omega)
        rw [(heap_more hI.out.1 hlt zeroS).1] at h1
        exact h1
      have HTS : Hid (ts.length = n ∧ HeapOk ts) := ⟨hI.out.1, hI.out.2.1⟩
      clear hI
      go_wp2_with fail
      refine C.mono ?_
      rintro e w1 ⟨b, rfl, hc1, hg1⟩
      clear C
      cases b with
      | true =>
        have HN : Hid ((ts ++ [zeroS]).length = n + 1 ∧ HeapOk (ts ++ [zeroS]) ∧ OwnVw w1 w.heap.size w1.heap.size (some ⟨g, 0, none⟩) 32 ((ts ++ [zeroS]) ++ List.replicate (32 - (n + 1)) zeroS)) := by
          have h1 := (HSK.out w1 hg1).widen (Nat.le_refl _) hg1.size (Nat.le_refl _)
          rw [(heap_more HTS.out.1 hlt zeroS).2] at h1
          exact ⟨by simp [HTS.out.1], heapOk_snoc HTS.out.2 (by rw [HTS.out.1]; exact hn1) rfl, h1⟩
        have hg2 := grownBy_trans hgr hg1
        clear HSK HTS hg1 hgr hcr
        go_wp2_with fail
        go_roundw
        case rel => exact ⟨n + 1, ts ++ [zeroS], by omega, by omega, by go_num, HN, hc1, hg2⟩
        case measure => simp [RowKit.intOf]; omega
      | false =>
        have hs1 := hg1.size
        go_wp2_with fail
        refine (l1Below_any B zs 3 w1 hc1 hl (by omega)).mono ?_
        rintro e w2 ⟨x, rfl, hx, hc2, hg2⟩
        have hx3 : (x : Int) < 3 := hx (by omega)
        have hs2 := hg2.size
        go_wp2_with fail
        refine (l1Below_any B zs 9 w2 hc2 hl (by omega)).mono ?_
        rintro e w3 ⟨y, rfl, hy, hc3, hg3⟩
        have hy9 : (y : Int) < 9 := hy (by omega)
        have hs3 := hg3.size
        have hg13 : wr.grownBy w3 (some B) := grownBy_trans (grownBy_trans hg1 hg2) hg3
        obtain ⟨V, hV, _, b2, hbV, hsV⟩ := boxes2 w3 [.int .i64 (y : Int)] [.int .i64 (1 + (x : Int)), .slice (some ⟨w3.heap.size, 0, none⟩) 1 1, .slice none 0 0] 3 39
        have hIn : OwnI V w3.heap.size (w3.heap.size + 1) (some ⟨w3.heap.size, 0, none⟩) 1 [(y : Int)] := by
          have := (ownI_lit1M w3 y).below ((Below.refl _ _).alloc (Nat.le_refl _) (.cells #[.int .i64 (1 + (x : Int)), .slice (some ⟨w3.heap.size, 0, none⟩) 1 1, .slice none 0 0] 39))
          rw [← hV.out]
          exact this
        have hgV : wr.grownBy V (some B) := grownBy_new (row := none) hg13 ⟨hbV.os, hbV.tape, hbV.output, hbV.size, fun k hk _ => hbV.block k hk⟩ (fun k e => by cases e)
        have hcV := hc3.below hbV
        have hOR : ObjR V (w3.heap.size + 2) (w3.heap.size + 1) (1 + (x : Int)) (.slice (some ⟨w3.heap.size, 0, none⟩) 1 1) none 0 [] := ⟨b2, ownI_nil _ _ _ (Nat.le_refl _), by omega⟩
        have hpI : wr.heap.size ≤ w3.heap.size := by omega
        have hBI : B < w3.heap.size := by have := hgr.size; omega
        clear hx hy hc1 hc2 hc3 hg1 hg2 hg3 hg13 b2 hbV hsV hcr hs1 hs2 hs3
        go_upto_region 7 with fail
        rw [hV.out]
        clear hV
        generalize w3.heap.size = pI at *
        have hkd1 : 1 ≤ 1 + (x : Int) := by omega
        have hkd3 : 1 + (x : Int) ≤ 3 := by omega
        generalize 1 + (x : Int) = kd at *
        go_wp2_with fail
        refine (l1Below_any B zs 4 V hcV hl (by omega)).mono ?_
        rintro e w4 ⟨kk, rfl, hkk, hc4, hg4⟩
        have hk4 : (kk : Int) < 4 := hkk (by omega)
        have hO4 := hOR.kept hg4 (by omega)
        have hI4 : OwnI w4 pI (pI + 1) (some ⟨pI, 0, none⟩) 1 [(y : Int)] := (hIn.kept hg4 (fun k hk e => by have := (hIn.lt k hk).1; cases e; omega)).widen (Nat.le_refl _) (Nat.le_refl _) (by have := hg4.size; have := hIn.2.1; omega)
        have hgw4 := grownBy_trans hgV hg4
        clear hkk hOR hIn hgV hcV hg4
        generalize wr = wo at *
        go_wp2_with fail
        go_loopw [6] (fun i wr => ∃ (k : Nat) (aR : Option Addr) (cR : Nat) (rs : List Int), i = .int .i64 k ∧ k ≤ 3 ∧ rs.length + k ≤ 3 ∧ ObjR wr (pI + 2) (pI + 1) kd (.slice (some ⟨pI, 0, none⟩) 1 1) aR cR rs ∧ OwnI wr pI (pI + 1) (some ⟨pI, 0, none⟩) 1 [(y : Int)] ∧ CurAt wr B zs ∧ wo.grownBy wr (some B) ∧ Hid (∀ z ∈ rs, 0 ≤ z ∧ z ≤ 31)) (fun i _ => (RowKit.intOf i).toNat)
        case atStart => exact ⟨kk, none, 0, [], rfl, by omega, by simp; omega, hO4, hI4, hc4, hgw4, fun z hz => by simp at hz⟩
        case round =>
          clear hO4 hI4 hc4 hgw4 hk4
          obtain ⟨k, aR, cR, rs, rfl, hk, hik, ho, hin, hcq, hgq, hrs⟩ := hrel
          cases k with
          | zero =>
            have hqO : (⟨⟨true, ⟨kd, [(y : Int)], rs⟩⟩, some ⟨pI, 0, none⟩, 1, aR, cR⟩ : SlotA).own wr wo.heap.size wr.heap.size := by
              refine ⟨hin.widen hpI (by have := hin.2.1; omega) (Nat.le_refl _), ho.own.widen (by omega) (Nat.le_refl _) (Nat.le_refl _), fun k hk e => ?_⟩
              have h1 := (ho.own.lt k e).1
              cases hk
              simp at h1
              omega
            have hsl : slotB (⟨⟨true, ⟨kd, [(y : Int)], rs⟩⟩, some ⟨pI, 0, none⟩, 1, aR, cR⟩ : SlotA).v = true := slotB_drawn kd y rs _ _ _ _ ⟨hkd1, hkd3⟩ (by omega) (by omega) hrs.out
            have hrow := HSK.out wr hgq
            have HT : Hid (wr.there g (n * 4) 4) := by
              have h1 : (ts ++ zeroS :: List.replicate (32 - (n + 1)) zeroS).length = 32 := by simp [HTS.out.1]; omega
              exact (row_slot (n := 32) (by have := hrow.row; rw [h1] at this; exact this) h1 n hlt).2
            have b0 := ho.box.cell 0 _ rfl
            have b1 := ho.box.cell 1 _ rfl
            have b2 := ho.box.cell 2 _ rfl
            generalize hq : (⟨⟨true, ⟨kd, [(y : Int)], rs⟩⟩, some ⟨pI, 0, none⟩, 1, aR, cR⟩ : SlotA) = q at hqO hsl
            obtain ⟨W, hW, hoW, htW, hsW⟩ := hrow.fill q hqO (Nat.le_refl _) hsr (Nat.le_refl _)
            rw [HTS.out.1] at hW
            have HN : Hid ((ts ++ [q]).length = n + 1 ∧ HeapOk (ts ++ [q]) ∧ OwnVw W w.heap.size W.heap.size (some ⟨g, 0, none⟩) 32 ((ts ++ [q]) ++ List.replicate (32 - (n + 1)) zeroS)) := by
              have h1 := hoW.widen (Nat.le_refl _) (show max wo.heap.size wr.heap.size ≤ W.heap.size by have := hgq.size; omega) (Nat.le_refl _)
              rw [(heap_more HTS.out.1 hlt q).2] at h1
              exact ⟨by simp [HTS.out.1], heapOk_snoc HTS.out.2 (by rw [HTS.out.1]; exact hn1) hsl, h1⟩
            have hgg : B < g := by have := hgE.out; omega
            have hgW : wr.grownBy W (some g) := ⟨htW.os, htW.tape, htW.output, htW.size, fun k hk hne => htW.block k hk (fun hm => hne (by rw [List.mem_singleton.1 hm]))⟩
            have hcW := hcq.kept hgW (fun k e => by cases e; exact hgg)
            have hgF : w.grownBy W (some B) := grownBy_new (grownBy_trans hgr hgq) hgW (fun k e => by cases e; have := hgE.out; omega)
            have HQC : Hid (q.cells.toArray = #[.bool true, .int .i64 kd, .slice (some ⟨pI, 0, none⟩) 1 1, .slice aR rs.length cR]) := by rw [Hid, ← hq]; rfl
            have HO1 := slot_oneV q
            clear hqO hsl hrow hoW htW hsW hgq hgr hcq HSK HTS hrs ho hin hq hgW
            go_wp2_with (first | (guard_target = wpList _ _ _ (Oper.mk none (Op.store _ (Operand.tmp 49) _) _ _ _ _ :: _) _ _; refine wpList_store_mid rfl 41 (.tmp 49) (.tmp 48) rfl g (n * 4) q.cells.toArray rfl (by rw [HQC.out]; rfl) HT.out HJ.out HO1 ?_) | fail)
            rw [hW.out]
            go_roundw
            case rel => exact ⟨n + 1, ts ++ [q], by omega, by omega, by go_num, HN, hcW, hgF⟩
            case measure => simp [RowKit.intOf]; omega
          | succ m =>
            have hkp : (0 : Int) < ((m + 1 : Nat) : Int) := by omega
            obtain ⟨c2, f2⟩ := ho.three
            have hBB : B < pI + 1 := by omega
            go_wp2_with fail
            have HBD : Hid (∀ x1 x2 : Nat, (x1 : Int) < 32 → (x2 : Int) < 32 → ∀ j, 0 ≤ [0, (n : Int), ((n : Int) + 1).tmod 32, (x1 : Int), (x2 : Int)].getD j 0 ∧ [0, (n : Int), ((n : Int) + 1).tmod 32, (x1 : Int), (x2 : Int)].getD j 0 ≤ 31) := fun x1 x2 h1 h2 j => by
              refine getD_rng (fun z hz => ?_) j
              rw [Int.tmod_eq_emod_of_nonneg (by omega)] at hz
              simp only [List.mem_cons, List.not_mem_nil, or_false] at hz
              omega
            refine wp_region_late (· == 16) (S := fun u => u.cell? ⟨pI + 1, 2, none⟩ = some (.slice aR rs.length cR)) (by kernel_rfl) c2 (fun hHeld => ?_)
            refine wpAnyL_take (i := 0) (v := .pointer (some ⟨pI + 1, 2, none⟩)) rfl (by kernel_rfl) (fun _ _ _ h => h) (Or.inl ⟨by rfl, ?_⟩) hHeld ?_
            · intro w' hSw
              go_simp <;> rfl
            try simp only [Act.put, List.getElem_toArray, List.getElem_cons_zero, List.setIfInBounds_toArray, List.set_cons_zero, List.set_cons_succ]
            refine wpAnyL_take (i := 1) (v := .slice aR rs.length cR) rfl (by kernel_rfl) (fun _ _ _ h => h) (Or.inl ⟨by rfl, ?_⟩) hHeld ?_
            · intro w' hSw
              go_simp <;> rfl
            try simp only [Act.put, List.getElem_toArray, List.getElem_cons_zero, List.getElem_cons_succ, List.setIfInBounds_toArray, List.set_cons_zero, List.set_cons_succ]
            refine wpAnyL_take (i := 2) (v := .pointer (some ⟨B, 0, none⟩)) rfl (by kernel_rfl) (fun _ _ _ h => h) (Or.inl ⟨by rfl, ?_⟩) hHeld ?_
            · intro w' hSw
              go_simp <;> rfl
            try simp only [Act.put, List.getElem_toArray, List.getElem_cons_zero, List.getElem_cons_succ, List.setIfInBounds_toArray, List.set_cons_zero, List.set_cons_succ]
            refine wpAnyL_take (i := 3) (v := .int .i64 (n : Int)) rfl (by kernel_rfl) (fun _ _ _ h => h) (Or.inl ⟨by rfl, ?_⟩) hHeld ?_
            · intro w' hSw
              go_simp <;> rfl
            try simp only [Act.put, List.getElem_toArray, List.getElem_cons_zero, List.getElem_cons_succ, List.setIfInBounds_toArray, List.set_cons_zero, List.set_cons_succ]
            refine wpAnyL_take (i := 4) (v := .int .i64 (n : Int)) rfl (by kernel_rfl) (fun _ _ _ h => h) (Or.inl ⟨by rfl, ?_⟩) hHeld ?_
            · intro w' hSw
              go_simp <;> rfl
            try simp only [Act.put, List.getElem_toArray, List.getElem_cons_zero, List.getElem_cons_succ, List.setIfInBounds_toArray, List.set_cons_zero, List.set_cons_succ]
            refine wpAnyL_take (i := 5) (v := .int .i64 ((n : Int) + 1)) rfl (by kernel_rfl) (fun _ _ _ h => h) (Or.inl ⟨by rfl, ?_⟩) hHeld ?_
            · intro w' hSw
              go_simp
              rw [IntKind.wrap_i64]
              omega
            try simp only [Act.put, List.getElem_toArray, List.getElem_cons_zero, List.getElem_cons_succ, List.setIfInBounds_toArray, List.set_cons_zero, List.set_cons_succ]
            refine wpAnyL_take (i := 6) (v := .int .i64 (((n : Int) + 1).tmod 32)) rfl (by kernel_rfl) (fun _ _ _ h => h) (Or.inl ⟨by rfl, ?_⟩) hHeld ?_
            · intro w' hSw
              go_simp <;> rfl
            try simp only [Act.put, List.getElem_toArray, List.getElem_cons_zero, List.getElem_cons_succ, List.setIfInBounds_toArray, List.set_cons_zero, List.set_cons_succ]
            refine wpAnyL_take (i := 7) (v := .pointer (some ⟨B, 0, none⟩)) rfl (by kernel_rfl) (fun _ _ _ h => h) (Or.inl ⟨by rfl, ?_⟩) hHeld ?_
            · intro w' hSw
              go_simp <;> rfl
            try simp only [Act.put, List.getElem_toArray, List.getElem_cons_zero, List.getElem_cons_succ, List.setIfInBounds_toArray, List.set_cons_zero, List.set_cons_succ]
            refine wpAnyL_take (i := 9) (v := .pointer (some ⟨B, 0, none⟩)) rfl (by kernel_rfl) (fun _ _ _ h => h) (Or.inl ⟨by rfl, ?_⟩) hHeld ?_
            · intro w' hSw
              go_simp <;> rfl
            try simp only [Act.put, List.getElem_toArray, List.getElem_cons_zero, List.getElem_cons_succ, List.setIfInBounds_toArray, List.set_cons_zero, List.set_cons_succ]
            refine wpAnyL_next 8 (by kernel_rfl) rfl (fun K hK => ?_)
            go_simp
            refine (l1Below_any B zs 32 _ (by exact hcq.drew) hl (by omega)).mono ?_
            rintro e u1 ⟨x1, rfl, hx1, hc1, hg1⟩
            have hx1' : (x1 : Int) < 32 := hx1 (by omega)
            have hg1' := grownBy_trans (grown_drew _ (some B)) hg1
            have ho1 := ho.kept hg1' hBB
            refine hK.out _ _ (ho1.three.1) (fun hHeld => ?_)
            clear hK K hx1
            try simp only [Act.put, List.getElem_toArray, List.getElem_cons_zero, List.getElem_cons_succ, List.setIfInBounds_toArray, List.set_cons_zero, List.set_cons_succ]
            refine wpAnyL_next 10 (by kernel_rfl) rfl (fun K hK => ?_)
            go_simp
            refine (l1Below_any B zs 32 u1 hc1 hl (by omega)).mono ?_
            rintro e u2 ⟨x2, rfl, hx2, hc2, hg2⟩
            have hx2' : (x2 : Int) < 32 := hx2 (by omega)
            have ho2 := ho1.kept hg2 hBB
            refine hK.out _ _ (ho2.three.1) (fun hHeld => ?_)
            clear hK K hx2
            try simp only [Act.put, List.getElem_toArray, List.getElem_cons_zero, List.getElem_cons_succ, List.setIfInBounds_toArray, List.set_cons_zero, List.set_cons_succ]
            refine wpAnyL_next 11 (by kernel_rfl) rfl (fun K hK => ?_)
            go_simp
            refine hK.out _ _ ((ho2.alloc _).three.1) (fun hHeld => ?_)
            clear hK K 
            try simp only [Act.put, List.getElem_toArray, List.getElem_cons_zero, List.getElem_cons_succ, List.setIfInBounds_toArray, List.set_cons_zero, List.set_cons_succ]
            refine wpAnyL_next 12 (by kernel_rfl) rfl (fun K hK => ?_)
            go_simp
            refine (l1Int_any B zs _ _ [0, (n : Int), ((n : Int) + 1).tmod 32, (x1 : Int), (x2 : Int)] _ (hc2.alloc _) hl (readsI_lit u2 _ _) (fun b off e => by cases e; have := hc2.lt; omega) (by simp) (by simp)).mono ?_
            rintro e u3 ⟨j, hj, rfl, hc3, hg3⟩
            have hbd := HBD.out x1 x2 hx1' hx2' j
            generalize List.getD _ j (0 : Int) = r at hbd ⊢
            have hg3' := grownBy_trans (World.grownBy_alloc u2 _ (some B)) hg3
            have ho3 := ho2.kept hg3' hBB
            refine hK.out _ _ (ho3.three.1) (fun hHeld => ?_)
            clear hK K hj
            try simp only [Act.put, List.getElem_toArray, List.getElem_cons_zero, List.getElem_cons_succ, List.setIfInBounds_toArray, List.set_cons_zero, List.set_cons_succ]
            refine wpAnyL_next 13 (by kernel_rfl) rfl (fun K hK => ?_)
            go_simp
            refine hK.out _ _ ((ho3.alloc _).three.1) (fun hHeld => ?_)
            clear hK K 
            try simp only [Act.put, List.getElem_toArray, List.getElem_cons_zero, List.getElem_cons_succ, List.setIfInBounds_toArray, List.set_cons_zero, List.set_cons_succ]
            refine wpAnyL_next 14 (by kernel_rfl) rfl (fun K hK => ?_)
            refine step_append_ints rfl (.tmp 30) (.tmp 42) (by rfl) (pI + 2) _ aR cR rs (by rfl) (ho3.alloc _).own _ _ [r] (by rfl) (readsI_lit u3 [r] _) (by intro h; cases h) (by simp; omega) (by have := ho3.box.lt; simp; omega) ?_
            intro a4 c4 y4 u4 hy4 ho4 hg4 hat4
            obtain ⟨⟨d2, f4⟩, hO, hC, hG, hT⟩ := (ho3.alloc _).push (hc3.alloc _) hBB (grownBy_new (grownBy_trans (grownBy_trans (grownBy_trans hgq hg1') hg2) hg3') (World.grownBy_alloc u3 _ none) (fun j e => by cases e)) (by omega) ho4 hg4
            refine hK.out _ _ (d2) (fun hHeld => ?_)
            clear hK K 
            try simp only [Act.put, List.getElem_toArray, List.getElem_cons_zero, List.getElem_cons_succ, List.setIfInBounds_toArray, List.set_cons_zero, List.set_cons_succ]
            refine wpAnyL_take (i := 15) (v := .pointer (some ⟨pI + 1, 2, none⟩)) rfl (by kernel_rfl) (fun _ _ _ h => h) (Or.inl ⟨by rfl, ?_⟩) hHeld ?_
            · intro w' hSw
              go_simp <;> rfl
            try simp only [Act.put, List.getElem_toArray, List.getElem_cons_zero, List.getElem_cons_succ, List.setIfInBounds_toArray, List.set_cons_zero, List.set_cons_succ]
            have hi3 := ((hin.kept hg1' (fun k hk e => by have := (hin.lt k hk).1; cases e; omega)).kept hg2 (fun k hk e => by have := (hin.lt k hk).1; cases e; omega)).kept hg3' (fun k hk e => by have := (hin.lt k hk).1; cases e; omega)
            have hiF := own_blockH ((hi3.below ((Below.refl _ _).alloc (Nat.le_refl _) _)).widen (Nat.le_refl _) (Nat.le_refl _) (by have := ho3.box.lt; simp; omega)) (hT pI (by omega) (by omega) (by have := ho3.box.lt; simp; omega)) (by have := hO.box.lt; omega)
            have hyl : y4.length + m ≤ 3 := by have := congrArg List.length hy4.out; simp at this; omega
            have HR4 : Hid (∀ z ∈ y4, 0 ≤ z ∧ z ≤ 31) := fun z hz => by
              rw [hy4.out] at hz
              rcases List.mem_append.1 hz with hz | hz
              · exact hrs.out z hz
              · rw [List.mem_singleton.1 hz]; exact hbd
            clear hT hat4 hg4 ho4 hc1 hc2 hc3 ho1 ho2 ho3 hg1' hg2 hg3' hcq hgq ho hin hg1 hg3 hy4 hi3 hbd HBD hrs
            refine wpAnyL_last 16 (by kernel_rfl) rfl rfl (fun K hK => ?_)
            go_simp
            refine hK.out _ _ ?_
            clear hK K
            refine wpAnyL_done (by kernel_rfl) ?_ _
            clear hHeld d2 f4
            generalize u4.setCell _ _ = wf at *
            go_wp2_with fail
            go_roundw
            case rel => exact ⟨m, a4, c4, y4, by go_num, by omega, hyl, hO, hiF, hC, hG, HR4⟩
            case measure => simp [RowKit.intOf]
    · obtain rfl : n = 32 := by omega
      have HN : Hid ((ts.length = 32 ∧ HeapOk ts) ∧ OwnVw wr w.heap.size wr.heap.size (some ⟨g, 0, none⟩) 32 ts) := by
        obtain ⟨h1, h2, h3⟩ := hI.out
        rw [Nat.sub_self, List.replicate_zero, List.append_nil] at h3
        exact ⟨⟨h1, h2⟩, h3⟩
      clear hI
      go_wp2_with fail
      go_ret
      exact ⟨g, ts, rfl, HN.out.1, HN.out.2, hcr, hgr⟩
end Go.Proofs.YtajcffchopcamaaGreatDoor

/- The walk of spec.DrawHeap: a view that is right. -/
namespace Go.Proofs.YtajcffchopcamaaGreatDoor
open Go.RowKit

theorem heap_view {ts : List SlotA} (hl : ts.length = 32) (h : HeapOk ts) : viewB (vsOf ts) = true := by
  rw [viewB_zero (by rw [vsOf_len]; exact hl), vsOf_at, h.1]
  simp only [Bool.not_false, Bool.true_and, List.all_eq_true]
  intro v hv
  obtain ⟨t, ht, rfl⟩ := List.mem_map.1 hv
  exact h.2 t ht
theorem heap_fit {ts : List SlotA} (h : HeapOk ts) : Fit ts := fun s hs => by
  have h1 := h.2 s hs
  unfold slotB at h1
  split at h1
  · obtain ⟨_, h2, h3, _⟩ := okB_bd h1
    exact ⟨by omega, by omega⟩
  · simp only [Bool.and_eq_true, decide_eq_true_eq] at h1
    exact ⟨by omega, by omega⟩
end Go.Proofs.YtajcffchopcamaaGreatDoor

/- Plain mathematics of numbers in texts: which texts are numbers, and what they are. -/
namespace Go.Proofs.YtajcffchopcamaaGreatDoor

def isDig (c : Int) : Bool := inB c 48 57
def digStep (n : Nat) (c : Int) : Nat := n * 10 + (c - 48).toNat
def digVal (D : List Int) : Nat := D.foldl digStep 0
def digOk (minus : Bool) (D : List Int) : Bool := inB D.length 1 9 && (!(decide (1 < D.length) && decide (D.getD 0 0 = 48)) && (!(minus && decide (D = [48])) && D.all isDig))
def numMinus (L : List Int) : Bool := decide (0 < L.length) && decide (L.getD 0 0 = 45)
def numBody (L : List Int) : List Int := if numMinus L then L.drop 1 else L
def signed (minus : Bool) (n : Nat) : Int := if minus then -(n : Int) else n
/-- The number that a text is, if it is one. -/
def numberOf (L : List Int) : Option Int := if digOk (numMinus L) (numBody L) then some (signed (numMinus L) (digVal (numBody L))) else none

theorem digVal_snoc (D : List Int) (c : Int) : digVal (D ++ [c]) = digVal D * 10 + (c - 48).toNat := by simp [digVal, digStep]
theorem isDig_bd {c : Int} (h : isDig c = true) : 48 ≤ c ∧ c ≤ 57 := by simpa [isDig, inB] using h

theorem decOf_dig (n : Nat) : ∀ z ∈ decOf n, isDig z = true := by
  induction n using Nat.strongRecOn with
  | _ n ih =>
    intro z hz
    by_cases h : n < 10
    · rw [decOf_small n h] at hz
      simp at hz
      subst hz
      unfold isDig inB; rw [decide_eq_true_eq]; omega
    · rw [decOf_big n h, List.mem_append] at hz
      rcases hz with hz | hz
      · exact ih (n / 10) (by omega) z hz
      · simp at hz
        subst hz
        unfold isDig inB; rw [decide_eq_true_eq]; omega
theorem decOf_val (n : Nat) : digVal (decOf n) = n := by
  induction n using Nat.strongRecOn with
  | _ n ih =>
    by_cases h : n < 10
    · rw [decOf_small n h]; simp [digVal, digStep]; omega
    · rw [decOf_big n h, digVal_snoc, ih (n / 10) (by omega)]
      omega
theorem decOf_pos (n : Nat) : 0 < (decOf n).length := by
  by_cases h : n < 10
  · rw [decOf_small n h]; simp
  · rw [decOf_big n h]; simp
/-- No nought ahead, but of 0 itself. -/
theorem decOf_head (n : Nat) : 0 < n → (decOf n).getD 0 0 ≠ 48 := by
  induction n using Nat.strongRecOn with
  | _ n ih =>
    intro hn
    by_cases h : n < 10
    · rw [decOf_small n h]; simp; omega
    · rw [decOf_big n h]
      have hp := decOf_pos (n / 10)
      have := ih (n / 10) (by omega) (by omega)
      have e : (decOf (n / 10) ++ [((48 + n % 10 : Nat) : Int)]).getD 0 0 = (decOf (n / 10)).getD 0 0 := by
        simp only [List.getD]
        rw [List.getElem?_append_left hp]
      rw [e]
      exact this

theorem digOk_mk {m : Bool} {D : List Int} (h1 : 1 ≤ D.length) (h2 : D.length ≤ 9) (h3 : 1 < D.length → D.getD 0 0 ≠ 48) (h4 : m = true → D ≠ [48]) (h5 : ∀ z ∈ D, isDig z = true) : digOk m D = true := by
  simp only [digOk, Bool.and_eq_true, Bool.not_eq_true', Bool.and_eq_false_iff, decide_eq_false_iff_not, inB, decide_eq_true_eq, List.all_eq_true]
  refine ⟨by omega, ?_, ?_, h5⟩
  · by_cases h : 1 < D.length
    · exact .inr (h3 h)
    · exact .inl h
  · cases m with
    | false => exact .inl rfl
    | true => exact .inr (h4 rfl)

/-- .. and back. -/
theorem text_number (z : Int) (h : -1000000000 < z ∧ z < 1000000000) : numberOf (numText z) = some z := by
  have key : ∀ n : Nat, n < 1000000000 → (decOf n).length ≤ 9 := fun n hn => decOf_len 8 n (by omega)
  have hne : ∀ n : Nat, numMinus (decOf n) = false := by
    intro n
    unfold numMinus
    have hd := decOf_dig n
    have hp := decOf_pos n
    have hm : (decOf n).getD 0 0 ∈ decOf n := by simp [List.getD, hp]
    have := isDig_bd (hd _ hm)
    simp only [Bool.and_eq_false_iff, decide_eq_false_iff_not]
    right; omega
  have hok : ∀ (n : Nat) (m : Bool), n < 1000000000 → (m = true → 0 < n) → digOk m (decOf n) = true := by
    intro n m hn hm
    have hp := decOf_pos n
    refine digOk_mk (by omega) (key n hn) ?_ ?_ (decOf_dig n)
    · intro hl
      apply decOf_head
      by_cases h0 : n < 10
      · rw [decOf_small n h0] at hl; simp at hl
      · omega
    · intro h1 h2
      have := decOf_val n
      rw [h2] at this
      have := hm h1
      simp [digVal, digStep] at *
      omega
  by_cases h0 : z < 0
  · have e : numText z = 45 :: decOf (-z).toNat := by unfold numText; rw [if_pos h0]
    have hm : numMinus (numText z) = true := by rw [e]; simp [numMinus]
    have hb : numBody (numText z) = decOf (-z).toNat := by unfold numBody; rw [hm, e]; rfl
    unfold numberOf
    rw [hm, hb, if_pos (hok _ true (by omega) (fun _ => by omega)), decOf_val]
    simp [signed]; omega
  · have e : numText z = decOf z.toNat := by unfold numText; rw [if_neg h0]
    have hm : numMinus (numText z) = false := by rw [e]; exact hne _
    have hb : numBody (numText z) = decOf z.toNat := by unfold numBody; rw [hm, e]; rfl
    unfold numberOf
    rw [hm, hb, if_pos (hok _ false (by omega) (fun h => by cases h)), decOf_val]
    simp [signed]; omega
end Go.Proofs.YtajcffchopcamaaGreatDoor

/- The bytes of a text. -/
namespace Go.Proofs.YtajcffchopcamaaGreatDoor

def sBytes (s : ByteArray) : List Int := s.data.toList.map fun b => (b.toNat : Int)

theorem sBytes_len (s : ByteArray) : (sBytes s).length = s.size := by
  rw [sBytes, List.length_map, Array.length_toList]; rfl
end Go.Proofs.YtajcffchopcamaaGreatDoor

/- The walk of spec.l2Number. -/
namespace Go.Proofs.YtajcffchopcamaaGreatDoor
open Go.RowKit

theorem sBytes_inj {a b : ByteArray} (h : sBytes a = sBytes b) : a = b := by
  apply ByteArray.ext
  apply Array.ext'
  unfold sBytes at h
  have hinj : Function.Injective (fun b : UInt8 => ((b.toNat : Nat) : Int)) := by
    intro x y hxy
    have : x.toNat = y.toNat := Int.ofNat.inj hxy
    exact UInt8.toNat_inj.1 this
  exact (List.map_inj_right (fun x y hxy => hinj hxy)).1 h

/-- What l2Number answers. -/
def numAns : Option Int → Value
  | some z => .tuple #[.int .i64 z, .bool true]
  | none => .tuple #[.int .i64 0, .bool false]

end Go.Proofs.YtajcffchopcamaaGreatDoor
