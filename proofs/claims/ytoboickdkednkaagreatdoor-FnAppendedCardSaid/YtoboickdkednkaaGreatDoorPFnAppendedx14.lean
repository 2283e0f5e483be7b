/- Several texts in one, in their order. -/
import Derived.Test.YtoboickdkednkaaGreatDoorPFnAppendedx13
import Derived.Test.YtoboickdkednkaaGreatDoorPFnAppendedx7
import Derived.Test.YtoboickdkednkaaGreatDoorPFnAppendedx8
import Derived.Deep.CutRange
import Derived.Deep.RegionLaw
import Derived.Test.YtoboickdkednkaaGreatDoorPFnAppendedx4
import Derived.Deep.Cut
import Derived.RangeFuncNested
import Derived.RangeFuncBound
import Derived.RangeFuncCalls
import Derived.RangeFuncLeaves
import Derived.Shelf.Abstract
import Derived.Shelf.RegionOpen
import Derived.WalkKit
import Derived.OwnWalkIn
import Derived.TacticsInMore
import Derived.LoopNIn
import Derived.LoopIn
import Derived.Test.YtoboickdkednkaaGreatDoorPFnAppendedx1
import Derived.Deep.MidRow
import Derived.Test.YtoboickdkednkaaGreatDoorPFnAppendedx6
import Derived.Sort.CutIn
import Derived.Test.YtoboickdkednkaaGreatDoorPFnAppendedx3
set_option maxHeartbeats 8000000
set_option maxRecDepth 100000
namespace Go.Proofs.YtoboickdkednkaaGreatDoor
open Go.RowKit
attribute [local go_sem ↓] Go.wp_at_zero Go.wp_at_succ
theorem recs_put {w : World} {lo hi g c : Nat} {A B : List RecA} {z : RecA} (h : OwnRs w lo hi (some ⟨g, 0, none⟩) c (A ++ z :: B)) (q : RecA) {l u : Nat} (hq : q.own w l u) :
  ∃ W, Hid (w.setCells g (A.length * 15) q.cells = W) ∧ Touch [g] w W ∧ W.heap.size = w.heap.size ∧ (∀ v bl, Touch bl W v → (∀ k ∈ bl, k < lo) → lo ≤ l → ReadsRs v (some ⟨g, 0, none⟩) (A ++ q :: B)) := by
 have hrow := h.row
 rw [cellsRs_app, cellsRs_cons, List.length_append, List.length_cons] at hrow
 obtain ⟨h1, h2⟩ := row_setCells q.cells (cellsRs A) z.cells (cellsRs B) w hrow rfl
 rw [cellsRs_len] at h1 h2
 have ht : Touch [g] w (w.setCells g (A.length * 15) q.cells) := Touch.of_grown h2 (fun k hk => by cases hk; simp)
 have hap : ∀ (r : RecA) {l u : Nat}, r.own w l u → ∀ k ∈ r.blocks, k ∉ [g] := fun r _ _ hr k hk hm => row_apart h.row hr g rfl (by rw [← List.mem_singleton.1 hm]; exact hk)
 refine ⟨_, rfl, ht, setCells_heap g q.cells (A.length * 15) w, fun v bl hv hC hll => ?_⟩
 have hno : ∀ (r : RecA) {l u : Nat}, r.own w l u → lo ≤ l → ∀ k ∈ r.blocks, k ∉ bl := fun r _ _ hr h1 k hk hm => by have := (hr.blocks_lt k hk).1; have := hC k hm; omega
 have hrow' : v.ownsRow lo 39 15 (.slice (some ⟨g, 0, none⟩) (A ++ q :: B).length c) (A ++ q :: B).length (cellsRs (A ++ q :: B)) := by
  rw [cellsRs_app, cellsRs_cons, List.length_append, List.length_cons]
  exact ownsRow_block h1 (fun k hk => hv.block k (h1.lt k hk).2 (fun hm => by have := (h1.lt k hk).1; have := hC k hm; omega))
 intro _
 refine ⟨g, 0, rfl, fun k hk => ?_⟩
 rw [Nat.zero_add]
 refine ⟨(row_rec hrow' rfl k hk).1, ?_⟩
 have hmem := recD_mem (A ++ q :: B) k hk
 rcases List.mem_append.1 hmem with h3 | h3
 ·have h4 := h.each _ (List.mem_append.2 (.inl h3))
  exact ((h4.touch ht (hap _ h4)).touch hv (hno _ h4 (Nat.le_refl _))).reads
 ·rcases List.mem_cons.1 h3 with h3 | h3
  ·rw [h3]; exact ((hq.touch ht (hap _ hq)).touch hv (hno _ hq hll)).reads
  ·have h4 := h.each _ (List.mem_append.2 (.inr (List.mem_cons_of_mem _ h3)))
   exact ((h4.touch ht (hap _ h4)).touch hv (hno _ h4 (Nat.le_refl _))).reads
theorem touch_of {C : Nat} {w w' : World} (h : Within C (C + 1) w w') : Touch [C] w w' := ⟨h.os, h.tape, h.output, h.size, fun j hj hn => h.block j hj (fun hh => hn (by simp; omega))⟩
theorem within_two {B C : Nat} {w w1 w2 : World} (h : Within B (B + 1) w w1) (hF : Within C (C + 1) w1 w2) (hC : w.heap.size ≤ C) : Within B (B + 1) w w2 :=
 ⟨hF.os.trans h.os, hF.tape.trans h.tape, hF.output.trans h.output, Nat.le_trans h.size hF.size, fun k hk hn => (hF.block k (by have := h.size; omega) (by omega)).trans (h.block k hk hn)⟩
def CapFit (l : LogA) : Prop := l.recs.length ≤ l.c ∧ (l.a = none → l.recs.length = 0 ∧ l.c = 0)
def LogAny (B : Nat) (zs : List Int) (w : World) (r : Ending) (w' : World) : Prop := ∃ l : LogA, r = .returned (.agg l.cells.toArray) ∧ (∀ v bl, Touch bl w' v → (∀ k ∈ bl, k < w.heap.size) → l.reads v) ∧ l.recs.length ≤ 262144 ∧ (∀ x ∈ l.recs, x.short 12) ∧ (∀ x ∈ l.recs, x.aL = none → x.cL = 0) ∧ CapFit l ∧ CurAt w' B zs ∧ Within B (B + 1) w w'
theorem l5DrawAny_any (B : Nat) (zs : List Int) (n : Int) (w : World) (hc : CurAt w B zs) (hl : zs.length ≤ 70368744177664) (hn0 : 0 < n) (hn : n ≤ 17) :
  Calls Tryz.prog 29 #[.pointer (some ⟨B, 0, none⟩), .int .i64 n] w fun r w' => LogAny B zs w r w' := by
 obtain ⟨W, hW, b0, hbW, hsW⟩ := boxes1 w [.slice none 0 0, .int .i64 0] 26
 have hW' : Hid (w.alloc (.cells #[.slice none 0 0, .int .i64 0] 26) = W) := hW.out
 have C := l5Draw_any B zs n W (hc.below hbW) hl hn0 hn
 have hBl := hc.lt
 have hws : w.heap.size < W.heap.size := by omega
 clear hW hsW
 go_enter Tryz.func29, Tryz.ntmps29
 go_wp2_with fail
 rw [hW'.out]
 refine C.mono ?_
 clear C hW'
 rintro r w1 ⟨l0, rfl, o0, hl0, hs0, hc1, hw1⟩
 have bR1 := b0.within hw1 (by omega)
 have hs1 := hw1.size
 have C2 := l5Copy_any l0 w1 o0.reads ⟨by omega, fun x hx => ⟨⟨by have := (hs0 x hx).bf.1; omega, by have := (hs0 x hx).bf.2; omega⟩, ⟨by have := (hs0 x hx).af.1; omega, by have := (hs0 x hx).af.2; omega⟩, by have := (hs0 x hx).txs; omega⟩⟩ (fun x hx => (OwnRs.each o0 x hx).txs.nocap)
 go_wp2_with fail
 refine C2.mono ?_
 clear C2
 rintro r w2 ⟨t, rfl, htv, ot, hb2⟩
 have htr : t.recs.map RecA.v = l0.recs.map RecA.v := by have := congrArg LogV.recs htv.out; exact this
 have hlen : t.recs.length ≤ 262144 := by have := congrArg List.length htr; simp only [List.length_map] at this; omega
 have hsh : ∀ x ∈ t.recs, x.short 10 := fun x hx => by
  have h1 : x.v ∈ l0.recs.map RecA.v := by rw [← htr]; exact List.mem_map_of_mem hx
  obtain ⟨y, hy, hyx⟩ := List.mem_map.1 h1
  exact short_of hyx.symm (hs0 y hy)
 obtain ⟨W3, hW3, b3, hb3, hs3⟩ := boxes1 w2 [.slice none 0 0, .int .i64 0] 26
 obtain ⟨W4, hW4, hw4, hs4, HT4, _, bL⟩ := log_out t _ rfl b3
 have hW3' : Hid (w2.alloc (.cells #[.slice none 0 0, .int .i64 0] 26) = W3) := hW3.out
 have hW4' : Hid (W3.setCells w2.heap.size 0 t.cells.toArray.toList = W4) := hW4.out
 have N24 : Below w2.heap.size w2 W4 := hb3.trans (hw4.below (Nat.le_refl _) (by omega))
 have N14 : Below w1.heap.size w1 W4 := hb2.trans (N24.mono hb2.size)
 have hs2 := hb2.size
 have bR4 := bR1.below N14 bR1.lt
 have hc4 := hc1.below N14
 have ot4 : t.own W4 w1.heap.size w2.heap.size := LogA.own.below ot N24
 have hw14 : Within B (B + 1) w W4 := ⟨N14.os.trans (hw1.os.trans hbW.os), N14.tape.trans (hw1.tape.trans hbW.tape), N14.output.trans (hw1.output.trans hbW.output), by have := N14.size; have := hbW.size; omega, fun k hk hn1 => (N14.block k (by have := hbW.size; omega)).trans ((hw1.block k (by have := hbW.size; omega) hn1).trans (hbW.block k hk))⟩
 have HO4 := log_one t
 have HI4 : Hid ((Tryz.prog.info? 26).map (·.size) = some t.cells.toArray.size) := log_info t
 have hLt := bL.lt
 have C5 := l1Below_any B zs 10 W4 hc4 hl (by omega)
 have hR1 := bR1.lt
 clear hW3 hW4 hs3 hs4 hw4 hb3 b3 b0 o0 hs0 htr htv hl0 hw1 hbW hc hc1 bR1 ot N14 N24
 go_wp2_with (first | (guard_target = wpList _ _ _ (Oper.mk none (Op.store _ (Operand.tmp 5) _) _ _ _ _ :: _) _ _; refine wpList_store_mid rfl 26 (.tmp 5) (.tmp 10) rfl w2.heap.size 0 t.cells.toArray rfl rfl (by rw [hW3'.out]; exact HT4.out) HI4.out HO4 ?_; rw [hW3'.out, hW4'.out]) | fail)
 refine C5.mono ?_
 clear C5 hW3' hW4' HT4 HI4 HO4
 rintro r w5 ⟨x, rfl, hx10, hc5, hg5⟩
 have hwB5 := within_cur hg5
 have ot5 : t.own w5 w1.heap.size w2.heap.size := LogA.own.within ot4 hwB5 (.inr (by omega))
 have bL5 := bL.within hwB5 (by omega)
 have bR5 := bR4.within hwB5 (by omega)
 have hw5 : Within B (B + 1) w w5 := hw14.trans hwB5
 have hs5 := hwB5.size
 clear hx10 hg5 ot4 bL bR4 hw14 hwB5
 rcases (by omega : x = 0 ∨ x = 1 ∨ 2 ≤ x) with hx | hx | hx
 ·subst hx
  have m0 := bL5.cell 0 _ (show t.cells[0]? = some (.slice t.a t.recs.length t.c) from rfl)
  obtain ⟨W6, hW6, b6, hb6, hs6⟩ := boxes1 w5 ([-1, (t.recs.length : Int), (t.recs.length : Int) + 1].map (Value.int .i64)) 3
  have hW6' : Hid (w5.alloc (.cells #[.int .i64 (-1), .int .i64 (t.recs.length : Int), .int .i64 ((t.recs.length : Int) + 1)] 3) = W6) := hW6.out
  have rI := readsI_list [-1, (t.recs.length : Int), (t.recs.length : Int) + 1] b6
  have C6 := l1Int_any B zs (some ⟨w5.heap.size, 0, none⟩) 3 [-1, (t.recs.length : Int), (t.recs.length : Int) + 1] W6 (hc5.below hb6) hl rI (fun b off hb => by cases hb; have := hc5.lt; omega) (by simp) (by simp)
  have ot6 := LogA.own.below ot5 hb6
  have bL6 := bL5.below hb6 bL5.lt
  have bR6 := bR5.below hb6 bR5.lt
  have hw6 : Within B (B + 1) w W6 := ⟨hb6.os.trans hw5.os, hb6.tape.trans hw5.tape, hb6.output.trans hw5.output, Nat.le_trans hw5.size hb6.size, fun k hk hn1 => (hb6.block k (by have := hw5.size; omega)).trans (hw5.block k hk hn1)⟩
  have hs56 := hb6.size
  clear hs6 hW6 b6 hb6 rI ot5 bL5 bR5 hw5 hc5
  go_wp2_with fail
  rw [hW6'.out]
  refine C6.mono ?_
  clear C6 hW6' m0
  rintro r w7 ⟨y, hy, rfl, hc7, hg7⟩
  obtain ⟨sv, hsv⟩ : ∃ sv, Hid ([-1, (t.recs.length : Int), (t.recs.length : Int) + 1].getD y 0 = sv) := ⟨_, rfl⟩
  rw [hsv.out]
  have hwB7 := within_cur hg7
  have ot7 : t.own w7 w1.heap.size w2.heap.size := LogA.own.within ot6 hwB7 (.inr (by omega))
  have bL7 := bL6.within hwB7 (by omega)
  have bR7 := bR6.within hwB7 (by omega)
  have hw7 := hw6.trans hwB7
  have hs67 := hwB7.size
  have m1 := bL7.cell 1 _ (show t.cells[1]? = some (.int .i64 t.sure) from rfl)
  have f1 := bL7.frozen 1
  obtain ⟨W8, hW8, bL8, hw8, hs8⟩ := box_set bL7 1 (.int .i64 sv)
  have otz : (({ t with sure := sv } : LogA)).own W8 w1.heap.size w2.heap.size := LogA.own.within (l := t) ot7 hw8 (.inl (Nat.le_refl _))
  have bLz : Box W8 w2.heap.size ({ t with sure := sv } : LogA).cells 26 := bL8
  have bRz := bR7.within hw8 (by omega)
  have hcz := hc7.within hw8 (by omega)
  have hwz : Within B (B + 1) w W8 := within_two hw7 hw8 (by omega)
  clear ot6 bL6 bR6 hw6 hwB7 hg7 hc7 ot7 hw7 bR7 bL8 hw8 hs8 hsv
  go_upto_region 9 with fail
  rw [hW8.out]
  clear hW8 m1 f1 bL7
  obtain ⟨W9, hW9⟩ : ∃ W9, Hid (W8 = W9) := ⟨_, rfl⟩
  obtain ⟨L, hL⟩ : ∃ L, Hid (w2.heap.size = L) := ⟨_, rfl⟩
  obtain ⟨lg, hlg⟩ : ∃ lg, Hid (({ t with sure := sv } : LogA) = lg) := ⟨_, rfl⟩
  have bL9 : Box W9 L lg.cells 26 := by rw [← hW9.out, ← hL.out, ← hlg.out]; exact bLz
  have bR9 : Box W9 w.heap.size [.slice none 0 0, .int .i64 0] 26 := by rw [← hW9.out]; exact bRz
  have hc9 : CurAt W9 B zs := by rw [← hW9.out]; exact hcz
  have hw9 : Within B (B + 1) w W9 := by rw [← hW9.out]; exact hwz
  have HRD : Hid (∀ v bl, Touch bl W9 v → (∀ k ∈ bl, k ≤ w.heap.size) → lg.reads v) := fun v bl hv hbl => by
   rw [← hW9.out] at hv
   rw [← hlg.out]
   exact LogA.own.reads (LogA.own.touch otz hv (fun k hk hm => by have := (LogA.own.blocks_lt otz k hk).1; have := hbl k hm; omega))
  have hlen9 : lg.recs.length ≤ 262144 := by rw [← hlg.out]; exact hlen
  have hsh9 : ∀ y ∈ lg.recs, y.short 12 := fun y hy => by
   rw [← hlg.out] at hy
   have h1 := hsh y hy
   exact ⟨⟨by have := h1.bf.1; omega, by have := h1.bf.2; omega⟩, ⟨by have := h1.af.1; omega, by have := h1.af.2; omega⟩, by have := h1.txs; omega⟩
  have hcp9 : ∀ y ∈ lg.recs, y.aL = none → y.cL = 0 := fun y hy => by
   rw [← hlg.out] at hy
   exact (OwnRs.each otz y hy).txs.nocap
  have hcf9 : CapFit lg := by rw [← hlg.out]; exact ⟨OwnRs.capLen otz, OwnRs.nilLen otz⟩
  clear otz bLz bRz hwz hcz
  rw [hW9.out, hL.out]
  clear hlen hsh hlg
  have r9 : W9.rangeAt L 0 lg.cells := Box.range [] lg.cells [] (by simpa using bL9)
  obtain ⟨WF, hWF, hwF, hsF, HTF, HLF, bF⟩ := log_out lg _ rfl bR9
  have hWF' : Hid (W9.setCells w.heap.size 0 lg.cells.toArray.toList = WF) := hWF.out
  have hrF : ∀ v bl, Touch bl WF v → (∀ k ∈ bl, k < w.heap.size) → lg.reads v := fun v bl hv hb => HRD.out v (w.heap.size :: bl) (((touch_of hwF).mono (by simp)).trans (hv.mono (fun k hk => List.mem_cons_of_mem _ hk))) (fun k hk => (List.mem_cons.1 hk).elim (fun h1 => by omega) (fun h1 => by have := hb k h1; omega))
  have HEND : Hid (LogAny B zs w (.returned (.agg lg.cells.toArray)) WF) := ⟨lg, rfl, hrF, hlen9, hsh9, hcp9, hcf9, hc9.within hwF (by omega), within_two hw9 hwF (Nat.le_refl _)⟩
  have HO := log_one lg
  have HI : Hid ((Tryz.prog.info? 26).map (·.size) = some lg.cells.length) := log_info lg
  clear hrF bF hwF hsF hWF hw9 hc9 HRD hlen9 hsh9 hcp9 hcf9 bL9 bR9
  go_wp2_with (first | (guard_target = wpList _ _ _ (Oper.mk (some 48) _ _ _ _ _ :: _) _ _; refine wpList_load_mid rfl 26 (.tmp 5) rfl L 0 rfl lg.cells _ r9 Tryz.underlying26 rfl HI.out ?_) | (guard_target = wpList _ _ _ (Oper.mk none (Op.store _ (Operand.tmp 4) _) _ _ _ _ :: _) _ _; refine wpList_store_mid rfl 26 (.tmp 4) (.tmp 48) rfl w.heap.size 0 lg.cells.toArray rfl rfl HTF.out HI.out HO ?_; rw [hWF'.out]) | fail)
  exact bodyPost_ret (v := .agg lg.cells.toArray) (results_one Tryz.results29 rfl HLF.out) rfl HEND.out
 ·subst hx
  have m0 := bL5.cell 0 _ (show t.cells[0]? = some (.slice t.a t.recs.length t.c) from rfl)
  by_cases h0 : 0 < t.recs.length
  ·have h0b : (t.recs.length : Int) > 0 := by omega
   have C6 := l1Below_any B zs (t.recs.length : Int) w5 hc5 hl (by omega)
   go_wp2_with fail
   refine C6.mono ?_
   clear C6 m0
   rintro r w6 ⟨k, rfl, hk, hc6, hg6⟩
   have hkl : k < t.recs.length := by have := hk (by omega); omega
   have hwB6 := within_cur hg6
   have ot6 : t.own w6 w1.heap.size w2.heap.size := LogA.own.within ot5 hwB6 (.inr (by omega))
   have bL6 := bL5.within hwB6 (by omega)
   have bR6 := bR5.within hwB6 (by omega)
   have hw6 := hw5.trans hwB6
   have hs6 := hwB6.size
   clear hk hg6 hwB6 ot5 bL5 bR5 hw5 hc5 h0b
   obtain ⟨g, hg⟩ : ∃ g, t.a = some ⟨g, 0, none⟩ := by
    rcases (OwnRs.row ot6).2 with ⟨_, h1⟩ | ⟨g', cap', cur, hv, _⟩
    ·omega
    ·simp only [Value.slice.injEq] at hv; exact ⟨g', hv.1⟩
   have HMS : Hid (∀ u, Box u w2.heap.size t.cells 26 → u.cell? ⟨w2.heap.size, 0, none⟩ = some (.slice (some ⟨g, 0, none⟩) t.recs.length t.c)) := fun u hu => by
    have := hu.cell 0 _ (show t.cells[0]? = some (.slice t.a t.recs.length t.c) from rfl)
    rwa [hg] at this
   have ND : Below w6.heap.size w6 w6.drew := (Below.refl _ _).drew
   have ot7 : OwnRs w6.drew w1.heap.size w2.heap.size (some ⟨g, 0, none⟩) t.c t.recs := by have h1 := LogA.own.below ot6 ND; rw [← hg]; exact h1
   have bL7 := bL6.below ND bL6.lt
   have bR7 := bR6.below ND bR6.lt
   have hc7 := hc6.below ND
   have hzr := (row_rec ot7.row rfl k hkl).1
   have hmem := recD_mem t.recs k hkl
   have oz := ot7.each _ hmem
   have hshz := hsh _ hmem
   obtain ⟨z, hz⟩ : ∃ z, Hid (t.recs.getD k zeroR = z) := ⟨_, rfl⟩
   rw [hz.out] at hzr oz hshz
   have HI : Hid ((Tryz.prog.info? 39).map (·.size) = some z.cells.length) := rec_info z
   have C8 := l4Bend_any B w1.heap.size w2.heap.size zs z w6.drew hc7 hl oz (by omega) (by omega) hshz
   have hkk : (k : Int) < (t.recs.length : Int) := by omega
   have hk0 : (0 : Int) ≤ (k : Int) := by omega
   have HGA : Hid (t.a = some ⟨g, 0, none⟩) := hg
   clear hg
   go_upto_region 8 with fail
   refine wp_region_held_drew (S := fun w' => w'.cell? ⟨w2.heap.size, 0, none⟩ = some (.slice (some ⟨g, 0, none⟩) t.recs.length t.c) ∧ True) (by kernel_rfl) ?_ (fun hHeld => ?_)
   ·exact ⟨HMS.out _ bL7, trivial⟩
   refine tk 0 (v := .pointer (some ⟨w2.heap.size, 0, none⟩)) rfl (Or.inl ⟨by rfl, ?_⟩) hHeld ?_
   ·intro w' hSw
    go_simp <;> rfl
   try simp only [Act.put, zA, zB, zD, zE, zF]
   refine tk 1 (v := .slice (some ⟨g, 0, none⟩) t.recs.length t.c) rfl (Or.inl ⟨by rfl, ?_⟩) hHeld ?_
   ·intro w' hSw
    have hx := hSw.1
    go_simp <;> rfl
   try simp only [Act.put, zA, zB, zC, zD, zE, zF]
   refine tk 2 (v := .int .i64 k) rfl (Or.inl ⟨by rfl, ?_⟩) hHeld ?_
   ·intro w' hSw
    go_simp <;> rfl
   try simp only [Act.put, zA, zB, zC, zD, zE, zF]
   refine tk 3 (v := .pointer (some ⟨B, 0, none⟩)) rfl (Or.inl ⟨by rfl, ?_⟩) hHeld ?_
   ·intro w' hSw
    go_simp <;> rfl
   try simp only [Act.put, zA, zB, zC, zD, zE, zF]
   refine tk 4 (v := .pointer (some ⟨w2.heap.size, 0, none⟩)) rfl (Or.inl ⟨by rfl, ?_⟩) hHeld ?_
   ·intro w' hSw
    go_simp <;> rfl
   try simp only [Act.put, zA, zB, zC, zD, zE, zF]
   refine tk 5 (v := .slice (some ⟨g, 0, none⟩) t.recs.length t.c) rfl (Or.inl ⟨by rfl, ?_⟩) hHeld ?_
   ·intro w' hSw
    have hx := hSw.1
    go_simp <;> rfl
   try simp only [Act.put, zA, zB, zC, zD, zE, zF]
   refine tk 6 (v := .int .i64 k) rfl (Or.inl ⟨by rfl, ?_⟩) hHeld ?_
   ·intro w' hSw
    go_simp <;> rfl
   try simp only [Act.put, zA, zB, zC, zD, zE, zF]
   refine tk 7 (v := .pointer (some ⟨g, k * 15, none⟩)) rfl (Or.inl ⟨by rfl, ?_⟩) hHeld ?_
   ·intro w' hSw
    go_simp <;> rfl
   try simp only [Act.put, zA, zB, zC, zD, zE, zF]
   refine wpAnyH_ready (rs := [8]) (by kernel_rfl) (by simp) ?_
   refine AllReadyH.cons rfl (fun K hK => ?_) AllReadyH.nil
   rw [if_pos (by rfl)]
   refine wp_load_mid 39 (.tmp 44) rfl g (k * 15) rfl z.cells _ hzr Tryz.underlying39 rfl HI.out ?_
   refine hK.out _ _ (hHeld) (fun hHeld => ?_)
   clear hK K
   try simp only [Act.put, zA, zB, zC, zD, zE, zF]
   refine wpAnyH_ready (rs := [9]) (by kernel_rfl) (by simp) ?_
   refine AllReadyH.cons rfl (fun K hK => ?_) AllReadyH.nil
   go_simp
   refine C8.mono ?_
   clear C8
   rintro r w8 ⟨y, rfl, hysh, oy, _, hc8, hwB8⟩
   have ot8 : OwnRs w8 w1.heap.size w2.heap.size (some ⟨g, 0, none⟩) t.c t.recs := ot7.within hwB8 (.inr (by omega))
   have bL8 := bL7.within hwB8 (by omega)
   have bR8 := bR7.within hwB8 (by omega)
   have hs8 := hwB8.size
   have hs7 := ND.size
   refine hK.out _ _ (⟨HMS.out _ bL8, trivial⟩) (fun hHeld => ?_)
   clear hK K
   try simp only [Act.put, zA, zB, zC, zD, zE, zF]
   have hkt : (t.recs.take k).length = k := by rw [List.length_take]; omega
   obtain ⟨P9, hP9, tP, hsP, hRP⟩ := recs_put (A := t.recs.take k) (z := z) (B := t.recs.drop (k + 1)) (by rw [← hz.out, ← recD_split t.recs k hkl]; exact ot8) y oy
   rw [hkt] at hP9
   have hgl : g < w2.heap.size := ot8.blk g rfl
   have hgl1 : w1.heap.size ≤ g := (ot8.row.lt g rfl).1
   have bLP := bL8.touch tP (by simp; omega)
   have bRz := bR8.touch tP (by simp; omega)
   have hcz := hc8.touch tP (fun i hi => by have := List.mem_singleton.1 hi; omega)
   have hwz : Within B (B + 1) w P9 := by
    have h1 : Within B (B + 1) w w8 := hw6.trans ((Within.of_below ND).trans hwB8)
    exact ⟨tP.os.trans h1.os, tP.tape.trans h1.tape, tP.output.trans h1.output, Nat.le_trans h1.size tP.size, fun i hi hn1 => (tP.block i (by have := h1.size; omega) (fun hm => by have := List.mem_singleton.1 hm; omega)).trans (h1.block i hi hn1)⟩
   have hP9' : Hid (w8.setCells g (k * 15) y.cells.toArray.toList = P9) := hP9.out
   have HTH : Hid (w8.there g (k * 15) y.cells.toArray.size) := (row_rec ot8.row rfl k hkl).2
   refine tk 10 (v := .pointer (some ⟨g, k * 15, none⟩)) rfl (Or.inl ⟨by rfl, ?_⟩) hHeld ?_
   ·intro w' hSw
    go_simp <;> rfl
   try simp only [Act.put, zA, zB, zC, zD, zE, zF]
   refine wpAnyH_ready (rs := [11]) (by kernel_rfl) (by simp) ?_
   refine AllReadyH.cons rfl (fun K hK => ?_) AllReadyH.nil
   rw [if_pos (by rfl)]
   refine wp_store_mid 39 (.tmp 47) (.tmp 46) rfl g (k * 15) y.cells.toArray rfl rfl HTH.out (rec_info y) (rec_one y) ?_
   rw [hP9'.out]
   refine hK.out _ _ (⟨HMS.out _ bLP, trivial⟩) (fun hHeld => ?_)
   clear hK K
   try simp only [Act.put, zA, zB, zC]
   refine wpAnyH_done (by kernel_rfl) ?_ _
   obtain ⟨W9, hW9⟩ : ∃ W9, Hid (P9 = W9) := ⟨_, rfl⟩
   obtain ⟨L, hL⟩ : ∃ L, Hid (w2.heap.size = L) := ⟨_, rfl⟩
   obtain ⟨lg, hlg⟩ : ∃ lg, Hid ((⟨t.recs.take k ++ y :: t.recs.drop (k + 1), t.sure, some ⟨g, 0, none⟩, t.c⟩ : LogA) = lg) := ⟨_, rfl⟩
   have hll : (t.recs.take k ++ y :: t.recs.drop (k + 1)).length = t.recs.length := by rw [List.length_append, List.length_cons, List.length_take, List.length_drop]; omega
   have hmemz : ∀ v ∈ t.recs.take k ++ y :: t.recs.drop (k + 1), v ∈ t.recs ∨ v = y := fun v hv => by
    rcases List.mem_append.1 hv with h1 | h1
    ·exact .inl (List.mem_of_mem_take h1)
    ·rcases List.mem_cons.1 h1 with h1 | h1
     ·exact .inr h1
     ·exact .inl (List.mem_of_mem_drop h1)
   have bL9 : Box W9 L lg.cells 26 := by
    rw [← hW9.out, ← hL.out, ← hlg.out]
    have h1 := bLP
    simp only [LogA.cells, HGA.out] at h1
    simp only [LogA.cells, hll]
    exact h1
   have bR9 : Box W9 w.heap.size [.slice none 0 0, .int .i64 0] 26 := by rw [← hW9.out]; exact bRz
   have hc9 : CurAt W9 B zs := by rw [← hW9.out]; exact hcz
   have hw9 : Within B (B + 1) w W9 := by rw [← hW9.out]; exact hwz
   have HRD : Hid (∀ v bl, Touch bl W9 v → (∀ k ∈ bl, k ≤ w.heap.size) → lg.reads v) := fun v bl hv hbl => by
    rw [← hW9.out] at hv
    rw [← hlg.out]
    exact hRP v bl hv (fun k hk => by have := hbl k hk; omega) (Nat.le_refl _)
   have hlen9 : lg.recs.length ≤ 262144 := by rw [← hlg.out]; show (t.recs.take k ++ y :: t.recs.drop (k + 1)).length ≤ _; rw [hll]; exact hlen
   have hsh9 : ∀ v ∈ lg.recs, v.short 12 := fun v hv => by
    rw [← hlg.out] at hv
    rcases hmemz v hv with h1 | h1
    ·have h2 := hsh v h1
     exact ⟨⟨by have := h2.bf.1; omega, by have := h2.bf.2; omega⟩, ⟨by have := h2.af.1; omega, by have := h2.af.2; omega⟩, by have := h2.txs; omega⟩
    ·rw [h1]; exact hysh
   have hcp9 : ∀ v ∈ lg.recs, v.aL = none → v.cL = 0 := fun v hv => by
    rw [← hlg.out] at hv
    rcases hmemz v hv with h1 | h1
    ·exact (ot8.each v h1).txs.nocap
    ·rw [h1]; exact oy.txs.nocap
   have hcf9 : CapFit lg := by
    rw [← hlg.out]
    refine ⟨?_, fun hh => by cases hh⟩
    show (t.recs.take k ++ y :: t.recs.drop (k + 1)).length ≤ t.c
    rw [hll]
    exact OwnRs.capLen ot8
   clear hHeld hP9' hP9 HTH tP hRP bLP bRz hcz hwz hmemz hll hlg ot8 bL8 bR8 oy ot7 bL7 bR7 hc7 hc8 hc6 oz hzr HMS HGA hlen hsh hwB8 hw6 ot6 bL6 bR6
   rw [hW9.out, hL.out]
   have r9 : W9.rangeAt L 0 lg.cells := Box.range [] lg.cells [] (by simpa using bL9)
   obtain ⟨WF, hWF, hwF, hsF, HTF, HLF, bF⟩ := log_out lg _ rfl bR9
   have hWF' : Hid (W9.setCells w.heap.size 0 lg.cells.toArray.toList = WF) := hWF.out
   have hrF : ∀ v bl, Touch bl WF v → (∀ k ∈ bl, k < w.heap.size) → lg.reads v := fun v bl hv hb => HRD.out v (w.heap.size :: bl) (((touch_of hwF).mono (by simp)).trans (hv.mono (fun k hk => List.mem_cons_of_mem _ hk))) (fun k hk => (List.mem_cons.1 hk).elim (fun h1 => by omega) (fun h1 => by have := hb k h1; omega))
   have HEND : Hid (LogAny B zs w (.returned (.agg lg.cells.toArray)) WF) := ⟨lg, rfl, hrF, hlen9, hsh9, hcp9, hcf9, hc9.within hwF (by omega), within_two hw9 hwF (Nat.le_refl _)⟩
   have HO := log_one lg
   have HI : Hid ((Tryz.prog.info? 26).map (·.size) = some lg.cells.length) := log_info lg
   clear hrF bF hwF hsF hWF hw9 hc9 HRD hlen9 hsh9 hcp9 hcf9 bL9 bR9
   go_wp2_with (first | (guard_target = wpList _ _ _ (Oper.mk (some 48) _ _ _ _ _ :: _) _ _; refine wpList_load_mid rfl 26 (.tmp 5) rfl L 0 rfl lg.cells _ r9 Tryz.underlying26 rfl HI.out ?_) | (guard_target = wpList _ _ _ (Oper.mk none (Op.store _ (Operand.tmp 4) _) _ _ _ _ :: _) _ _; refine wpList_store_mid rfl 26 (.tmp 4) (.tmp 48) rfl w.heap.size 0 lg.cells.toArray rfl rfl HTF.out HI.out HO ?_; rw [hWF'.out]) | fail)
   exact bodyPost_ret (v := .agg lg.cells.toArray) (results_one Tryz.results29 rfl HLF.out) rfl HEND.out
  ·have h0b : ¬ (t.recs.length : Int) > 0 := by omega
   go_upto_region 9 with fail
   obtain ⟨W9, hW9⟩ : ∃ W9, Hid (w5 = W9) := ⟨_, rfl⟩
   obtain ⟨L, hL⟩ : ∃ L, Hid (w2.heap.size = L) := ⟨_, rfl⟩
   obtain ⟨lg, hlg⟩ : ∃ lg, Hid (t = lg) := ⟨_, rfl⟩
   have otz := ot5
   have bLz := bL5
   have bRz := bR5
   have hcz := hc5
   have hwz := hw5
   clear ot5 bL5 bR5 hw5 hc5 hs5 m0 h0b h0
   have bL9 : Box W9 L lg.cells 26 := by rw [← hW9.out, ← hL.out, ← hlg.out]; exact bLz
   have bR9 : Box W9 w.heap.size [.slice none 0 0, .int .i64 0] 26 := by rw [← hW9.out]; exact bRz
   have hc9 : CurAt W9 B zs := by rw [← hW9.out]; exact hcz
   have hw9 : Within B (B + 1) w W9 := by rw [← hW9.out]; exact hwz
   have HRD : Hid (∀ v bl, Touch bl W9 v → (∀ k ∈ bl, k ≤ w.heap.size) → lg.reads v) := fun v bl hv hbl => by
    rw [← hW9.out] at hv
    rw [← hlg.out]
    exact LogA.own.reads (LogA.own.touch otz hv (fun k hk hm => by have := (LogA.own.blocks_lt otz k hk).1; have := hbl k hm; omega))
   have hlen9 : lg.recs.length ≤ 262144 := by rw [← hlg.out]; exact hlen
   have hsh9 : ∀ y ∈ lg.recs, y.short 12 := fun y hy => by
    rw [← hlg.out] at hy
    have h1 := hsh y hy
    exact ⟨⟨by have := h1.bf.1; omega, by have := h1.bf.2; omega⟩, ⟨by have := h1.af.1; omega, by have := h1.af.2; omega⟩, by have := h1.txs; omega⟩
   have hcp9 : ∀ y ∈ lg.recs, y.aL = none → y.cL = 0 := fun y hy => by
    rw [← hlg.out] at hy
    exact (OwnRs.each otz y hy).txs.nocap
   have hcf9 : CapFit lg := by rw [← hlg.out]; exact ⟨OwnRs.capLen otz, OwnRs.nilLen otz⟩
   clear otz bLz bRz hwz hcz
   rw [hW9.out, hL.out]
   clear hlen hsh hlg
   have r9 : W9.rangeAt L 0 lg.cells := Box.range [] lg.cells [] (by simpa using bL9)
   obtain ⟨WF, hWF, hwF, hsF, HTF, HLF, bF⟩ := log_out lg _ rfl bR9
   have hWF' : Hid (W9.setCells w.heap.size 0 lg.cells.toArray.toList = WF) := hWF.out
   have hrF : ∀ v bl, Touch bl WF v → (∀ k ∈ bl, k < w.heap.size) → lg.reads v := fun v bl hv hb => HRD.out v (w.heap.size :: bl) (((touch_of hwF).mono (by simp)).trans (hv.mono (fun k hk => List.mem_cons_of_mem _ hk))) (fun k hk => (List.mem_cons.1 hk).elim (fun h1 => by omega) (fun h1 => by have := hb k h1; omega))
   have HEND : Hid (LogAny B zs w (.returned (.agg lg.cells.toArray)) WF) := ⟨lg, rfl, hrF, hlen9, hsh9, hcp9, hcf9, hc9.within hwF (by omega), within_two hw9 hwF (Nat.le_refl _)⟩
   have HO := log_one lg
   have HI : Hid ((Tryz.prog.info? 26).map (·.size) = some lg.cells.length) := log_info lg
   clear hrF bF hwF hsF hWF hw9 hc9 HRD hlen9 hsh9 hcp9 hcf9 bL9 bR9
   go_wp2_with (first | (guard_target = wpList _ _ _ (Oper.mk (some 48) _ _ _ _ _ :: _) _ _; refine wpList_load_mid rfl 26 (.tmp 5) rfl L 0 rfl lg.cells _ r9 Tryz.underlying26 rfl HI.out ?_) | (guard_target = wpList _ _ _ (Oper.mk none (Op.store _ (Operand.tmp 4) _) _ _ _ _ :: _) _ _; refine wpList_store_mid rfl 26 (.tmp 4) (.tmp 48) rfl w.heap.size 0 lg.cells.toArray rfl rfl HTF.out HI.out HO ?_; rw [hWF'.out]) | fail)
   exact bodyPost_ret (v := .agg lg.cells.toArray) (results_one Tryz.results29 rfl HLF.out) rfl HEND.out
 ·have hx0 : ((x : Int) == 0) = false := by simp; omega
  have hx1 : ((x : Int) == 1) = false := by simp; omega
  obtain ⟨W9, hW9⟩ : ∃ W9, Hid (w5 = W9) := ⟨_, rfl⟩
  obtain ⟨L, hL⟩ : ∃ L, Hid (w2.heap.size = L) := ⟨_, rfl⟩
  obtain ⟨lg, hlg⟩ : ∃ lg, Hid (t = lg) := ⟨_, rfl⟩
  have otz := ot5
  have bLz := bL5
  have bRz := bR5
  have hcz := hc5
  have hwz := hw5
  clear ot5 bL5 bR5 hw5 hc5 hs5
  have bL9 : Box W9 L lg.cells 26 := by rw [← hW9.out, ← hL.out, ← hlg.out]; exact bLz
  have bR9 : Box W9 w.heap.size [.slice none 0 0, .int .i64 0] 26 := by rw [← hW9.out]; exact bRz
  have hc9 : CurAt W9 B zs := by rw [← hW9.out]; exact hcz
  have hw9 : Within B (B + 1) w W9 := by rw [← hW9.out]; exact hwz
  have HRD : Hid (∀ v bl, Touch bl W9 v → (∀ k ∈ bl, k ≤ w.heap.size) → lg.reads v) := fun v bl hv hbl => by
   rw [← hW9.out] at hv
   rw [← hlg.out]
   exact LogA.own.reads (LogA.own.touch otz hv (fun k hk hm => by have := (LogA.own.blocks_lt otz k hk).1; have := hbl k hm; omega))
  have hlen9 : lg.recs.length ≤ 262144 := by rw [← hlg.out]; exact hlen
  have hsh9 : ∀ y ∈ lg.recs, y.short 12 := fun y hy => by
   rw [← hlg.out] at hy
   have h1 := hsh y hy
   exact ⟨⟨by have := h1.bf.1; omega, by have := h1.bf.2; omega⟩, ⟨by have := h1.af.1; omega, by have := h1.af.2; omega⟩, by have := h1.txs; omega⟩
  have hcp9 : ∀ y ∈ lg.recs, y.aL = none → y.cL = 0 := fun y hy => by
   rw [← hlg.out] at hy
   exact (OwnRs.each otz y hy).txs.nocap
  have hcf9 : CapFit lg := by rw [← hlg.out]; exact ⟨OwnRs.capLen otz, OwnRs.nilLen otz⟩
  clear otz bLz bRz hwz hcz
  rw [hW9.out, hL.out]
  clear hlen hsh hlg
  have r9 : W9.rangeAt L 0 lg.cells := Box.range [] lg.cells [] (by simpa using bL9)
  obtain ⟨WF, hWF, hwF, hsF, HTF, HLF, bF⟩ := log_out lg _ rfl bR9
  have hWF' : Hid (W9.setCells w.heap.size 0 lg.cells.toArray.toList = WF) := hWF.out
  have hrF : ∀ v bl, Touch bl WF v → (∀ k ∈ bl, k < w.heap.size) → lg.reads v := fun v bl hv hb => HRD.out v (w.heap.size :: bl) (((touch_of hwF).mono (by simp)).trans (hv.mono (fun k hk => List.mem_cons_of_mem _ hk))) (fun k hk => (List.mem_cons.1 hk).elim (fun h1 => by omega) (fun h1 => by have := hb k h1; omega))
  have HEND : Hid (LogAny B zs w (.returned (.agg lg.cells.toArray)) WF) := ⟨lg, rfl, hrF, hlen9, hsh9, hcp9, hcf9, hc9.within hwF (by omega), within_two hw9 hwF (Nat.le_refl _)⟩
  have HO := log_one lg
  have HI : Hid ((Tryz.prog.info? 26).map (·.size) = some lg.cells.length) := log_info lg
  clear hrF bF hwF hsF hWF hw9 hc9 HRD hlen9 hsh9 hcp9 hcf9 bL9 bR9
  go_wp2_with (first | (guard_target = wpList _ _ _ (Oper.mk (some 48) _ _ _ _ _ :: _) _ _; refine wpList_load_mid rfl 26 (.tmp 5) rfl L 0 rfl lg.cells _ r9 Tryz.underlying26 rfl HI.out ?_) | (guard_target = wpList _ _ _ (Oper.mk none (Op.store _ (Operand.tmp 4) _) _ _ _ _ :: _) _ _; refine wpList_store_mid rfl 26 (.tmp 4) (.tmp 48) rfl w.heap.size 0 lg.cells.toArray rfl rfl HTF.out HI.out HO ?_; rw [hWF'.out]) | fail)
  exact bodyPost_ret (v := .agg lg.cells.toArray) (results_one Tryz.results29 rfl HLF.out) rfl HEND.out
end Go.Proofs.YtoboickdkednkaaGreatDoor
namespace Go.Proofs.YtoboickdkednkaaGreatDoor
open Go.RowKit
attribute [local go_sem ↓] Go.wp_at_zero Go.wp_at_succ
theorem l1Size_any (a : Option Addr) (c : Nat) (zs : List Int) (m : Nat) (w : World) (hl : zs.length ≤ 70368744177664) (hm : 0 < m) :
  Calls Tryz.prog 30 #[.slice a zs.length c, .int .i64 m] w fun r w' => ∃ n : Nat, r = .returned (.int .i64 n) ∧ 0 < n ∧ n ≤ m ∧ w' = w := by
 by_cases h : 3 + (zs.length : Int) / 12 > (m : Int)
 ·go_enter Tryz.func30, Tryz.ntmps30
  go_wp2
  go_ret
  exact ⟨m, rfl, hm, Nat.le_refl _, rfl⟩
 ·go_enter Tryz.func30, Tryz.ntmps30
  go_wp2
  go_ret
  exact ⟨3 + zs.length / 12, ret_int (by omega), by omega, by omega, rfl⟩
end Go.Proofs.YtoboickdkednkaaGreatDoor
namespace Go.Proofs.YtoboickdkednkaaGreatDoor
open Go.RowKit
theorem build_rec {w : World} {ops : Array Oper} {rest : List Oper} {dst : Option Nat} {ty : TypeId} {pos : String} {aft : Array Edge} {act : Act} {Q : Exit → Act → World → Prop} (x : Operand)
  (q : RecA) (hx : act.eval x = .agg q.cells.toArray)
  (h : wpList Tryz.prog ops Q rest (act.put dst (.slice (some ⟨w.heap.size, 0, none⟩) 1 1)) (w.alloc (.cells q.cells.toArray 39))) :
  wpList Tryz.prog ops Q ({ dst := dst, op := .buildSlice 24 1 #[(0, x)], type := ty, pos := pos, after := aft, guard := none } :: rest) act w := by
 refine wpList_plain rfl fun K hK => ?_
 unfold Oper.wp execOp
 simp only [List.map_toArray, List.map_cons, List.map_nil, hx]
 go_simp
 simp only [cellsR_len, lit_rec, not_true_eq_false, Nat.lt_irrefl, or_self, if_false]
 go_simp
 exact hK _ _ h
theorem Within.touch1 {B : Nat} {w w' : World} (h : Within B (B + 1) w w') : Touch [B] w w' := ⟨h.os, h.tape, h.output, h.size, fun k hk hn => h.block k hk (fun hh => hn (List.mem_singleton.2 (by omega)))⟩
theorem log_apart {w : World} {B lo hi : Nat} {vs : List Value} {a : Option Addr} {c : Nat} {rs : List RecA} (b : Box w B vs 26) (h : OwnRs w lo hi a c rs) : B ∉ blocksRs a c rs := by
 intro hm
 have hb : w.heap[B]? = some (.cells vs.toArray 26 (0, 0)) := b
 have no : ∀ {b2 s2 n2 : Nat} {e2 : TypeId} {v2 : Value} {x2 : List Value}, w.ownsRow b2 e2 s2 v2 n2 x2 → v2.ownBlock = some B → e2 = 26 := by
  intro b2 s2 n2 e2 v2 x2 h2 hk2
  obtain ⟨cur2, hc2⟩ := ownsRow_at h2 hk2
  rw [hb] at hc2
  simp only [Option.some.injEq, Obj.cells.injEq] at hc2
  exact hc2.2.1.symm
 simp only [blocksRs, List.mem_append, List.mem_flatMap, Option.mem_toList] at hm
 rcases hm with h1 | ⟨r, hr, h1⟩
 ·have := no h.row h1; cases this
 ·have hr' := h.each r hr
  simp only [RecA.blocks, SlotA.blocks, List.mem_append, Option.mem_toList] at h1
  rcases h1 with (h1 | h1) | (h1 | h1) | h1
  ·have := no hr'.bf.ints.1 h1; cases this
  ·have := no hr'.bf.refs.1 h1; cases this
  ·have := no hr'.af.ints.1 h1; cases this
  ·have := no hr'.af.refs.1 h1; cases this
  ·have := no hr'.txs.1 h1; cases this
def RecA.at (r : RecA) (n : Int) : RecA := { r with lsn := n }
theorem at_v (r : RecA) (n : Int) : (r.at n).v = lsnR r.v n := rfl
theorem own_at {w : World} {lo hi : Nat} {r : RecA} (h : r.own w lo hi) (n : Int) : (r.at n).own w lo hi := ⟨h.bf, h.af, h.txs, h.apart⟩
theorem short_at {r : RecA} {m : Nat} (h : r.short m) (n : Int) : (r.at n).short m := ⟨h.bf, h.af, h.txs⟩
theorem appendOf_no {l : LogV} {r : RecV} (h : okLog l = false ∨ l.recs.length = 4000 ∨ okR (lsnR r (l.recs.length + 1)) = false) : appendOf l r = (l, 0) := by
 unfold appendOf
 rw [if_neg]
 rintro ⟨h1, h2, h3⟩
 rcases h with h | h | h
 ·rw [h] at h1; cases h1
 ·exact h2 h
 ·rw [h] at h3; cases h3
theorem appendOf_yes {l : LogV} {r : RecV} (h1 : okLog l = true) (h2 : l.recs.length ≠ 4000) (h3 : okR (lsnR r (l.recs.length + 1)) = true) : appendOf l r = ((⟨l.recs ++ [lsnR r (l.recs.length + 1)], l.sure⟩ : LogV), (l.recs.length : Int) + 1) := by unfold appendOf; rw [if_pos ⟨h1, h2, h3⟩]
theorem rec_set {w : World} {B : Nat} {q : RecA} (b : Box w B q.cells 39) (n : Int) : ∃ W, Hid (w.setCell ⟨B, 0, none⟩ (.int .i64 n) = W) ∧ Box W B (q.at n).cells 39 ∧ Within B (B + 1) w W ∧ W.heap.size = w.heap.size := by
 obtain ⟨W, hW, bW, hw, hs⟩ := box_set b 0 (.int .i64 n)
 exact ⟨W, hW, bW, hw, hs⟩
theorem specAppend_any (l : LogA) (r : RecA) (w : World) (hr : l.reads w) (hl : l.short 1048576) (hcp : ∀ r ∈ l.recs, r.aL = none → r.cL = 0) (hrr : r.reads w) (hrs : r.short 1099511627776) (hrc : r.aL = none → r.cL = 0) :
  Calls Tryz.prog 16 #[.agg l.cells.toArray, .agg r.cells.toArray] w fun e w' => ∃ (t : LogA) (n : Int), e = .returned (.tuple #[.agg t.cells.toArray, .int .i64 n]) ∧ Hid ((t.v, n) = appendOf l.v r.v) ∧ t.own w' w.heap.size w'.heap.size ∧ Below w.heap.size w w' := by
 have HNO : Hid (okLog l.v = false ∨ l.recs.length = 4000 ∨ okR (lsnR r.v (l.recs.length + 1)) = false → appendOf l.v r.v = (l.v, 0)) := fun h => appendOf_no (by rw [l.v_len]; exact h)
 have HYES : Hid (okLog l.v = true → l.recs.length ≠ 4000 → okR (lsnR r.v (l.recs.length + 1)) = true → appendOf l.v r.v = (⟨l.v.recs ++ [lsnR r.v (l.recs.length + 1)], l.sure⟩, (l.recs.length : Int) + 1)) := fun h1 h2 h3 => by have := appendOf_yes h1 (by rw [l.v_len]; exact h2) (by rw [l.v_len]; exact h3); rw [l.v_len] at this; exact this
 have hll := hl.len
 obtain ⟨W, hW, b0, b1, b2, hbW, hsW⟩ := boxes3 w l.cells r.cells [.slice none 0 0, .int .i64 0] 26 39 26
 have hs0 : w.heap.size + 1 + 1 < W.heap.size := by omega
 clear hsW
 have HI : Hid ((Tryz.prog.info? 39).map (·.size) = some 15) := by rw [Hid]; kernel_rfl
 have HX : Hid (∀ u, Below W.heap.size W u → Box u w.heap.size l.cells 26) := fun u hu => b0.below hu b0.lt
 have HR1 : Hid (∀ u, Below W.heap.size W u → u.rangeAt (w.heap.size + 1) 0 r.cells) := fun u hu => Box.range [] r.cells [] (by simpa using b1.below hu b1.lt)
 have HW2 : Hid (∀ u, Below W.heap.size W u → Box u (w.heap.size + 1 + 1) [.slice none 0 0, .int .i64 0] 26) := fun u hu => b2.below hu b2.lt
 have C1 := l5Copy_any l W (hr.below hbW) hl hcp
 simp only [LogA.cells] at b0 hW HX C1 ⊢
 have x0 := b0.cell 0 _ rfl
 have x1 := b0.cell 1 _ rfl
 clear b0 b1 b2
 go_enter Tryz.func16, Tryz.ntmps16
 go_wp2_with fail
 rw [hW.out]
 clear hW
 refine C1.mono ?_
 clear C1 x0 x1
 rintro e w1 ⟨t, rfl, hv, ho, hb1⟩
 have hs1 := hb1.size
 obtain ⟨W2, hW2, k6, hb2, hs2⟩ := boxes1 w1 [.slice t.a t.recs.length t.c, .int .i64 t.sure] 26
 have hlt2 := k6.lt
 have hs2' := hb2.size
 clear hs2
 have B2 : Below W.heap.size W W2 := hb1.trans (hb2.mono hs1)
 have ot : LogA.own W2 W.heap.size w1.heap.size t := LogA.own.below ho hb2
 have HV : Hid (t.v = l.v) := hv.out
 have HTL : Hid (t.recs.length = l.recs.length ∧ t.sure = l.sure ∧ t.recs.map RecA.v = l.v.recs) := by
  have h := hv.out
  simp only [LogA.v, LogV.mk.injEq] at h
  exact ⟨mapV_len h.1, h.2, h.1⟩
 have C2 := l5CopyRec_own r W2 (hrr.below (hbW.trans (B2.mono hbW.size))) hrs hrc
 clear hv ho hb1 hb2
 go_upto_region 2 with fail
 rw [hW2.out]
 clear hW2
 go_wp2_with (first | (guard_target = wpList _ _ _ (Oper.mk (some 10) _ _ _ _ _ :: _) _ _; refine wpList_load_mid rfl 39 (.tmp 3) rfl (w.heap.size + 1) 0 rfl r.cells _ (HR1.out _ B2) Tryz.underlying39 rfl HI.out ?_) | fail)
 refine C2.mono ?_
 clear C2
 rintro e w3 ⟨q, rfl, hq, oq, hb3⟩
 have hs3 := hb3.size
 have B3 : Below W.heap.size W w3 := B2.trans (hb3.mono (by omega))
 have k63 := k6.below hb3 k6.lt
 have ot3 := LogA.own.below ot hb3
 have HQS : Hid (q.short 1099511627776) := Go.Proofs.YtoboickdkednkaaGreatDoor.short_of hq.out hrs
 have HQV : Hid (q.v = r.v) := hq.out
 clear k6 ot hb3 hq B2
 obtain ⟨W4, hW4, z4, hb4, hs4⟩ := boxes1 w3 [.int .i64 0, .int .i64 0, .int .i64 0, .int .i64 0, .int .i64 0, .bool false, .int .i64 0, .slice none 0 0, .slice none 0 0, .bool false, .int .i64 0, .slice none 0 0, .slice none 0 0, .int .i64 0, .slice none 0 0] 39
 obtain ⟨W5, hW5, hw5, hs5, HT5, _, z5⟩ := rec_out q _ rfl z4
 have N5 : Below w3.heap.size w3 W5 := hb4.trans (hw5.below (Nat.le_refl _) (by omega))
 have hlt5 := z5.lt
 have B5 : Below W.heap.size W W5 := B3.trans (N5.mono (by omega))
 have k65 := k63.below N5 k63.lt
 have ot5 := LogA.own.below ot3 N5
 have oq5 := oq.below N5
 have hs5' := N5.size
 have hOq := rec_one q
 clear z4 hb4 hw5 hs4 hs5 k63 ot3 oq N5
 have p0 := (HX.out W5 B5).cell 0 _ rfl
 have zc := z5.cell 0 _ rfl
 have zf := z5.frozen 0
 go_upto_region 3 with (first | (guard_target = wpList _ _ _ (Oper.mk none (Op.store _ (Operand.tmp 7) _) _ _ _ _ :: _) _ _; refine wpList_store_mid rfl 39 (.tmp 7) (.tmp 11) rfl w3.heap.size 0 q.cells.toArray rfl rfl (by rw [hW4.out]; exact HT5.out) HI.out hOq ?_) | fail)
 rw [hW4.out, hW5.out]
 clear hW4 hW5 HT5 hOq
 obtain ⟨W6, hW6, z6, hw6, hs6⟩ := rec_set z5 ((l.recs.length : Int) + 1)
 have hs6a := Nat.le_of_eq hs6
 have hs6b := Nat.le_of_eq hs6.symm
 clear hs6 z5
 have B6 : Below W.heap.size W W6 := B5.trans (hw6.below (by omega) (by omega))
 have k66 := k65.within hw6 (by omega)
 have ot6 := LogA.own.within ot5 hw6 (.inl (by omega))
 have oq6 := own_at (oq5.within hw6 (.inl (by omega))) ((l.recs.length : Int) + 1)
 have HQS6 : Hid ((q.at ((l.recs.length : Int) + 1)).short 1099511627776) := short_at HQS.out _
 have HXV : Hid ((q.at ((l.recs.length : Int) + 1)).v = lsnR r.v ((l.recs.length : Int) + 1)) := by rw [Hid, at_v, HQV.out]
 have HX0 : Hid ((q.at ((l.recs.length : Int) + 1)).lsn = (l.recs.length : Int) + 1) := rfl
 have D6 : Below w.heap.size w W6 := hbW.trans (B6.mono hbW.size)
 clear hw6 k65 ot5 oq5 B5 HQS
 go_upto_region 4 with fail
 rw [hW6.out]
 clear hW6 p0 zc zf
 generalize q.at ((l.recs.length : Int) + 1) = x at *
 have C3 := specLogOk_any l W6 (hr.below D6) (LogA.short_wide hl)
 simp only [LogA.cells] at C3
 have p0 := (HX.out W6 B6).cell 0 _ rfl
 have p1 := (HX.out W6 B6).cell 1 _ rfl
 go_wp2_with fail
 refine C3.mono ?_
 clear C3 p0 p1
 generalize okLog l.v = R at *
 rintro e w7 ⟨rfl, hb7⟩
 have hs7 := hb7.size
 have B7 : Below W.heap.size W w7 := B6.trans (hb7.mono (by omega))
 have k67 := k66.below hb7 k66.lt
 have z7 := z6.below hb7 z6.lt
 have ot7 := LogA.own.below ot6 hb7
 have ox7 := oq6.below hb7
 have D7 : Below w.heap.size w w7 := D6.trans (hb7.mono D6.size)
 clear k66 z6 ot6 oq6 hb7 B6 D6
 have p0 := (HX.out w7 B7).cell 0 _ rfl
 cases R with
 | false =>
  have HOUT : Hid ((t.v, (0 : Int)) = appendOf l.v r.v) := by rw [Hid, HNO.out (.inl rfl), HV.out]
  have k6 := k67
  have k2 := HW2.out w7 B7
  have ot := ot7
  have DD := D7
  clear k67 ot7 D7 HNO HYES HTL z7 ox7
  have e0 := k6.cell 0 _ rfl
  have e1 := k6.cell 1 _ rfl
  have m0 := k2.cell 0 _ rfl
  have m1 := k2.cell 1 _ rfl
  have mf0 := k2.frozen 0
  have mf1 := k2.frozen 1
  obtain ⟨WF, hWF, bF, hwF, hsF⟩ := box2_fill k2 (.slice t.a t.recs.length t.c) (.int .i64 t.sure)
  have q0 := bF.cell 0 _ rfl
  have q1 := bF.cell 1 _ rfl
  have hoF := (LogA.own.within ot hwF (.inr (by omega))).widen (show w.heap.size ≤ W.heap.size by omega) (show w1.heap.size ≤ WF.heap.size by omega) (Nat.le_refl _)
  have hbF : Below w.heap.size w WF := DD.trans (hwF.below (by omega) (by omega))
  have HF : Hid (_ ∧ _ ∧ _) := ⟨HOUT, hoF, hbF⟩
  clear hwF hsF bF hoF hbF HOUT
  go_wp2_with fail
  rw [hWF.out]
  exact bodyPost_ret (v := .tuple #[.agg #[.slice t.a t.recs.length t.c, .int .i64 t.sure], .int .i64 0]) (by simp [results, Tryz.results16, go_sem, q0, q1]) rfl ⟨t, 0, rfl, HF.out.1, HF.out.2.1, HF.out.2.2⟩
 | true =>
  by_cases h4 : l.recs.length = 4000
  ·have HOUT : Hid ((t.v, (0 : Int)) = appendOf l.v r.v) := by rw [Hid, HNO.out (.inr (.inl h4)), HV.out]
   have h4b : ((l.recs.length : Int) == 4000) = true := by simp only [beq_iff_eq]; omega
   have k6 := k67
   have k2 := HW2.out w7 B7
   have ot := ot7
   have DD := D7
   clear k67 ot7 D7 HNO HYES HTL z7 ox7 h4
   have e0 := k6.cell 0 _ rfl
   have e1 := k6.cell 1 _ rfl
   have m0 := k2.cell 0 _ rfl
   have m1 := k2.cell 1 _ rfl
   have mf0 := k2.frozen 0
   have mf1 := k2.frozen 1
   obtain ⟨WF, hWF, bF, hwF, hsF⟩ := box2_fill k2 (.slice t.a t.recs.length t.c) (.int .i64 t.sure)
   have q0 := bF.cell 0 _ rfl
   have q1 := bF.cell 1 _ rfl
   have hoF := (LogA.own.within ot hwF (.inr (by omega))).widen (show w.heap.size ≤ W.heap.size by omega) (show w1.heap.size ≤ WF.heap.size by omega) (Nat.le_refl _)
   have hbF : Below w.heap.size w WF := DD.trans (hwF.below (by omega) (by omega))
   have HF : Hid (_ ∧ _ ∧ _) := ⟨HOUT, hoF, hbF⟩
   clear hwF hsF bF hoF hbF HOUT
   go_wp2_with fail
   rw [hWF.out]
   exact bodyPost_ret (v := .tuple #[.agg #[.slice t.a t.recs.length t.c, .int .i64 t.sure], .int .i64 0]) (by simp [results, Tryz.results16, go_sem, q0, q1]) rfl ⟨t, 0, rfl, HF.out.1, HF.out.2.1, HF.out.2.2⟩
  ·have h4b : ((l.recs.length : Int) == 4000) = false := by simp only [beq_eq_false_iff_ne]; omega
   have C4 := specRecOk_any x w7 ox7.reads HQS6.out
   have HRX : Hid (w7.rangeAt w3.heap.size 0 x.cells) := Box.range [] x.cells [] (by simpa using z7)
   go_wp2_with (first | (guard_target = wpList _ _ _ (Oper.mk (some 27) _ _ _ _ _ :: _) _ _; refine load_if (by rfl) 39 (.tmp 7) rfl w3.heap.size 0 rfl x.cells _ HRX.out Tryz.underlying39 rfl HI.out ?_) | fail)
   refine C4.mono ?_
   clear C4 HRX p0
   rintro e w8 ⟨rfl, hb8⟩
   have hs8 := hb8.size
   have B8 : Below W.heap.size W w8 := B7.trans (hb8.mono (by omega))
   have k68 := k67.below hb8 k67.lt
   have z8 := z7.below hb8 z7.lt
   have ot8 := LogA.own.below ot7 hb8
   have ox8 := ox7.below hb8
   have D8 : Below w.heap.size w w8 := D7.trans (hb8.mono D7.size)
   clear k67 z7 ot7 ox7 hb8 B7 D7
   cases hR : okR x.v with
   | false =>
    have HOUT : Hid ((t.v, (0 : Int)) = appendOf l.v r.v) := by rw [Hid, HNO.out (.inr (.inr (by rw [← HXV.out]; exact hR))), HV.out]
    have k6 := k68
    have k2 := HW2.out w8 B8
    have ot := ot8
    have DD := D8
    clear k68 ot8 D8 HNO HYES HTL z8 ox8 h4
    have e0 := k6.cell 0 _ rfl
    have e1 := k6.cell 1 _ rfl
    have m0 := k2.cell 0 _ rfl
    have m1 := k2.cell 1 _ rfl
    have mf0 := k2.frozen 0
    have mf1 := k2.frozen 1
    obtain ⟨WF, hWF, bF, hwF, hsF⟩ := box2_fill k2 (.slice t.a t.recs.length t.c) (.int .i64 t.sure)
    have q0 := bF.cell 0 _ rfl
    have q1 := bF.cell 1 _ rfl
    have hoF := (LogA.own.within ot hwF (.inr (by omega))).widen (show w.heap.size ≤ W.heap.size by omega) (show w1.heap.size ≤ WF.heap.size by omega) (Nat.le_refl _)
    have hbF : Below w.heap.size w WF := DD.trans (hwF.below (by omega) (by omega))
    have HF : Hid (_ ∧ _ ∧ _) := ⟨HOUT, hoF, hbF⟩
    clear hwF hsF bF hoF hbF HOUT
    go_wp2_with fail
    rw [hWF.out]
    exact bodyPost_ret (v := .tuple #[.agg #[.slice t.a t.recs.length t.c, .int .i64 t.sure], .int .i64 0]) (by simp [results, Tryz.results16, go_sem, q0, q1]) rfl ⟨t, 0, rfl, HF.out.1, HF.out.2.1, HF.out.2.2⟩
   | true =>
    have HAP := HYES.out (by first | rfl | trivial) h4 (by rw [← HXV.out]; exact hR)
    have HAP' : Hid (appendOf l.v r.v = _) := HAP
    clear HNO HYES HAP
    have e0 := k68.cell 0 _ rfl
    have HRX : Hid (w8.rangeAt w3.heap.size 0 x.cells) := Box.range [] x.cells [] (by simpa using z8)
    obtain ⟨W9, hW9, y9, hb9, hs9⟩ := boxes1 w8 x.cells 39
    have hlt9 := y9.lt
    have hs9' := hb9.size
    clear hs9
    have R9 : Hid (W9.rangeAt w8.heap.size 0 x.cells) := Box.range [] x.cells [] (by simpa using y9)
    have B9 : Below W.heap.size W W9 := B8.trans (hb9.mono (by omega))
    have k69 := k68.below hb9 k68.lt
    have z9 := z8.below hb9 z8.lt
    have ot9 := LogA.own.below ot8 hb9
    have ox9 := ox8.below hb9
    have D9 : Below w.heap.size w W9 := D8.trans (hb9.mono D8.size)
    have hll9 : t.recs.length + 1 ≤ 68719476736 := by have := HTL.out.1; omega
    have hs12 : W.heap.size ≤ w1.heap.size := hs1
    go_wp2_with (first | (guard_target = wpList _ _ _ (Oper.mk (some 34) _ _ _ _ _ :: _) _ _; refine wpList_load_mid rfl 39 (.tmp 7) rfl w3.heap.size 0 rfl x.cells _ HRX.out Tryz.underlying39 rfl HI.out ?_) | (guard_target = wpList _ _ _ (Oper.mk (some 35) _ _ _ _ _ :: _) _ _; refine build_rec (.tmp 34) x rfl ?_; rw [hW9.out]) | (at_builtin; refine append_rec rfl _ _ rfl W.heap.size w1.heap.size t.a t.c t.recs rfl ot9 w8.heap.size 0 1 x rfl R9.out W2.heap.size w3.heap.size ox9 (by omega) (by omega) hll9 (by omega) ?_))
    intro a10 c10 w10 o10 g10
    have hw10 : Within W.heap.size w1.heap.size W9 w10 := Within.of_grown g10 (fun j hj => ⟨(OwnRs.row ot9).lt j hj |>.1, OwnRs.blk ot9 j hj⟩)
    have hs10 := hw10.size
    have k6a := k69.within hw10 (by omega)
    have z10 := z9.within hw10 (by omega)
    have B10 : Below W.heap.size W w10 := B9.trans (hw10.below (Nat.le_refl _) (by omega))
    have D10 : Below w.heap.size w w10 := hbW.trans (B10.mono hbW.size)
    have e0 := k6a.cell 0 _ rfl
    have ef0 := k6a.frozen 0
    obtain ⟨W11, hW11, k6b, hw11, hs11⟩ := box_set k6a 0 (.slice a10 (t.recs.length + 1) c10)
    simp only [List.set] at k6b
    have hs11a := Nat.le_of_eq hs11
    have hs11b := Nat.le_of_eq hs11.symm
    clear hs11
    have z11 := z10.within hw11 (by omega)
    have B11 : Below W.heap.size W W11 := B10.trans (hw11.below (by omega) (by omega))
    have oRow := o10.touch hw11.touch1 (fun k hk hk' => log_apart k6a o10 (by rw [← List.mem_singleton.1 hk']; exact hk))
    have k2b := HW2.out W11 B11
    have D11 : Below w.heap.size w W11 := hbW.trans (B11.mono hbW.size)
    have HFV : Hid ((⟨t.recs ++ [x], t.sure, a10, c10⟩ : LogA).v = (⟨l.v.recs ++ [lsnR r.v ((l.recs.length : Int) + 1)], l.sure⟩ : LogV)) := by
     have e3 := HTL.out.2.2
     simp only [Hid, LogA.v, List.map_append, List.map_cons, List.map_nil, HXV.out, HTL.out.2.1]
     rw [e3]
     rfl
    go_upto_region 7 with fail
    rw [hW11.out]
    clear hW11 e0 ef0 hw10 hw11 k6a z10 k69 z9 ot9 ox9 g10 R9 hW9
    obtain ⟨WF, hWF, bF, hwF, hsF⟩ := box2_fill k2b (.slice a10 (t.recs.length + 1) c10) (.int .i64 t.sure)
    have q0 := bF.cell 0 _ rfl
    have q1 := bF.cell 1 _ rfl
    have hoF : (⟨t.recs ++ [x], t.sure, a10, c10⟩ : LogA).own WF w.heap.size WF.heap.size := (oRow.within hwF (.inr (by omega))).widen (show w.heap.size ≤ W.heap.size by omega) (show w10.heap.size ≤ WF.heap.size by omega) (Nat.le_refl _)
    have hbF : Below w.heap.size w WF := D11.trans (hwF.below (by omega) (by omega))
    have hoD : (⟨t.recs ++ [x], t.sure, a10, c10⟩ : LogA).own WF.drew w.heap.size WF.drew.heap.size := hoF.below (Below.refl _ _).drew
    have HF : Hid (_ ∧ _ ∧ _) := ⟨HFV.out, hoD, hbF.drew⟩
    clear hoD
    have HS : Hid (∀ u, Within (w.heap.size + 1 + 1) (w.heap.size + 1 + 1 + 1) W11 u → (u.cell? ⟨w1.heap.size, 0, none⟩ = some (.slice a10 (t.recs.length + 1) c10) ∧ u.cell? ⟨w1.heap.size, 1, none⟩ = some (.int .i64 t.sure)) ∧ u.cell? ⟨w3.heap.size, 0, none⟩ = some (.int .i64 x.lsn)) := fun u hu => ⟨⟨(k6b.within hu (by omega)).cell 0 _ rfl, (k6b.within hu (by omega)).cell 1 _ rfl⟩, (z11.within hu (by omega)).cell 0 _ rfl⟩
    have m0 := k2b.cell 0 _ rfl
    have m1 := k2b.cell 1 _ rfl
    have mf0 := k2b.frozen 0
    have mf1 := k2b.frozen 1
    have HSF : Hid _ := HS.out WF.drew (hwF.trans (Within.of_below (Below.refl _ _).drew))
    have HLN : Hid (x.lsn = (l.recs.length : Int) + 1) := HX0
    clear hwF hsF bF hoF hbF oRow k6b z11 k2b
    refine wp_region_held_drew (S := fun u => (u.cell? ⟨w1.heap.size, 0, none⟩ = some (.slice a10 (t.recs.length + 1) c10) ∧ u.cell? ⟨w1.heap.size, 1, none⟩ = some (.int .i64 t.sure)) ∧ u.cell? ⟨w3.heap.size, 0, none⟩ = some (.int .i64 x.lsn)) (by kernel_rfl) ?_ (fun hHeld => ?_)
    ·exact HS.out _ (Within.of_below (Below.refl _ _).drew)
    refine tk 0 (v := .agg #[.slice a10 (t.recs.length + 1) c10, .int .i64 t.sure]) rfl (Or.inl ⟨by rfl, ?_⟩) hHeld ?_
    ·intro w' hSw
     have hx0 := hSw.1.1
     have hx1 := hSw.1.2
     go_simp <;> rfl
    try simp only [Act.put, zA, zB, zD, zE, zF]
    refine tk 1 (v := .pointer (some ⟨w3.heap.size, 0, none⟩)) rfl (Or.inl ⟨by rfl, ?_⟩) hHeld ?_
    ·intro w' hSw
     go_simp <;> rfl
    try simp only [Act.put, zA, zB, zC, zD, zE, zF]
    refine tk 2 (v := .int .i64 x.lsn) rfl (Or.inl ⟨by rfl, ?_⟩) hHeld ?_
    ·intro w' hSw
     have hx0 := hSw.2
     go_simp <;> rfl
    try simp only [Act.put, zA, zB, zC, zD, zE, zF]
    refine wpAnyH_ready (rs := [3]) (by kernel_rfl) (by simp) ?_
    refine AllReadyH.cons rfl (fun K hK => ?_) AllReadyH.nil
    go_simp
    rw [hWF.out]
    refine hK.out _ _ (HSF.out) (fun hHeld => ?_)
    clear hK K
    try simp only [Act.put, zA, zB, zC, zD, zE, zF]
    refine tk 4 (v := .int .i64 x.lsn) rfl (Or.inl ⟨by rfl, ?_⟩) hHeld ?_
    ·intro w' hSw
     go_simp <;> rfl
    try simp only [Act.put, zA, zB, zC, zD, zE, zF]
    refine wpAnyH_done (by kernel_rfl) ?_ _
    clear m0 m1 mf0 mf1 hWF
    go_wp2
    exact bodyPost_ret (v := .tuple #[.agg #[.slice a10 (t.recs.length + 1) c10, .int .i64 t.sure], .int .i64 x.lsn]) (by simp [results, Tryz.results16, go_sem, q0, q1]) rfl ⟨⟨t.recs ++ [x], t.sure, a10, c10⟩, x.lsn, by simp, by rw [Hid, HAP'.out, HF.out.1, HLN.out], HF.out.2.1, HF.out.2.2⟩
end Go.Proofs.YtoboickdkednkaaGreatDoor
namespace Go.Proofs.YtoboickdkednkaaGreatDoor
open Go.RowKit
attribute [local go_sem ↓] Go.wp_at_zero Go.wp_at_succ
def AppendDrawn (w : World) (r : Ending) (w' : World) : Prop := ∃ (l : LogA) (x : RecA), r = .returned (.tuple #[.agg l.cells.toArray, .agg x.cells.toArray]) ∧ l.reads w' ∧ l.recs.length ≤ 262144 ∧ (∀ x ∈ l.recs, x.short 12) ∧ (∀ x ∈ l.recs, x.aL = none → x.cL = 0) ∧ x.reads w' ∧ x.short 12 ∧ (x.aL = none → x.cL = 0) ∧ Below w.heap.size w w'
theorem results_two {P : Program} {fn : Func} {s t : Nat} {ty tz : TypeId} {tmps : Array Value} {w : World} {v u : Value} {ad ae : Addr} (hf : fn.results = #[.cell s ty, .cell t tz]) (ht : tmps[s]?.getD undef = .pointer (some ad)) (hu : tmps[t]?.getD undef = .pointer (some ae)) (hl : (loadVar ty ad).run P w = .ok v w) (hm : (loadVar tz ae).run P w = .ok u w) : (results fn tmps).run P w = .ok (.tuple #[v, u]) w := by
 unfold results
 rw [hf]
 simp [ht, hu, asAddr, hl, hm]
theorem Touch.past {bl : List Nat} {w w1 w2 : World} {C : Nat} (h : Touch bl w w1) (hw : Within C (C + 1) w1 w2) (hC : w.heap.size ≤ C) : Touch bl w w2 :=
 ⟨hw.os.trans h.os, hw.tape.trans h.tape, hw.output.trans h.output, Nat.le_trans h.size hw.size, fun k hk hn => (hw.block k (by have := h.size; omega) (by omega)).trans (h.block k hk hn)⟩
theorem drawAppend_any (a : Option Addr) (c : Nat) (zs : List Int) (w : World) (hr : Reads w a zs) (hl : zs.length ≤ 70368744177664) :
  Calls Tryz.prog 14 #[.slice a zs.length c] w fun r w' => AppendDrawn w r w' := by
 obtain ⟨W, hW, bR, bX, hbW, hsW⟩ := boxes2 w [.slice none 0 0, .int .i64 0] [.int .i64 0, .int .i64 0, .int .i64 0, .int .i64 0, .int .i64 0, .bool false, .int .i64 0, .slice none 0 0, .slice none 0 0, .bool false, .int .i64 0, .slice none 0 0, .slice none 0 0, .int .i64 0, .slice none 0 0] 26 39
 have bX' : Box W (w.heap.size + 1) zeroR.cells 39 := bX
 have hws : w.heap.size + 1 < W.heap.size := bX.lt
 have C1 := l1New_any a c zs W (hr.below hbW) hl
 clear hsW bX
 go_enter Tryz.func14, Tryz.ntmps14
 go_wp2_with fail
 rw [hW.out]
 refine C1.mono ?_
 clear C1 hW
 rintro r w1 ⟨rfl, hc1, hb1⟩
 have s1 := hb1.size
 have lc := hc1.lt
 have bR1 := bR.below hb1 bR.lt
 have bX1 := bX'.below hb1 bX'.lt
 have N1 : Below w.heap.size w w1 := hbW.trans (hb1.mono hbW.size)
 have C2 := l1Size_any a c zs 12 w1 hl (by omega)
 clear hb1 hbW bR bX'
 go_wp2_with fail
 refine C2.mono ?_
 clear C2
 rintro r w2 ⟨n, rfl, hn0, hn16, rfl⟩
 have C3 := l5DrawAny_any W.heap.size zs (n : Int) w2 hc1 hl (by omega) (by omega)
 go_wp2_with fail
 refine C3.mono ?_
 clear C3
 rintro r w3 ⟨l, rfl, hrd, hlen, hsh, hcp, hcf, hc3, hw3⟩
 have s3 := hw3.size
 have bR3 := bR1.within hw3 (by omega)
 have bX3 := bX1.within hw3 (by omega)
 have N3 : Below w.heap.size w w3 := N1.trans (hw3.below (by omega) (by omega))
 obtain ⟨W4, hW4, b4, hb4, hs4⟩ := boxes1 w3 [.slice l.a l.recs.length l.c, .int .i64 l.sure] 26
 have hc4 := hc3.below hb4
 have bR4 := bR3.below hb4 bR3.lt
 have bX4 := bX3.below hb4 bX3.lt
 have N4 : Below w.heap.size w W4 := N3.trans (hb4.mono N3.size)
 have T4 : Touch [W.heap.size] w3 W4 := Touch.of_below hb4
 have s4 := b4.lt
 have C5 := l4DrawAny_any W.heap.size zs W4 hc4 hl
 have HRD : Hid (∀ v bl, Touch bl w3 v → (∀ k ∈ bl, k < w2.heap.size) → l.reads v) := hrd
 simp only [LogA.cells] at *
 clear hb4 hs4 bR1 bX1 bR3 bX3 N1 N3 hc1 hc3 hw3 hrd hc4
 go_upto_region 3 with fail
 rw [hW4.out]
 clear hW4
 go_wp2_with fail
 refine C5.mono ?_
 clear C5
 rintro r w5 ⟨t, rfl, hts, ot, hc5, hw5⟩
 have s5 := hw5.size
 have bR5 := bR4.within hw5 (by omega)
 have bX5 := bX4.within hw5 (by omega)
 have b45 := b4.within hw5 (by omega)
 have N5 : Below w.heap.size w w5 := N4.trans (hw5.below (by omega) (by omega))
 have T5 : Touch [W.heap.size] w3 w5 := T4.trans (touch_of hw5)
 obtain ⟨W6, hW6, b6, hb6, hs6⟩ := boxes1 w5 [.int .i64 0, .int .i64 0, .int .i64 0, .int .i64 0, .int .i64 0, .bool false, .int .i64 0, .slice none 0 0, .slice none 0 0, .bool false, .int .i64 0, .slice none 0 0, .slice none 0 0, .int .i64 0, .slice none 0 0] 39
 obtain ⟨W7, hW7, hw7, hs7, HT7, _, b7⟩ := rec_out t _ rfl b6
 have N67 : Below w5.heap.size w5 W7 := hb6.trans (hw7.below (Nat.le_refl _) (by omega))
 have bR7 := bR5.below N67 bR5.lt
 have bX7 := bX5.below N67 bX5.lt
 have b47 := b45.below N67 b45.lt
 have ot7 := ot.below N67
 have hc7 := hc5.below N67
 have N7 : Below w.heap.size w W7 := N5.trans (N67.mono N5.size)
 have T7 : Touch [W.heap.size] w3 W7 := T5.trans (Touch.of_below N67)
 have s7 := b7.lt
 have HW7 : Hid (W6.setCells w5.heap.size 0 t.cells.toArray.toList = W7) := hW7.out
 have HI7 : Hid ((Tryz.prog.info? 39).map (·.size) = some t.cells.toArray.size) := rec_info t
 have HO7 := rec_one t
 have m0 := b47.cell 0 _ rfl
 have C8 := l1Below_any W.heap.size zs ((l.recs.length : Int) + 2) W7 hc7 hl (by omega)
 clear hs6 hs7 hw7 hb6 b6 hW7 bR4 bR5 bX4 bX5 b4 b45 N4 N5 T4 T5 hc5 hw5 ot hc7
 go_wp2_with (first | (guard_target = wpList _ _ _ (Oper.mk none (Op.store _ (Operand.tmp 6) _) _ _ _ _ :: _) _ _; refine wpList_store_mid rfl 39 (.tmp 6) (.tmp 14) rfl w5.heap.size 0 t.cells.toArray rfl rfl (by rw [hW6.out]; exact HT7.out) HI7.out HO7 ?_; rw [hW6.out, HW7.out]) | fail)
 refine C8.mono ?_
 clear C8 m0 hW6 HW7 HT7
 rintro r w8 ⟨px, rfl, _, hc8, hg8⟩
 have hw8 := within_cur hg8
 have s8 := hw8.size
 have bR8 := bR7.within hw8 (by omega)
 have bX8 := bX7.within hw8 (by omega)
 have b48 := b47.within hw8 (by omega)
 have b78 := b7.within hw8 (by omega)
 have ot8 := ot7.within hw8 (.inr (by omega))
 have N8 : Below w.heap.size w w8 := N7.trans (hw8.below (by omega) (by omega))
 have T8 : Touch [W.heap.size] w3 w8 := T7.trans (touch_of hw8)
 obtain ⟨W9, hW9, b9, hw9, hs9⟩ := box_set b78 2 (.int .i64 (px : Int))
 obtain ⟨x, hx⟩ : ∃ x : RecA, Hid ((⟨t.lsn, t.tx, (px : Int), t.kind, t.oid, t.bf, t.af, t.next, t.txs, t.aL, t.cL⟩ : RecA) = x) := ⟨_, rfl⟩
 have b9x : Box W9 w5.heap.size x.cells 39 := by rw [← hx.out]; exact b9
 have hxs : x.short 12 := by rw [← hx.out]; exact ⟨hts.bf, hts.af, hts.txs⟩
 have ot9 := ot8.within hw9 (.inl (by omega))
 have ox9 : x.own W9 W4.heap.size w5.heap.size := by rw [← hx.out]; exact ⟨ot9.bf, ot9.af, ot9.txs, ot9.apart⟩
 have hxc : x.aL = none → x.cL = 0 := ox9.txs.nocap
 have bR9 := bR8.within hw9 (by omega)
 have bX9 := bX8.within hw9 (by omega)
 have b49 := b48.within hw9 (by omega)
 have N9 : Below w.heap.size w W9 := N8.trans (hw9.below (by omega) (by omega))
 have T9 : Touch [W.heap.size] w3 W9 := T8.past hw9 (by omega)
 have n2 := b78.cell 2 _ rfl
 have nf2 := b78.frozen 2
 clear hg8 hw8 hw9 b7 b78 b9 bR7 bR8 bX7 bX8 b47 b48 ot7 ot8 ot9 N7 N8 T7 T8 hx hts hc8
 have hs9a := Nat.le_of_eq hs9
 have hs9b := Nat.le_of_eq hs9.symm
 clear hs9
 go_upto_region 5 with fail
 rw [hW9.out]
 clear hW9 n2 nf2
 have D9 : Below W9.heap.size W9 W9.drew := (Below.refl _ _).drew
 obtain ⟨w10, hw10⟩ : ∃ w10, Hid (W9.drew = w10) := ⟨_, rfl⟩
 rw [hw10.out] at D9
 have s10 := D9.size
 have bRa := bR9.below D9 bR9.lt
 have bXa := bX9.below D9 bX9.lt
 have b4a := b49.below D9 b49.lt
 have bxa := b9x.below D9 b9x.lt
 have oxa := ox9.below D9
 have Na : Below w.heap.size w w10 := N9.trans (D9.mono N9.size)
 have Ta : Touch [W.heap.size] w3 w10 := T9.trans (Touch.of_below D9)
 clear bR9 bX9 b49 b9x ox9 N9 T9 D9
 obtain ⟨WL, hWL, hwL, hsL, HTL, _, bL⟩ := log_out l _ rfl bRa
 have bXL := bXa.within hwL (by omega)
 obtain ⟨WF, hWF, hwF, hsF, HTF, HLR0, bXF⟩ := rec_out x _ rfl bXL
 have bLF := bL.within hwF (by omega)
 have HLF := log_load l bLF
 have HFF : Hid (l.reads WF ∧ x.reads WF ∧ Below w.heap.size w WF) := ⟨HRD.out WF [W.heap.size, w.heap.size, w.heap.size + 1] (((Ta.mono (by simp)).trans ((touch_of hwL).mono (by simp))).trans ((touch_of hwF).mono (by simp))) (fun k hk => by
  simp only [List.mem_cons, List.not_mem_nil, or_false] at hk
  rcases hk with h1 | h1 | h1 <;> omega), ((oxa.within hwL (.inr (by omega))).within hwF (.inr (by omega))).reads, (Na.trans (hwL.below (by omega) (by omega))).trans (hwF.below (by omega) (by omega))⟩
 have HSa : Hid (∀ u, Box u w3.heap.size l.cells 26 → Box u w5.heap.size x.cells 39 → u.rangeAt w3.heap.size 0 l.cells ∧ u.rangeAt w5.heap.size 0 x.cells) := fun u h1 h2 => ⟨Box.range [] l.cells [] (by simpa using h1), Box.range [] x.cells [] (by simpa using h2)⟩
 have K10 := HSa.out w10 b4a bxa
 have KL := HSa.out WL (b4a.within hwL (by omega)) (bxa.within hwL (by omega))
 have KF := HSa.out WF ((b4a.within hwL (by omega)).within hwF (by omega)) ((bxa.within hwL (by omega)).within hwF (by omega))
 have HIL := log_info l
 have HIX := rec_info x
 have HOL := log_one l
 have HOX := rec_one x
 have EL : Hid (w10.setCells w.heap.size 0 l.cells.toArray.toList = WL) := hWL.out
 have EF : Hid (WL.setCells (w.heap.size + 1) 0 x.cells.toArray.toList = WF) := hWF.out
 have TL : w10.there w.heap.size 0 l.cells.toArray.size := HTL.out
 have TF : WL.there (w.heap.size + 1) 0 x.cells.toArray.size := HTF.out
 have HLF' : Hid (_ = _) := HLF
 clear hwL hwF hsL hsF bL bXL bXF bLF hWL hWF HTL HTF HLF bRa bXa b4a bxa oxa Na Ta HSa
 refine wp_region_held_drew (S := fun w' => w'.rangeAt w3.heap.size 0 l.cells ∧ w'.rangeAt w5.heap.size 0 x.cells) (by kernel_rfl) ?_ (fun hHeld => ?_)
 ·rw [hw10.out]; exact K10
 rw [hw10.out] at hHeld ⊢
 clear hw10
 refine tk 0 rfl (yieldsIf_load_mid (by rfl) _ _ rfl _ _ rfl l.cells _ (fun _ h => h.1) Tryz.underlying26 rfl HIL) hHeld ?_
 try simp only [Act.put, zA, zB, zD, zE, zF]
 refine tk 1 rfl (yieldsIf_load_mid (by rfl) _ _ rfl _ _ rfl x.cells _ (fun _ h => h.2) Tryz.underlying39 rfl HIX) hHeld ?_
 try simp only [Act.put, zA, zB, zC, zD, zE, zF]
 refine wpAnyH_ready (rs := [2]) (by kernel_rfl) (by simp) ?_
 refine AllReadyH.cons rfl (fun K hK => ?_) AllReadyH.nil
 ·rw [if_pos (by rfl)]
  refine wp_store_mid 26 (.tmp 2) (.tmp 22) rfl w.heap.size 0 l.cells.toArray rfl rfl TL HIL HOL ?_
  rw [EL.out]
  refine hK.out _ _ KL (fun hHeld => ?_)
  clear hK K
  try simp only [Act.put, zA, zB, zC]
  refine wpAnyH_ready (rs := [3]) (by kernel_rfl) (by simp) ?_
  refine AllReadyH.cons rfl (fun K hK => ?_) AllReadyH.nil
  rw [if_pos (by rfl)]
  refine wp_store_mid 39 (.tmp 3) (.tmp 23) rfl (w.heap.size + 1) 0 x.cells.toArray rfl rfl TF HIX HOX ?_
  rw [EF.out]
  refine hK.out _ _ KF (fun hHeld => ?_)
  clear hK K
  try simp only [Act.put, zA, zB, zC]
  refine wpAnyH_done (by kernel_rfl) ?_ _
  clear hHeld KL KF K10
  go_wp2_with fail
  exact bodyPost_ret (v := .tuple #[.agg l.cells.toArray, .agg x.cells.toArray]) (results_two Tryz.results14 rfl rfl HLF'.out HLR0.out) rfl ⟨l, x, rfl, HFF.out.1, hlen, hsh, hcp, HFF.out.2.1, hxs, hxc, HFF.out.2.2⟩
end Go.Proofs.YtoboickdkednkaaGreatDoor
namespace Go.Proofs.YtoboickdkednkaaGreatDoor
open Go.RowKit
def AddAns (B o : Nat) (cs : List Value) (T : TypeId) (a : Option Addr) (c : Nat) (rs : List RecA) (lo : Nat) (r : RecV) (w : World) (e : Ending) (w' : World) : Prop :=
 (e = .returned (.int .i64 0) ∧ (rs.length = 4000 ∨ okR (lsnR r ((rs.length : Int) + 1)) = false) ∧ Below w.heap.size w w') ∨
 ∃ (x : RecA) (a' : Option Addr) (c' : Nat) (u v : World), e = .returned (.int .i64 ((rs.length : Int) + 1)) ∧ rs.length ≠ 4000 ∧ okR (lsnR r ((rs.length : Int) + 1)) = true ∧ x.v = lsnR r ((rs.length : Int) + 1) ∧
  Box w' B (cs.set o (.slice a' (rs.length + 1) c')) T ∧ OwnRs w' lo w'.heap.size a' c' (rs ++ [x]) ∧ Below w.heap.size w u ∧ u.grownBy v (Value.slice a rs.length c).ownBlock ∧ Within B (B + 1) v w'
theorem logAdd_any (B o : Nat) (cs : List Value) (T : TypeId) (a : Option Addr) (c : Nat) (rs : List RecA) (lo hi : Nat) (r : RecA) (w : World) (hg : ErrT w) (b : Box w B cs T) (h0 : cs[o]? = some (.slice a rs.length c)) (own : OwnRs w lo hi a c rs)
  (hlo : lo ≤ hi) (hB : B < lo ∨ hi ≤ B) (hT : ∀ (u : World) (vs : List Value) (l k : Nat) (a : Option Addr) (c : Nat) (xs : List RecA), Box u B vs T → OwnRs u l k a c xs → B ∉ blocksRs a c xs)
  (hll : rs.length ≤ 1048576) (hrr : r.reads w) (hrs : r.short 1099511627776) (hrc : r.aL = none → r.cL = 0) :
  Calls Tryz.prog 42 #[.pointer (some ⟨B, o, none⟩), .agg r.cells.toArray] w fun e w' => AddAns B o cs T a c rs lo r.v w e w' := by
 have hBw := b.lt
 have htop := own.top
 obtain ⟨W, hW, b1, hbW, hsW⟩ := boxes1 w r.cells 39
 have HI : Hid ((Tryz.prog.info? 39).map (·.size) = some 15) := by rw [Hid]; kernel_rfl
 have HTT : Hid (∀ (u : World) (vs : List Value) (l k : Nat) (a : Option Addr) (c : Nat) (xs : List RecA), Box u B vs T → OwnRs u l k a c xs → B ∉ blocksRs a c xs) := hT
 have HO : Hid (cs[o]? = some (.slice a rs.length c)) := h0
 have bB := b.below hbW b.lt
 have ow := own.below hbW
 have c0 := bB.cell o _ h0
 have hsw := hbW.size
 have hs0 : w.heap.size < W.heap.size := by omega
 have zf := b1.frozen 0
 have zc := b1.cell 0 _ rfl
 obtain ⟨W4, hW4, yB, hw4, hs4⟩ := rec_set b1 ((rs.length : Int) + 1)
 have hs4a := Nat.le_of_eq hs4
 have hs4b := Nat.le_of_eq hs4.symm
 clear hs4 b1 h0 hT b own hsW
 have bB4 := bB.within hw4 (by omega)
 have ow4 := ow.within hw4 (.inl (by omega))
 have D4 : Below w.heap.size w W4 := hbW.trans (hw4.below (Nat.le_refl _) (by omega))
 have HYV : Hid ((r.at ((rs.length : Int) + 1)).v = lsnR r.v ((rs.length : Int) + 1)) := at_v _ _
 have HYS : Hid ((r.at ((rs.length : Int) + 1)).short 1099511627776) := short_at hrs _
 have HY0 : Hid ((r.at ((rs.length : Int) + 1)).lsn = (rs.length : Int) + 1) := rfl
 have HYR : Hid (∀ u, Below w.heap.size w u → (r.at ((rs.length : Int) + 1)).reads u) := fun u hu => ⟨(hrr.below hu).bf, (hrr.below hu).af, (hrr.below hu).txs⟩
 have HYC : Hid ((r.at ((rs.length : Int) + 1)).aL = none → (r.at ((rs.length : Int) + 1)).cL = 0) := hrc
 have C4 := lsnAt_any (rs.length : Int) W (by omega)
 clear hw4 hrr hrs hrc bB ow
 go_enter Tryz.func42, Tryz.ntmps42
 go_upto_region 1 with fail
 rw [hW.out]
 clear hW
 go_wp2_with fail
 refine C4.mono ?_
 clear C4
 rintro e w3' ⟨rfl, h3'⟩
 subst h3'
 go_upto_region 2 with fail
 rw [hW4.out]
 clear hW4 zc zf c0
 generalize r.at ((rs.length : Int) + 1) = y at *
 have HRY : Hid (∀ u, Below W4.heap.size W4 u → u.rangeAt w.heap.size 0 y.cells) := fun u hu => Box.range [] y.cells [] (by simpa using yB.below hu yB.lt)
 have C5 := implRecOk_any y W4 (hg.keep D4) (HYR.out W4 D4) HYS.out
 have c4 := bB4.cell o _ HO.out
 by_cases h4 : rs.length = 4000
 ·have h4b : ((rs.length : Int) == 4000) = true := by simp only [beq_iff_eq]; omega
  have HF : Hid (AddAns B o cs T a c rs lo r.v w (.returned (.int .i64 0)) W4) := .inl ⟨rfl, .inl h4, D4⟩
  clear h4 C5
  go_wp2
  go_ret
  exact HF.out
 ·have h4b : ((rs.length : Int) == 4000) = false := by simp only [beq_eq_false_iff_ne]; omega
  have ry := HRY.out W4 (Below.refl _ _)
  go_wp2_with (first | (guard_target = wpList _ _ _ (Oper.mk (some 19) _ _ _ _ _ :: _) _ _; refine wpList_load_mid_if (by rfl) 39 (.tmp 3) rfl w.heap.size 0 rfl y.cells _ ry Tryz.underlying39 rfl HI.out ?_) | fail)
  refine C5.mono ?_
  clear C5 c4 ry
  rintro e w6 ⟨rfl, B6⟩
  have hs6 := B6.size
  have bB6 := bB4.below B6 bB4.lt
  have ow6 := ow4.below B6
  have D6 : Below w.heap.size w w6 := D4.trans (B6.mono D4.size)
  clear bB4 ow4
  obtain ⟨vR, hR⟩ : ∃ v, Hid (okR y.v = v) := ⟨_, rfl⟩
  rw [hR.out]
  cases vR with
  | false =>
   have HF : Hid (AddAns B o cs T a c rs lo r.v w (.returned (.int .i64 0)) w6) := .inl ⟨rfl, .inr (by rw [← HYV.out]; exact hR.out), D6⟩
   clear h4
   go_wp2
   go_ret
   exact HF.out
  | true =>
   have hnd : Below w6.heap.size w6 w6.drew := (Below.refl _ _).drew
   have C := copyRec_own y w6.drew (HYR.out _ D6.drew) HYS.out HYC.out
   have bBd := bB6.below hnd bB6.lt
   have owd := ow6.below hnd
   have Bd := B6.drew
   have HKK : Hid (rs.length ≠ 4000 ∧ okR (lsnR r.v ((rs.length : Int) + 1)) = true) := ⟨h4, by rw [← HYV.out]; exact hR.out⟩
   have zd : w6.heap.size ≤ w6.drew.heap.size := hnd.size
   clear h4 h4b hR bB6 ow6
   go_upto_region 4 with fail
   refine wp_region_late (· == 11) (S := fun u => u.cell? ⟨B, o, none⟩ = some (.slice a rs.length c) ∧ u.rangeAt w.heap.size 0 y.cells) (by kernel_rfl) ⟨bBd.cell o _ HO.out, HRY.out _ Bd⟩ (fun hHeld => ?_)
   have D7 : Below w.heap.size w w6.drew := D6.drew
   generalize w6.drew = d0 at *
   clear hnd B6 D6
   refine wpAnyL_take (i := 0) (v := .pointer (some ⟨B, o, none⟩)) rfl (by kernel_rfl) (fun _ _ _ h => h) (Or.inl ⟨by rfl, ?_⟩) hHeld ?_
   ·intro w' hSw
    go_simp <;> rfl
   try simp only [Act.put, zA, zB, zD, zE, zF]
   refine wpAnyL_take (i := 1) (v := .pointer (some ⟨B, o, none⟩)) rfl (by kernel_rfl) (fun _ _ _ h => h) (Or.inl ⟨by rfl, ?_⟩) hHeld ?_
   ·intro w' hSw
    go_simp <;> rfl
   try simp only [Act.put, zA, zB, zC, zD, zE, zF]
   refine wpAnyL_take (i := 2) (v := .pointer (some ⟨B, o, none⟩)) rfl (by kernel_rfl) (fun _ _ _ h => h) (Or.inl ⟨by rfl, ?_⟩) hHeld ?_
   ·intro w' hSw
    go_simp <;> rfl
   try simp only [Act.put, zA, zB, zC, zD, zE, zF]
   refine wpAnyL_take (i := 3) (v := .pointer (some ⟨B, o, none⟩)) rfl (by kernel_rfl) (fun _ _ _ h => h) (Or.inl ⟨by rfl, ?_⟩) hHeld ?_
   ·intro w' hSw
    go_simp <;> rfl
   try simp only [Act.put, zA, zB, zC, zD, zE, zF]
   refine wpAnyL_take (i := 4) (v := .slice a rs.length c) rfl (by kernel_rfl) (fun _ _ _ h => h) (Or.inl ⟨by rfl, ?_⟩) hHeld ?_
   ·intro w' hSw
    have hx := hSw.1
    go_simp <;> rfl
   try simp only [Act.put, zA, zB, zC, zD, zE, zF]
   refine wpAnyL_take (i := 5) rfl (by kernel_rfl) (fun _ _ _ h => h) (yieldsIf_load_mid (by rfl) _ _ rfl _ _ rfl (y.cells) _ (fun _ h => h.2) Tryz.underlying39 rfl HI.out) hHeld ?_
   try simp only [Act.put, zA, zB, zC, zD, zE, zF]
   refine wpAnyL_next 6 (by kernel_rfl) rfl (fun K hK => ?_)
   go_simp
   refine C.mono ?_
   clear C
   rintro e d1 ⟨x, rfl, hx, oxx, hbx⟩
   have hsx := hbx.size
   have B7 : Below W4.heap.size W4 d1 := Bd.trans (hbx.mono Bd.size)
   have D8 : Below w.heap.size w d1 := D7.trans (hbx.mono D7.size)
   have bB7 := bBd.below hbx bBd.lt
   have ow7 := owd.below hbx
   have HXV : Hid (x.v = lsnR r.v ((rs.length : Int) + 1)) := hx.out.trans HYV.out
   clear hx bBd owd
   refine hK.out _ _ (⟨bB7.cell o _ HO.out, HRY.out _ B7⟩) (fun hHeld => ?_)
   clear hK K hbx
   try simp only [Act.put, zA, zB, zC, zD, zE, zF]
   refine wpAnyL_next 7 (by kernel_rfl) rfl (fun K hK => ?_)
   go_simp
   simp only [cellsR_len, lit_rec, not_true_eq_false, Nat.lt_irrefl, or_self, if_false]
   go_simp
   obtain ⟨W9, hW9, y9, hb9, hs9⟩ := boxes1 d1 x.cells 39
   rw [hW9.out]
   have hlt9 := y9.lt
   have hs9' := hb9.size
   clear hs9
   have R9 : Hid (W9.rangeAt d1.heap.size 0 x.cells) := Box.range [] x.cells [] (by simpa using y9)
   have B9 : Below W4.heap.size W4 W9 := B7.trans (hb9.mono B7.size)
   have D9 : Below w.heap.size w W9 := D8.trans (hb9.mono D8.size)
   have bB9 := bB7.below hb9 bB7.lt
   have ow9 := ow7.below hb9
   have ox9 := oxx.below hb9
   clear bB7 ow7 oxx y9
   refine hK.out _ _ (⟨bB9.cell o _ HO.out, HRY.out _ B9⟩) (fun hHeld => ?_)
   clear hK K hW9 hb9
   try simp only [Act.put, zA, zB, zC, zD, zE, zF]
   have hll9 : rs.length + 1 ≤ 68719476736 := by omega
   refine wpAnyL_next 8 (by kernel_rfl) rfl (fun K hK => ?_)
   refine step_append_rec rfl (.tmp 27) (.tmp 30) rfl lo hi a c rs rfl ow9 d1.heap.size 0 1 x rfl R9.out d0.heap.size d1.heap.size ox9 (by omega) (by omega) hll9 hlo ?_
   intro a10 c10 w10 o10 g10
   rw [List.length_append, List.length_singleton]
   have hw10 : Within lo hi W9 w10 := Within.of_grown g10 (fun j hj => ⟨(OwnRs.row ow9).lt j hj |>.1, OwnRs.blk ow9 j hj⟩)
   have hs10 := hw10.size
   have bBa := bB9.within hw10 (by omega)
   have hR10 : w10.rangeAt w.heap.size 0 y.cells := rangeAt_block (HRY.out _ B9) (hw10.block w.heap.size (by omega) (by omega))
   refine hK.out _ _ (⟨bBa.cell o _ HO.out, hR10⟩) (fun hHeld => ?_)
   clear hK K 
   try simp only [Act.put, zA, zB, zC, zD, zE, zF]
   refine wpAnyL_next 9 (by kernel_rfl) rfl (fun K hK => ?_)
   go_simp
   refine hK.out _ _ (hHeld) (fun hHeld => ?_)
   clear hK K 
   try simp only [Act.put, zA, zB, zC, zD, zE, zF]
   refine wpAnyL_take (i := 10) (v := .pointer (some ⟨B, o, none⟩)) rfl (by kernel_rfl) (fun _ _ _ h => h) (Or.inl ⟨by rfl, ?_⟩) hHeld ?_
   ·intro w' hSw
    go_simp <;> rfl
   try simp only [Act.put, zA, zB, zC, zD, zE, zF]
   have ef0 := bBa.frozen o
   have e0 := bBa.cell o _ HO.out
   obtain ⟨W11, hW11, bBb, hw11, hs11⟩ := box_set bBa o (.slice a10 (rs.length + 1) c10)
   have hs11a := Nat.le_of_eq hs11
   have hs11b := Nat.le_of_eq hs11.symm
   clear hs11
   have hR11 : W11.rangeAt w.heap.size 0 y.cells := rangeAt_block hR10 (hw11.block w.heap.size (by omega) (by omega))
   have y0 := hR11 0 _ rfl
   have oRow := o10.touch hw11.touch1 (fun k hk hk' => HTT.out _ _ _ _ _ _ _ bBa o10 (by rw [← List.mem_singleton.1 hk']; exact hk))
   have HF : Hid (AddAns B o cs T a c rs lo r.v w (.returned (.int .i64 y.lsn)) W11) := .inr ⟨x, a10, c10, W9, w10, by rw [HY0.out], HKK.out.1, HKK.out.2, HXV.out, bBb, oRow.widen (Nat.le_refl _) hs11b (Nat.le_refl _), D9, g10, hw11⟩
   refine wpAnyL_last 11 (by kernel_rfl) rfl rfl (fun K hK => ?_)
   go_simp
   rw [hW11.out]
   refine hK.out _ _ ?_
   clear hK K
   refine wpAnyL_done (by kernel_rfl) ?_ _
   clear hW11 ef0 e0 hHeld bBb hw11 oRow
   go_wp2
   go_ret
   exact HF.out
theorem implAppend_any (l : LogA) (r : RecA) (w : World) (hg : ErrT w) (hr : l.reads w) (hl : l.short 1048576) (hcp : ∀ r ∈ l.recs, r.aL = none → r.cL = 0) (hrr : r.reads w) (hrs : r.short 1099511627776) (hrc : r.aL = none → r.cL = 0) :
  Calls Tryz.prog 15 #[.agg l.cells.toArray, .agg r.cells.toArray] w fun e w' => ∃ (t : LogA) (n : Int), e = .returned (.tuple #[.agg t.cells.toArray, .int .i64 n]) ∧ Hid ((t.v, n) = appendOf l.v r.v) ∧ t.own w' w.heap.size w'.heap.size ∧ Below w.heap.size w w' := by
 have HNO : Hid (okLog l.v = false ∨ l.recs.length = 4000 ∨ okR (lsnR r.v (l.recs.length + 1)) = false → appendOf l.v r.v = (l.v, 0)) := fun h => appendOf_no (by rw [l.v_len]; exact h)
 have HYES : Hid (okLog l.v = true → l.recs.length ≠ 4000 → okR (lsnR r.v (l.recs.length + 1)) = true → appendOf l.v r.v = (⟨l.v.recs ++ [lsnR r.v (l.recs.length + 1)], l.sure⟩, (l.recs.length : Int) + 1)) := fun h1 h2 h3 => by have := appendOf_yes h1 (by rw [l.v_len]; exact h2) (by rw [l.v_len]; exact h3); rw [l.v_len] at this; exact this
 have hll := hl.len
 obtain ⟨W, hW, b0, b1, b2, hbW, hsW⟩ := boxes3 w l.cells r.cells [.slice none 0 0, .int .i64 0] 26 39 26
 have hs0 : w.heap.size + 1 + 1 < W.heap.size := by omega
 clear hsW
 have HI : Hid ((Tryz.prog.info? 39).map (·.size) = some 15) := by rw [Hid]; kernel_rfl
 have HX : Hid (∀ u, Below W.heap.size W u → Box u w.heap.size l.cells 26) := fun u hu => b0.below hu b0.lt
 have HB1 : Hid (∀ u, Below W.heap.size W u → Box u (w.heap.size + 1) r.cells 39) := fun u hu => b1.below hu b1.lt
 have HW2 : Hid (∀ u, Below W.heap.size W u → Box u (w.heap.size + 1 + 1) [.slice none 0 0, .int .i64 0] 26) := fun u hu => b2.below hu b2.lt
 have C1 := copyLog_any l W (hr.below hbW) hl hcp
 simp only [LogA.cells] at b0 hW HX C1 ⊢
 have x0 := b0.cell 0 _ rfl
 have x1 := b0.cell 1 _ rfl
 clear b0 b1 b2
 go_enter Tryz.func15, Tryz.ntmps15
 go_wp2_with fail
 rw [hW.out]
 clear hW
 refine C1.mono ?_
 clear C1 x0 x1
 rintro e w1 ⟨t, rfl, hv, ho, hb1⟩
 have hs1 := hb1.size
 obtain ⟨W2, hW2, k6, hb2, hs2⟩ := boxes1 w1 [.slice t.a t.recs.length t.c, .int .i64 t.sure] 26
 have hlt2 := k6.lt
 have hs2' := hb2.size
 clear hs2
 have B2 : Below W.heap.size W W2 := hb1.trans (hb2.mono hs1)
 have ot : LogA.own W2 W.heap.size w1.heap.size t := LogA.own.below ho hb2
 have HV : Hid (t.v = l.v) := hv.out
 have HTL : Hid (t.recs.length = l.recs.length ∧ t.sure = l.sure ∧ t.recs.map RecA.v = l.v.recs) := by
  have h := hv.out
  simp only [LogA.v, LogV.mk.injEq] at h
  exact ⟨mapV_len h.1, h.2, h.1⟩
 have HBR : Hid (∀ u, Below W.heap.size W u → Box u (w.heap.size + 1) r.cells 39) := HB1.out
 have D2 : Below w.heap.size w W2 := hbW.trans (B2.mono hbW.size)
 have C3 := implLogOk_any l W2 (hg.keep D2) (hr.below D2) (LogA.short_wide hl)
 simp only [LogA.cells] at C3
 have p0 := (HX.out W2 B2).cell 0 _ rfl
 have p1 := (HX.out W2 B2).cell 1 _ rfl
 clear hv ho hb1 hb2
 go_upto_region 2 with fail
 rw [hW2.out]
 clear hW2
 go_wp2_with fail
 refine C3.mono ?_
 clear C3 p0 p1
 generalize okLog l.v = R at *
 rintro e w3 ⟨rfl, hb3⟩
 have hs3 := hb3.size
 have B3 : Below W.heap.size W w3 := B2.trans (hb3.mono (by omega))
 have k63 := k6.below hb3 k6.lt
 have ot3 := LogA.own.below ot hb3
 have D3 : Below w.heap.size w w3 := D2.trans (hb3.mono D2.size)
 clear k6 ot hb3 B2 D2
 have p0 := (HX.out w3 B3).cell 0 _ rfl
 cases R with
 | false =>
  have HOUT : Hid ((t.v, (0 : Int)) = appendOf l.v r.v) := by rw [Hid, HNO.out (.inl rfl), HV.out]
  have k6 := k63
  have k2 := HW2.out w3 B3
  have ot := ot3
  have DD := D3
  clear k63 ot3 D3 HNO HYES HTL
  have e0 := k6.cell 0 _ rfl
  have e1 := k6.cell 1 _ rfl
  have m0 := k2.cell 0 _ rfl
  have m1 := k2.cell 1 _ rfl
  have mf0 := k2.frozen 0
  have mf1 := k2.frozen 1
  obtain ⟨WF, hWF, bF, hwF, hsF⟩ := box2_fill k2 (.slice t.a t.recs.length t.c) (.int .i64 t.sure)
  have q0 := bF.cell 0 _ rfl
  have q1 := bF.cell 1 _ rfl
  have hoF := (LogA.own.within ot hwF (.inr (by omega))).widen (show w.heap.size ≤ W.heap.size by omega) (show w1.heap.size ≤ WF.heap.size by omega) (Nat.le_refl _)
  have hbF : Below w.heap.size w WF := DD.trans (hwF.below (by omega) (by omega))
  have HF : Hid (_ ∧ _ ∧ _) := ⟨HOUT, hoF, hbF⟩
  clear hwF hsF bF hoF hbF HOUT
  go_wp2_with fail
  rw [hWF.out]
  exact bodyPost_ret (v := .tuple #[.agg #[.slice t.a t.recs.length t.c, .int .i64 t.sure], .int .i64 0]) (by simp [results, Tryz.results15, go_sem, q0, q1]) rfl ⟨t, 0, rfl, HF.out.1, HF.out.2.1, HF.out.2.2⟩
 | true =>
  have HTY : Hid (∀ u, Below W.heap.size W u → u.rangeAt (w.heap.size + 1) 0 r.cells) := fun u hu => Box.range [] r.cells [] (by simpa using HBR.out u hu)
  have ry := HTY.out w3 B3
  have HTW : Hid (W.heap.size ≤ w1.heap.size ∧ t.recs.length ≤ 1048576) := ⟨hs1, by have := HTL.out.1; omega⟩
  have CA := logAdd_any w1.heap.size 0 [.slice t.a t.recs.length t.c, .int .i64 t.sure] 26 t.a t.c t.recs W.heap.size w1.heap.size r w3 (hg.keep D3) k63 rfl ot3 hs1 (.inr (Nat.le_refl _)) (fun _ _ _ _ _ _ _ b h => log_apart b h) HTW.out.2 (hrr.below D3) hrs hrc
  have HI15 : (Tryz.prog.info? 39).map (·.size) = some r.cells.length := HI.out
  go_wp2_with (first | (guard_target = wpList _ _ _ (Oper.mk (some 14) _ _ _ _ _ :: _) _ _; refine wpList_load_mid rfl 39 (.tmp 3) rfl (w.heap.size + 1) 0 rfl r.cells _ ry Tryz.underlying39 rfl HI15 ?_) | fail)
  refine CA.mono ?_
  clear CA ry
  rintro e w5 (⟨rfl, hno, hb5⟩ | ⟨x, a', c', u, v, rfl, hn4, hok, hxv, kB, oB, hbu, hgv, hwv⟩)
  ·have HOUT : Hid ((t.v, (0 : Int)) = appendOf l.v r.v) := by
    rw [Hid, HNO.out (.inr (by rw [← HTL.out.1]; exact hno)), HV.out]
   have k6 := k63.below hb5 k63.lt
   have k2 := (HW2.out w3 B3).below hb5 (HW2.out w3 B3).lt
   have ot := LogA.own.below ot3 hb5
   have DD : Below w.heap.size w w5 := D3.trans (hb5.mono D3.size)
   have hs5 := hb5.size
   clear k63 ot3 D3 HNO HYES hno hb5 p0
   have e0 := k6.cell 0 _ rfl
   have e1 := k6.cell 1 _ rfl
   have m0 := k2.cell 0 _ rfl
   have m1 := k2.cell 1 _ rfl
   have mf0 := k2.frozen 0
   have mf1 := k2.frozen 1
   obtain ⟨WF, hWF, bF, hwF, hsF⟩ := box2_fill k2 (.slice t.a t.recs.length t.c) (.int .i64 t.sure)
   have q0 := bF.cell 0 _ rfl
   have q1 := bF.cell 1 _ rfl
   have hoF := (LogA.own.within ot hwF (.inr (by omega))).widen (show w.heap.size ≤ W.heap.size by omega) (show w1.heap.size ≤ WF.heap.size by omega) (Nat.le_refl _)
   have hbF : Below w.heap.size w WF := DD.trans (hwF.below (by omega) (by omega))
   have HF : Hid (_ ∧ _ ∧ _) := ⟨HOUT, hoF, hbF⟩
   clear hwF hsF bF hoF hbF HOUT
   go_wp2_with fail
   rw [hWF.out]
   exact bodyPost_ret (v := .tuple #[.agg #[.slice t.a t.recs.length t.c, .int .i64 t.sure], .int .i64 0]) (by simp [results, Tryz.results15, go_sem, q0, q1]) rfl ⟨t, 0, rfl, HF.out.1, HF.out.2.1, HF.out.2.2⟩
  ·have HAP : Hid (_ = _) := HYES.out (by first | rfl | trivial) (by rw [← HTL.out.1]; exact hn4) (by rw [← HTL.out.1]; exact hok)
   have hsu := hbu.size
   have hsv := hgv.size
   have hswv := hwv.size
   have hw10 : Within W.heap.size w1.heap.size u v := Within.of_grown hgv (fun j hj => ⟨(OwnRs.row ot3).lt j hj |>.1, OwnRs.blk ot3 j hj⟩)
   have k2 : Box w5 (w.heap.size + 1 + 1) [.slice none 0 0, .int .i64 0] 26 := (((HW2.out w3 B3).below hbu (HW2.out w3 B3).lt).within hw10 (by omega)).within hwv (by omega)
   have DD : Below w.heap.size w w5 := ((D3.trans (hbu.mono D3.size)).trans (hw10.below (by omega) (by omega))).trans (hwv.below (by omega) (by omega))
   have HFV : Hid ((⟨t.recs ++ [x], t.sure, a', c'⟩ : LogA).v = (⟨l.v.recs ++ [lsnR r.v ((l.recs.length : Int) + 1)], l.sure⟩ : LogV)) := by
    have e3 := HTL.out.2.2
    simp only [Hid, LogA.v, List.map_append, List.map_cons, List.map_nil, hxv, HTL.out.2.1, HTL.out.1]
    rw [e3]
    rfl
   have HLN : Hid ((t.recs.length : Int) + 1 = (l.recs.length : Int) + 1) := by rw [Hid, HTL.out.1]
   have k6 : Box w5 w1.heap.size [.slice a' (t.recs.length + 1) c', .int .i64 t.sure] 26 := kB
   clear k63 ot3 D3 HNO HYES p0 kB hbu hgv hw10
   have e0 := k6.cell 0 _ rfl
   have e1 := k6.cell 1 _ rfl
   have m0 := k2.cell 0 _ rfl
   have m1 := k2.cell 1 _ rfl
   have mf0 := k2.frozen 0
   have mf1 := k2.frozen 1
   obtain ⟨WF, hWF, bF, hwF, hsF⟩ := box2_fill k2 (.slice a' (t.recs.length + 1) c') (.int .i64 t.sure)
   have q0 := bF.cell 0 _ rfl
   have q1 := bF.cell 1 _ rfl
   have hoF : (⟨t.recs ++ [x], t.sure, a', c'⟩ : LogA).own WF w.heap.size WF.heap.size := (oB.within hwF (.inr (by omega))).widen (show w.heap.size ≤ W.heap.size by omega) (show w5.heap.size ≤ WF.heap.size by omega) (Nat.le_refl _)
   have hbF : Below w.heap.size w WF := DD.trans (hwF.below (by omega) (by omega))
   have HF : Hid (_ ∧ _ ∧ _) := ⟨HFV.out, hoF, hbF⟩
   clear hwF hsF bF hoF hbF oB hwv
   go_wp2_with fail
   rw [hWF.out]
   exact bodyPost_ret (v := .tuple #[.agg #[.slice a' (t.recs.length + 1) c', .int .i64 t.sure], .int .i64 ((t.recs.length : Int) + 1)]) (by simp [results, Tryz.results15, go_sem, q0, q1]) rfl ⟨⟨t.recs ++ [x], t.sure, a', c'⟩, (t.recs.length : Int) + 1, by simp, by rw [Hid, HAP.out, HF.out.1, HLN.out], HF.out.2.1, HF.out.2.2⟩
end Go.Proofs.YtoboickdkednkaaGreatDoor
namespace Go.Proofs.YtoboickdkednkaaGreatDoor
open Go.RowKit Go.Shelf
theorem stepIn_value {F : Fence} {n : Nat} {P : Program} {ops : Array Oper} {rest : List Oper} {o : Oper} {a : Act} {w w' : World} {Q : Exit → Act → World → Prop} {v : Value} (hgd : o.guard = none) (hF : ∀ f, F.fn f) (hs : o.semAt F.round a.eval = execOp a.eval o)
  (hrun : (execOp a.eval o).run P w = .ok (.value v) w') (h : wpListIn F n P ops Q rest (a.put o.dst v) w') : wpListIn F n P ops Q (o :: rest) a w :=
 wpListIn_plain hgd fun K hK => ⟨fun f _ => hF f, by rw [hs, hrun, Oper.uponIn_value]; exact hK _ _ h⟩
theorem stepIn_skip {F : Fence} {n : Nat} {P : Program} {ops : Array Oper} {rest : List Oper} {o : Oper} {a : Act} {w w' : World} {Q : Exit → Act → World → Prop} (hgd : o.guard = none) (hF : ∀ f, F.fn f) (hs : o.semAt F.round a.eval = execOp a.eval o)
  (hrun : (execOp a.eval o).run P w = .ok .skip w') (h : wpListIn F n P ops Q rest (a.put o.dst undef) w') : wpListIn F n P ops Q (o :: rest) a w :=
 wpListIn_plain hgd fun K hK => ⟨fun f _ => hF f, by rw [hs, hrun, Oper.uponIn_skip]; exact hK _ _ h⟩
theorem loadIn_mid {F : Fence} {n : Nat} {P : Program} {ops : Array Oper} {rest : List Oper} {op : Oper} {a : Act} {w : World} {Q : Exit → Act → World → Prop} (hgd : op.guard = none) (hF : ∀ f, F.fn f) (hs : op.semAt F.round a.eval = execOp a.eval op) (ty : TypeId) (x : Operand) (ho : op.op = .load ty x)
  (b o : Nat) (hx : a.eval x = .pointer (some ⟨b, o, none⟩)) (cs : List Value) (d : TypeDesc) (hc : w.rangeAt b o cs)
  (hu : P.underlying ty = some d) (hd : d.isRow = true) (hi : (P.info? ty).map (·.size) = some cs.length)
  (h : wpListIn F n P ops Q rest (a.put op.dst (.agg cs.toArray)) w) : wpListIn F n P ops Q (op :: rest) a w := by
 refine stepIn_value hgd hF hs (v := .agg cs.toArray) ?_ h
 unfold execOp
 simp only [ho, hx, Instr.loadAt, Instr.sureAddr, Sem.run_bind, Sem.run_pure, Result.andThen_ok, run_loadVar_mid w b o ty cs d hc hu hd hi]
theorem storeIn_mid {F : Fence} {n : Nat} {P : Program} {ops : Array Oper} {rest : List Oper} {op : Oper} {a : Act} {w : World} {Q : Exit → Act → World → Prop} (hgd : op.guard = none) (hF : ∀ f, F.fn f) (hs : op.semAt F.round a.eval = execOp a.eval op) (ty : TypeId) (x y : Operand) (ho : op.op = .store ty x y)
  (b o : Nat) (cs : Array Value) (hx : a.eval x = .pointer (some ⟨b, o, none⟩)) (hy : a.eval y = .agg cs) (ht : w.there b o cs.size)
  (hi : (P.info? ty).map (·.size) = some cs.size) (h1 : cs.all (·.oneCell') = true)
  (h : wpListIn F n P ops Q rest (a.put op.dst undef) (w.setCells b o cs.toList)) : wpListIn F n P ops Q (op :: rest) a w := by
 refine stepIn_skip hgd hF hs ?_ h
 unfold execOp
 simp only [ho, hx, hy, Sem.run_bind, Sem.run_pure, Result.andThen_ok, run_storeAt_mid w b o ty cs ht hi h1]
theorem rangeFunc_here {n : Nat} {P : Program} {g : Operand} {ps : Array Tmp} {assign body : Code} {Q : Exit → Act → World → Prop} {a : Act} {w : World} {gf : Nat} {lb : Array Value} (hg : a.eval g = .func (.func gf) #[] lb) (eg : ∀ args w, (callFunc gf args).run P w = .ok (.enter gf args) w)
  (h : ∀ (r : Loop) (W1 : World), r.state = .ready → r.pending = none → r.tmps = a.tmps → r.params = ps → r.assign = assign → r.body = body → W1.heap[w.heap.size + 1]? = some (.loop r) → W1.heap[w.heap.size]? = some (.deferred (some [])) → Below w.heap.size w W1 → W1.heap.size = w.heap.size + 2 →
   CallsIn Fence.wide (n - 1) P gf (#[.func (.yield (w.heap.size + 1)) #[] #[]] ++ lb) W1 (rangePost Fence.wide n P (w.heap.size + 1) Q { a with defers := [{ target := .collected w.heap.size, args := #[] }] ++ a.defers })) :
  (Code.rangeFunc g ps assign body).wpIn Fence.wide n P Q a w := by
 refine wpIn_rangeFunc ?_
 intro fn _
 obtain ⟨r, hr⟩ : ∃ r : Loop, ({ state := .ready, pending := none, fn := fn, tmps := a.tmps, params := ps, assign := assign, body := body, defers := w.heap.size } : Loop) = r := ⟨_, rfl⟩
 obtain ⟨W1, hW1⟩ : ∃ W1, (w.alloc (.deferred (some []))).alloc (.loop r) = W1 := ⟨_, rfl⟩
 have hL : W1.heap[w.heap.size + 1]? = some (.loop r) := by
  rw [← hW1]
  have := World.alloc_heap_new (w.alloc (.deferred (some []))) (.loop r)
  rwa [World.size_alloc] at this
 have hD : W1.heap[w.heap.size]? = some (.deferred (some [])) := by
  rw [← hW1]
  exact (Below.heap_alloc _ _ _ (by simp)).trans (World.alloc_heap_new w _)
 have hB : Below w.heap.size w W1 := by
  rw [← hW1]
  exact ((Below.refl _ w).alloc (Nat.le_refl _) _).alloc (by simp) _
 have hS : W1.heap.size = w.heap.size + 2 := by rw [← hW1]; simp
 have hc := h r W1 (by rw [← hr]) (by rw [← hr]) (by rw [← hr]) (by rw [← hr]) (by rw [← hr]) (by rw [← hr]) hL hD hB hS
 refine ⟨w.heap.size + 1, [{ target := .collected w.heap.size, args := #[] }], W1, { target := .fn (.func gf) lb, args := #[.func (.yield (w.heap.size + 1)) #[] #[]] }, W1, gf, #[.func (.yield (w.heap.size + 1)) #[] #[]] ++ lb, W1, ?_, ?_, ?_, ?_, ?_, ?_⟩
 ·rw [← hW1, ← hr]
  exact run_enterLoop_outer fn a.tmps ps assign body
 ·simp only [resolve, hg]
  simp [go_sem]
 ·intro f' _
  trivial
 ·simp [invoke, go_sem, eg]
 ·intro hh
  have hn : Fence.wide.depth.isSome = false := rfl
  rw [hn] at hh
  cases hh
 ·exact hc
theorem within_putObj (w : World) (l : Nat) (o : Obj) : Within l (l + 1) w (w.putObj l o) ∧ (w.putObj l o).heap.size = w.heap.size := by
 refine ⟨⟨rfl, rfl, rfl, by simp [World.putObj], fun k _ hn => World.putObj_heap_other (by omega)⟩, by simp [World.putObj]⟩
theorem yield_here {m : Nat} {P : Program} {l : Nat} {r : Loop} {args : Array Value} {W : World} {R : Ending → World → Prop} (hL : W.heap[l]? = some (.loop r)) (hs : args.size = r.params.size) (hrd : r.state = .ready)
  (h : r.assign.wpIn (Fence.wide.inRound l) m P (Exit.then (fun a1 w1 => w1.heap[l]? = some (.loop r) ∧ ∀ V, V.heap[l]? = some (.loop { r with state := .busy }) → Within l (l + 1) w1 V → V.heap.size = w1.heap.size → r.body.wpIn (Fence.wide.inRound l) m P (roundPost P l R) a1 V) (fun _ _ _ => False))
   { tmps := (r.params.zip args).foldl (fun t (p, v) => t.setIfInBounds p v) r.tmps, defers := [] } W) : YieldAt Fence.wide m P l args W R := by
 refine ⟨r.fn, _, r.assign, r.body, run_yield hL hs, roundIn_of_wpIn trivial (wpIn_mono h ?_)⟩
 intro e a1 w1 hp
 cases e with
 | normal => exact ⟨_, run_beginRound hp.1 hrd, hp.2 _ (World.putObj_heap_same (Array.getElem?_eq_some_iff.1 hp.1).1) (within_putObj w1 l _).1 (within_putObj w1 l _).2⟩
 | exit id => exact hp.elim
 | goto t => exact hp.elim
 | ret => exact hp.elim
 | panic ch => exact hp.elim
 | outgrown => exact hp.elim
theorem end_here {P : Program} {l : Nat} {r : Loop} {V : World} (jump : Option Code) (hL : V.heap[l]? = some (.loop r)) :
  ∃ X, (Instr.endRound l jump).run P V = .ok (.bool jump.isNone) X ∧ X.heap[l]? = some (.loop { r with state := if jump.isNone then .ready else .done, pending := jump }) ∧ Within l (l + 1) V X ∧ X.heap.size = V.heap.size :=
 ⟨_, run_endRound jump hL, World.putObj_heap_same (Array.getElem?_eq_some_iff.1 hL).1, (within_putObj V l _).1, (within_putObj V l _).2⟩
theorem end_go {P : Program} {l : Nat} {r : Loop} {V : World} (hst : r.state = .ready) (hpd : r.pending = none) (hL : V.heap[l]? = some (.loop { r with state := .busy })) :
  ∃ X, (Instr.endRound l none).run P V = .ok (.bool true) X ∧ X.heap[l]? = some (.loop r) ∧ Within l (l + 1) V X ∧ X.heap.size = V.heap.size := by
 obtain ⟨X, h1, h2, h3, h4⟩ := end_here (P := P) (r := { r with state := .busy }) none hL
 refine ⟨X, h1, ?_, h3, h4⟩
 rw [h2]
 cases r
 simp only at hst hpd
 subst hst hpd
 rfl
end Go.Proofs.YtoboickdkednkaaGreatDoor
namespace Go.Proofs.YtoboickdkednkaaGreatDoor
open Go.RowKit
def ofTx (tx : Int) (r : RecV) : Bool := (r.tx == tx) && (r.kind != 6)
def chainDown (tx : Int) (rs : List RecV) : Nat → List Int
 | 0 => []
 | k + 1 => (if ofTx tx (rs.getD k zeroR.v) = true then [(rs.getD k zeroR.v).lsn] else []) ++ chainDown tx rs k
def chainOf (l : LogV) (tx : Int) : List Int := chainDown tx l.recs l.recs.length
theorem chainDown_len (tx : Int) (rs : List RecV) (k : Nat) : (chainDown tx rs k).length ≤ k := by
 induction k with
 | zero => simp [chainDown]
 | succ k ih =>
  simp only [chainDown, List.length_append]
  split <;> simp <;> omega
theorem recD_v (rs : List RecA) (k : Nat) : (rs.map RecA.v).getD k zeroR.v = (rs.getD k zeroR).v := by
 simp only [List.getD, List.getElem?_map]
 cases rs[k]? <;> rfl
theorem chain_step (tx : Int) (rs : List RecA) (k : Nat) (L R : List Int) (h : L ++ chainDown tx (rs.map RecA.v) (k + 1) = R) :
  (if ofTx tx (rs.getD k zeroR).v = true then L ++ [(rs.getD k zeroR).lsn] else L) ++ chainDown tx (rs.map RecA.v) k = R := by
 rw [chainDown, recD_v] at h
 by_cases hq : ofTx tx (rs.getD k zeroR).v = true
 ·rw [if_pos hq] at h ⊢; rw [← h, List.append_assoc]; rfl
 ·rw [if_neg hq] at h ⊢; rw [← h]; rfl
theorem readsI_cell (w : World) (m : Int) (t : TypeId) : ReadsI (w.alloc (.cells #[.int .i64 m] t)) (some ⟨w.heap.size, 0, none⟩) [m] := by
 intro _
 refine ⟨w.heap.size, 0, rfl, fun i hi => ?_⟩
 have hi0 : i = 0 := by simp at hi; omega
 subst hi0
 exact (box_new w [.int .i64 m] t).cell 0 _ rfl
end Go.Proofs.YtoboickdkednkaaGreatDoor
namespace Go.Proofs.YtoboickdkednkaaGreatDoor
open Go.RowKit Go.Shelf
attribute [local go_sem] Oper.semAt_some
theorem append_intsIn {F : Fence} {n : Nat} {w : World} {ops : Array Oper} {rest : List Oper} {o : Oper} {act : Act} {Q : Exit → Act → World → Prop} (hgd : o.guard = none) (hF : ∀ f, F.fn f) (hsm : o.semAt F.round act.eval = execOp act.eval o) (s x : Operand)
  (ho : o.op = .call { callee := .builtin .append, args := #[s, x], argTypes := #[32, 32] })
  (lo hi : Nat) (a : Option Addr) (c : Nat) (xs : List Int) (hs : act.eval s = .slice a xs.length c) (hown : OwnI w lo hi a c xs)
  (sa : Option Addr) (sc : Nat) (zs : List Int) (hx : act.eval x = .slice sa zs.length sc) (hr : ReadsI w sa zs) (hc : sa = none → sc = 0)
  (hb : xs.length + zs.length ≤ 1099511627776) (hlo : lo ≤ w.heap.size)
  (h : ∀ a' c' ys w', Hid (ys = xs ++ zs) → OwnI w' lo w'.heap.size a' c' ys → w.grownBy w' (Value.slice a xs.length c).ownBlock → (∀ k, (Value.slice a' ys.length c').ownBlock = some k → (Value.slice a xs.length c).ownBlock = some k ∨ k = w.heap.size) → wpListIn F n Tryz.prog ops Q rest (act.put o.dst (.slice a' ys.length c')) w') :
  wpListIn F n Tryz.prog ops Q (o :: rest) act w := by
 obtain ⟨a', c', ys, w', hrun, h1, h2, h3, h4⟩ := run_append_ints (w := w) o.type lo hi a c xs hown sa sc zs hr hc hb hlo
 refine stepIn_value hgd hF hsm ?_ (h a' c' ys w' h1 h2 h3 h4)
 unfold execOp
 simp only [ho, resolve, invoke, builtin, Sem.run_bind, Sem.run_pure, Result.andThen_ok, List.map_toArray, List.map_cons, List.map_nil, hs, hx, hrun]
theorem backward_any (a : Option Addr) (n c : Nat) (w : World) :
  Calls Tryz.prog 45 #[.slice a n c] w fun e w' => e = .returned (.func (.func 74) #[] #[.pointer (some ⟨w.heap.size, 0, none⟩)]) ∧ w' = w.alloc (.cells #[.slice a n c] 24) := by
 have hmf : ∀ (fn : Fn) (first cap : Array Value) (w : World), (Instr.makeFunc fn first cap).run Tryz.prog w = .ok (.func fn first cap) w := fun _ _ _ _ => rfl
 go_enter Tryz.func45, Tryz.ntmps45
 go_wp2
 go_ret
 exact ⟨rfl, rfl⟩
theorem backward_in (m L B3 : Nat) (a : Option Addr) (c : Nat) (rs : List RecA) (hl : rs.length ≤ 1099511627776) (J : Nat → World → Prop)
  (hJ : ∀ k W, J k W → Box W B3 [.slice a rs.length c] 24 ∧ ReadsRs W a rs)
  (hY : ∀ k W, k < rs.length → J (k + 1) W → YieldAt Fence.wide m Tryz.prog L #[.int .i64 (k : Int), .agg (rs.getD k zeroR).cells.toArray] W fun e W' => e = .returned (.bool true) ∧ J k W')
  (W : World) (h0 : J rs.length W) :
  CallsIn Fence.wide (m + 1) Tryz.prog 74 #[.func (.yield L) #[] #[], .pointer (some ⟨B3, 0, none⟩)] W fun e W' => (∃ v, e = .returned v) ∧ J 0 W' := by
 have HI : Hid ((Tryz.prog.info? 39).map (·.size) = some 15) := by rw [Hid]; kernel_rfl
 refine callsIn_of_wp Tryz.func74 rfl trivial ?_ rfl
 simp only [Tryz.ntmps74, List.size_toArray, List.length_cons, List.length_nil, Nat.reduceAdd, Nat.reduceSub, Array.replicate_succ, Array.replicate_zero, List.push_toArray, List.append_toArray, List.nil_append, List.cons_append]
 have x0 := (hJ _ _ h0).1.cell 0 _ rfl
 gi_wp2
 clear x0
 gi_loopw [3] (fun i wr => ∃ k : Nat, i = .int .i64 ((k : Int) - 1) ∧ k ≤ rs.length ∧ J k wr) (fun i _ => (intOf i + 1).toNat)
 case atStart => exact ⟨rs.length, by go_num, Nat.le_refl _, h0⟩
 case round =>
  obtain ⟨k, rfl, hk, hj⟩ := hrel
  obtain ⟨bx, hrd⟩ := hJ k wr hj
  cases k with
  | zero =>
   gi_wp2
   exact bodyPost_end (results_none rfl _ _ _) rfl ⟨⟨_, rfl⟩, hj⟩
  | succ k =>
   have x0 := bx.cell 0 _ rfl
   obtain ⟨b, off, rfl, hcell⟩ := hrd (by rintro rfl; simp at hk)
   have R3 := (hcell k (by omega)).1
   obtain ⟨fn, tmps, assign, body, hy, hR⟩ := hY k wr (by omega) hj
   have hkk : (k : Int) < (rs.length : Int) := by omega
   have hi0 : (0 : Int) ≤ (k : Int) := by omega
   have hk1 : ((k + 1 : Nat) : Int) - 1 = (k : Int) := by omega
   rw [hk1]
   clear hcell bx hrd hj
   generalize rs.getD k zeroR = z at *
   gi_wp2_with (first | (guard_target = wpListIn _ _ _ _ _ (Oper.mk (some 16) _ _ _ _ _ :: _) _ _; refine loadIn_mid rfl (fun _ => trivial) rfl 39 (.tmp 15) rfl b (off + k * 15) rfl z.cells _ R3 Tryz.underlying39 rfl HI.out ?_) | fail)
   refine hR.mono ?_
   rintro e W4 ⟨rfl, hj4⟩
   gi_wp2
   go_roundw
   case rel => exact ⟨k, by go_num, by omega, hj4⟩
   case measure => simp [intOf]
end Go.Proofs.YtoboickdkednkaaGreatDoor