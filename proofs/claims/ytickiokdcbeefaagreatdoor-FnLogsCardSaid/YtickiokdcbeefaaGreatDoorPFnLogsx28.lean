/- Several texts in one, in their order. -/
import Derived.Test.YtickiokdcbeefaaGreatDoorPFnLogsx27
import Derived.Test.YtickiokdcbeefaaGreatDoorPFnLogsx17
import Derived.Test.YtickiokdcbeefaaGreatDoorPFnLogsx13
import Derived.Deep.MidRow
import Derived.Deep.RegionHeld3
import Derived.Test.YtickiokdcbeefaaGreatDoorPFnLogsx5
import Derived.Test.YtickiokdcbeefaaGreatDoorPFnLogsx6
import Derived.Test.YtickiokdcbeefaaGreatDoorPFnLogsx2
import Derived.Test.YtickiokdcbeefaaGreatDoorPFnLogsx10
import Derived.Lib.AppendStr
import Derived.Lib.OthersKept
import Derived.Laws.DeepStrings4
import Derived.Test.YtickiokdcbeefaaGreatDoorPFnLogsx11
/- A drawn log, bent or not: the walk of spec.l5DrawAny. -/
namespace Go.Proofs.YtickiokdcbeefaaGreatDoor
open Go.RowKit
attribute [local go_sem ↓] Go.wp_at_zero Go.wp_at_succ

/-- A record of the row stored, whose lists lie anywhere: the row is read. -/
theorem recs_put {w : World} {lo hi g c : Nat} {A B : List RecA} {z : RecA} (h : OwnRs w lo hi (some ⟨g, 0, none⟩) c (A ++ z :: B)) (q : RecA) {l u : Nat} (hq : q.own w l u) :
    ∃ W, Hid (w.setCells g (A.length * 15) q.cells = W) ∧ Touch [g] w W ∧ W.heap.size = w.heap.size ∧ (∀ v bl, Touch bl W v → (∀ k ∈ bl, k < lo) → lo ≤ l → ReadsRs v (some ⟨g, 0, none⟩) (A ++ q :: B)) := by
  have hrow := h.row
  rw [cellsRs_app, cellsRs_cons, List.length_append, List.length_cons] at hrow
  obtain ⟨h1, h2⟩ := row_setCells q.cells (cellsRs A) z.cells (cellsRs B) w hrow rfl
  rw [cellsRs_len] at h1 h2
  have ht : Touch [g] w (w.setCells g (A.length * 15) q.cells) := Touch.of_grown h2 (fun k hk => by cases hk; simp)
  have hap : ∀ (r : RecA) {l u : Nat}, r.own w l u → ∀ k ∈ r.blocks, k ∉ [g] := fun r _ _ hr k hk hm => row_apart h.row hr g rfl (by rw [← List.mem_singleton.1 hm]; exact hk)
  refine ⟨_, rfl, ht, setCells_heap g q.cells (A.length * 15) w, fun v bl hv hC hll => ?_⟩
  have hno : ∀ (r : RecA) {l u : Nat}, r.own w l u → lo ≤ l → ∀ k ∈ r.blocks, k ∉ bl := fun r _ _ hr h1 k hk hm => by have := (hr.blocks_lt k hk).1; have := hC k hm; omega
  have hrow' : v.ownsRow lo 42 15 (.slice (some ⟨g, 0, none⟩) (A ++ q :: B).length c) (A ++ q :: B).length (cellsRs (A ++ q :: B)) := by
    rw [cellsRs_app, cellsRs_cons, List.length_append, List.length_cons]
    exact ownsRow_block h1 (fun k hk => hv.block k (h1.lt k hk).2 (fun hm => by have := (h1.lt k hk).1; have := hC k hm; omega))
  intro _
  refine ⟨g, 0, rfl, fun k hk => ?_⟩
  rw [Nat.zero_add]
  refine ⟨(row_rec hrow' rfl k hk).1, ?_⟩
  have hmem := recD_mem (A ++ q :: B) k hk
  rcases List.mem_append.1 hmem with h3 | h3
  · have h4 := h.each _ (List.mem_append.2 (.inl h3))
    exact ((h4.touch ht (hap _ h4)).touch hv (hno _ h4 (Nat.le_refl _))).reads
  · rcases List.mem_cons.1 h3 with h3 | h3
    · rw [h3]; exact ((hq.touch ht (hap _ hq)).touch hv (hno _ hq hll)).reads
    · have h4 := h.each _ (List.mem_append.2 (.inr (List.mem_cons_of_mem _ h3)))
      exact ((h4.touch ht (hap _ h4)).touch hv (hno _ h4 (Nat.le_refl _))).reads
theorem touch_of {C : Nat} {w w' : World} (h : Within C (C + 1) w w') : Touch [C] w w' := ⟨h.os, h.tape, h.output, h.size, fun j hj hn => h.block j hj (fun hh => hn (by simp; omega))⟩
theorem within_two {B C : Nat} {w w1 w2 : World} (h : Within B (B + 1) w w1) (hF : Within C (C + 1) w1 w2) (hC : w.heap.size ≤ C) : Within B (B + 1) w w2 :=
  ⟨hF.os.trans h.os, hF.tape.trans h.tape, hF.output.trans h.output, Nat.le_trans h.size hF.size, fun k hk hn => (hF.block k (by have := h.size; omega) (by omega)).trans (h.block k hk hn)⟩
/-- Its row has room for what is in it. -/
def CapFit (l : LogA) : Prop := l.recs.length ≤ l.c ∧ (l.a = none → l.recs.length = 0 ∧ l.c = 0)
/-- What a draw of any log answers. -/
def LogAny (B : Nat) (zs : List Int) (w : World) (r : Ending) (w' : World) : Prop := ∃ l : LogA, r = .returned (.agg l.cells.toArray) ∧ (∀ v bl, Touch bl w' v → (∀ k ∈ bl, k < w.heap.size) → l.reads v) ∧ l.recs.length ≤ 262144 ∧ (∀ x ∈ l.recs, x.short 12) ∧ (∀ x ∈ l.recs, x.aL = none → x.cL = 0) ∧ CapFit l ∧ CurAt w' B zs ∧ Within B (B + 1) w w'

set_option maxHeartbeats 4000000 in
set_option maxRecDepth 100000 in
theorem l5DrawAny_any (B : Nat) (zs : List Int) (n : Int) (w : World) (hc : CurAt w B zs) (hl : zs.length ≤ 70368744177664) (hn0 : 0 < n) (hn : n ≤ 17) :
    Calls Tryz.prog 24 #[.pointer (some ⟨B, 0, none⟩), .int .i64 n] w fun r w' => LogAny B zs w r w' := by
  obtain ⟨W, hW, b0, hbW, hsW⟩ := boxes1 w [.slice none 0 0, .int .i64 0] 26
  have hW' : Hid (w.alloc (.cells #[.slice none 0 0, .int .i64 0] 26) = W) := hW.out
  have C := l5Draw_any B zs n W (hc.below hbW) hl hn0 hn
  have hBl := hc.lt
  have hws : w.heap.size < W.heap.size := by omega
  clear hW hsW
  go_enter Tryz.func24, Tryz.ntmps24
  go_wp2_with fail
  rw [hW'.out]
  refine C.mono ?_
  clear C hW'
  rintro r w1 ⟨l0, rfl, o0, hl0, hs0, hc1, hw1⟩
  have bR1 := b0.within hw1 (by omega)
  have hs1 := hw1.size
  have C2 := l5Copy_any l0 w1 o0.reads ⟨by omega, fun x hx => ⟨⟨by have := (hs0 x hx).bf.1; omega, by have := (hs0 x hx).bf.2; omega⟩, ⟨by have := (hs0 x hx).af.1; omega, by have := (hs0 x hx).af.2; omega⟩, by have := (hs0 x hx).txs; omega⟩⟩ (fun x hx => (OwnRs.each o0 x hx).txs.nocap)
  go_wp2_with fail
  refine C2.mono ?_
  clear C2
  rintro r w2 ⟨t, rfl, htv, ot, hb2⟩
  have htr : t.recs.map RecA.v = l0.recs.map RecA.v := by have := congrArg LogV.recs htv.out; exact this
  have hlen : t.recs.length ≤ 262144 := by have := congrArg List.length htr; simp only [List.length_map] at this; omega
  have hsh : ∀ x ∈ t.recs, x.short 10 := fun x hx => by
    have h1 : x.v ∈ l0.recs.map RecA.v := by rw [← htr]; exact List.mem_map_of_mem hx
    obtain ⟨y, hy, hyx⟩ := List.mem_map.1 h1
    exact short_of hyx.symm (hs0 y hy)
  obtain ⟨W3, hW3, b3, hb3, hs3⟩ := boxes1 w2 [.slice none 0 0, .int .i64 0] 26
  obtain ⟨W4, hW4, hw4, hs4, HT4, _, bL⟩ := log_out t _ rfl b3
  have hW3' : Hid (w2.alloc (.cells #[.slice none 0 0, .int .i64 0] 26) = W3) := hW3.out
  have hW4' : Hid (W3.setCells w2.heap.size 0 t.cells.toArray.toList = W4) := hW4.out
  have N24 : Below w2.heap.size w2 W4 := hb3.trans (hw4.below (Nat.le_refl _) (by omega))
  have N14 : Below w1.heap.size w1 W4 := hb2.trans (N24.mono hb2.size)
  have hs2 := hb2.size
  have bR4 := bR1.below N14 bR1.lt
  have hc4 := hc1.below N14
  have ot4 : t.own W4 w1.heap.size w2.heap.size := LogA.own.below ot N24
  have hw14 : Within B (B + 1) w W4 := ⟨N14.os.trans (hw1.os.trans hbW.os), N14.tape.trans (hw1.tape.trans hbW.tape), N14.output.trans (hw1.output.trans hbW.output), by have := N14.size; have := hbW.size; omega, fun k hk hn1 => (N14.block k (by have := hbW.size; omega)).trans ((hw1.block k (by have := hbW.size; omega) hn1).trans (hbW.block k hk))⟩
  have HO4 := log_one t
  have HI4 : Hid ((Tryz.prog.info? 26).map (·.size) = some t.cells.toArray.size) := log_info t
  have hLt := bL.lt
  have C5 := l1Below_any B zs 10 W4 hc4 hl (by omega)
  have hR1 := bR1.lt
  clear hW3 hW4 hs3 hs4 hw4 hb3 b3 b0 o0 hs0 htr htv hl0 hw1 hbW hc hc1 bR1 ot N14 N24
  go_wp2_with (first | (guard_target = wpList _ _ _ (Oper.mk none (Op.store _ (Operand.tmp 5) _) _ _ _ _ :: _) _ _; refine wpList_store_mid rfl 26 (.tmp 5) (.tmp 10) rfl w2.heap.size 0 t.cells.toArray rfl rfl (by rw [hW3'.out]; exact HT4.out) HI4.out HO4 ?_; rw [hW3'.out, hW4'.out]) | fail)
  refine C5.mono ?_
  clear C5 hW3' hW4' HT4 HI4 HO4
  rintro r w5 ⟨x, rfl, hx10, hc5, hg5⟩
  have hwB5 := within_cur hg5
  have ot5 : t.own w5 w1.heap.size w2.heap.size := LogA.own.within ot4 hwB5 (.inr (by omega))
  have bL5 := bL.within hwB5 (by omega)
  have bR5 := bR4.within hwB5 (by omega)
  have hw5 : Within B (B + 1) w w5 := hw14.trans hwB5
  have hs5 := hwB5.size
  clear hx10 hg5 ot4 bL bR4 hw14 hwB5
  rcases (by omega : x = 0 ∨ x = 1 ∨ 2 ≤ x) with hx | hx | hx
  · subst hx
    have m0 := bL5.cell 0 _ (show t.cells[0]? = some (.slice t.a t.recs.length t.c) from rfl)
    obtain ⟨W6, hW6, b6, hb6, hs6⟩ := boxes1 w5 ([-1, (t.recs.length : Int), (t.recs.length : Int) + 1].map (Value.int .i64)) 3
    have hW6' : Hid (w5.alloc (.cells #[.int .i64 (-1), .int .i64 (t.recs.length : Int), .int .i64 ((t.recs.length : Int) + 1)] 3) = W6) := hW6.out
    have rI := readsI_list [-1, (t.recs.length : Int), (t.recs.length : Int) + 1] b6
    have C6 := l1Int_any B zs (some ⟨w5.heap.size, 0, none⟩) 3 [-1, (t.recs.length : Int), (t.recs.length : Int) + 1] W6 (hc5.below hb6) hl rI (fun b off hb => by cases hb; have := hc5.lt; omega) (by simp) (by simp)
    have ot6 := LogA.own.below ot5 hb6
    have bL6 := bL5.below hb6 bL5.lt
    have bR6 := bR5.below hb6 bR5.lt
    have hw6 : Within B (B + 1) w W6 := ⟨hb6.os.trans hw5.os, hb6.tape.trans hw5.tape, hb6.output.trans hw5.output, Nat.le_trans hw5.size hb6.size, fun k hk hn1 => (hb6.block k (by have := hw5.size; omega)).trans (hw5.block k hk hn1)⟩
    have hs56 := hb6.size
    clear hs6 hW6 b6 hb6 rI ot5 bL5 bR5 hw5 hc5
    go_wp2_with fail
    rw [hW6'.out]
    refine C6.mono ?_
    clear C6 hW6' m0
    rintro r w7 ⟨y, hy, rfl, hc7, hg7⟩
    obtain ⟨sv, hsv⟩ : ∃ sv, Hid ([-1, (t.recs.length : Int), (t.recs.length : Int) + 1].getD y 0 = sv) := ⟨_, rfl⟩
    rw [hsv.out]
    have hwB7 := within_cur hg7
    have ot7 : t.own w7 w1.heap.size w2.heap.size := LogA.own.within ot6 hwB7 (.inr (by omega))
    have bL7 := bL6.within hwB7 (by omega)
    have bR7 := bR6.within hwB7 (by omega)
    have hw7 := hw6.trans hwB7
    have hs67 := hwB7.size
    have m1 := bL7.cell 1 _ (show t.cells[1]? = some (.int .i64 t.sure) from rfl)
    have f1 := bL7.frozen 1
    obtain ⟨W8, hW8, bL8, hw8, hs8⟩ := box_set bL7 1 (.int .i64 sv)
    have otz : (({ t with sure := sv } : LogA)).own W8 w1.heap.size w2.heap.size := LogA.own.within (l := t) ot7 hw8 (.inl (Nat.le_refl _))
    have bLz : Box W8 w2.heap.size ({ t with sure := sv } : LogA).cells 26 := bL8
    have bRz := bR7.within hw8 (by omega)
    have hcz := hc7.within hw8 (by omega)
    have hwz : Within B (B + 1) w W8 := within_two hw7 hw8 (by omega)
    clear ot6 bL6 bR6 hw6 hwB7 hg7 hc7 ot7 hw7 bR7 bL8 hw8 hs8 hsv
    go_upto_region 9 with fail
    rw [hW8.out]
    clear hW8 m1 f1 bL7
    obtain ⟨W9, hW9⟩ : ∃ W9, Hid (W8 = W9) := ⟨_, rfl⟩
    obtain ⟨L, hL⟩ : ∃ L, Hid (w2.heap.size = L) := ⟨_, rfl⟩
    obtain ⟨lg, hlg⟩ : ∃ lg, Hid (({ t with sure := sv } : LogA) = lg) := ⟨_, rfl⟩
    have bL9 : Box W9 L lg.cells 26 := by rw [← hW9.out, ← hL.out, ← hlg.out]; exact bLz
    have bR9 : Box W9 w.heap.size [.slice none 0 0, .int .i64 0] 26 := by rw [← hW9.out]; exact bRz
    have hc9 : CurAt W9 B zs := by rw [← hW9.out]; exact hcz
    have hw9 : Within B (B + 1) w W9 := by rw [← hW9.out]; exact hwz
    have HRD : Hid (∀ v bl, Touch bl W9 v → (∀ k ∈ bl, k ≤ w.heap.size) → lg.reads v) := fun v bl hv hbl => by
      rw [← hW9.out] at hv
      rw [← hlg.out]
      exact LogA.own.reads (LogA.own.touch otz hv (fun k hk hm => by have := (LogA.own.blocks_lt otz k hk).1; have := hbl k hm; omega))
    have hlen9 : lg.recs.length ≤ 262144 := by rw [← hlg.out]; exact hlen
    have hsh9 : ∀ y ∈ lg.recs, y.short 12 := fun y hy => by
      rw [← hlg.out] at hy
      have h1 := hsh y hy
      exact ⟨⟨by have := h1.bf.1; omega, by have := h1.bf.2; omega⟩, ⟨by have := h1.af.1; omega, by have := h1.af.2; omega⟩, by have := h1.txs; omega⟩
    have hcp9 : ∀ y ∈ lg.recs, y.aL = none → y.cL = 0 := fun y hy => by
      rw [← hlg.out] at hy
      exact (OwnRs.each otz y hy).txs.nocap
    have hcf9 : CapFit lg := by rw [← hlg.out]; exact ⟨OwnRs.capLen otz, OwnRs.nilLen otz⟩
    clear otz bLz bRz hwz hcz
    rw [hW9.out, hL.out]
    clear hlen hsh hlg
    have r9 : W9.rangeAt L 0 lg.cells := Box.range [] lg.cells [] (by simpa using bL9)
    obtain ⟨WF, hWF, hwF, hsF, HTF, HLF, bF⟩ := log_out lg _ rfl bR9
    have hWF' : Hid (W9.setCells w.heap.size 0 lg.cells.toArray.toList = WF) := hWF.out
    have hrF : ∀ v bl, Touch bl WF v → (∀ k ∈ bl, k < w.heap.size) → lg.reads v := fun v bl hv hb => HRD.out v (w.heap.size :: bl) (((touch_of hwF).mono (by simp)).trans (hv.mono (fun k hk => List.mem_cons_of_mem _ hk))) (fun k hk => (List.mem_cons.1 hk).elim (fun h1 => by omega) (fun h1 => by have := hb k h1; omega))
    have HEND : Hid (LogAny B zs w (.returned (.agg lg.cells.toArray)) WF) := ⟨lg, rfl, hrF, hlen9, hsh9, hcp9, hcf9, hc9.within hwF (by omega), within_two hw9 hwF (Nat.le_refl _)⟩
    have HO := log_one lg
    have HI : Hid ((Tryz.prog.info? 26).map (·.size) = some lg.cells.length) := log_info lg
    clear hrF bF hwF hsF hWF hw9 hc9 HRD hlen9 hsh9 hcp9 hcf9 bL9 bR9
    go_wp2_with (first | (guard_target = wpList _ _ _ (Oper.mk (some 48) _ _ _ _ _ :: _) _ _; refine wpList_load_mid rfl 26 (.tmp 5) rfl L 0 rfl lg.cells _ r9 Tryz.underlying26 rfl HI.out ?_) | (guard_target = wpList _ _ _ (Oper.mk none (Op.store _ (Operand.tmp 4) _) _ _ _ _ :: _) _ _; refine wpList_store_mid rfl 26 (.tmp 4) (.tmp 48) rfl w.heap.size 0 lg.cells.toArray rfl rfl HTF.out HI.out HO ?_; rw [hWF'.out]) | fail)
    exact bodyPost_ret (v := .agg lg.cells.toArray) (results_one Tryz.results24 rfl HLF.out) rfl HEND.out
  · subst hx
    have m0 := bL5.cell 0 _ (show t.cells[0]? = some (.slice t.a t.recs.length t.c) from rfl)
    by_cases h0 : 0 < t.recs.length
    · have h0b : (t.recs.length : Int) > 0 := by omega
      have C6 := l1Below_any B zs (t.recs.length : Int) w5 hc5 hl (by omega)
      go_wp2_with fail
      refine C6.mono ?_
      clear C6 m0
      rintro r w6 ⟨k, rfl, hk, hc6, hg6⟩
      have hkl : k < t.recs.length := by have := hk (by omega); omega
      have hwB6 := within_cur hg6
      have ot6 : t.own w6 w1.heap.size w2.heap.size := LogA.own.within ot5 hwB6 (.inr (by omega))
      have bL6 := bL5.within hwB6 (by omega)
      have bR6 := bR5.within hwB6 (by omega)
      have hw6 := hw5.trans hwB6
      have hs6 := hwB6.size
      clear hk hg6 hwB6 ot5 bL5 bR5 hw5 hc5 h0b
      obtain ⟨g, hg⟩ : ∃ g, t.a = some ⟨g, 0, none⟩ := by
        rcases (OwnRs.row ot6).2 with ⟨_, h1⟩ | ⟨g', cap', cur, hv, _⟩
        · omega
        · simp only [Value.slice.injEq] at hv; exact ⟨g', hv.1⟩
      have HMS : Hid (∀ u, Box u w2.heap.size t.cells 26 → u.cell? ⟨w2.heap.size, 0, none⟩ = some (.slice (some ⟨g, 0, none⟩) t.recs.length t.c)) := fun u hu => by
        have := hu.cell 0 _ (show t.cells[0]? = some (.slice t.a t.recs.length t.c) from rfl)
        rwa [hg] at this
      have ND : Below w6.heap.size w6 w6.drew := (Below.refl _ _).drew
      have ot7 : OwnRs w6.drew w1.heap.size w2.heap.size (some ⟨g, 0, none⟩) t.c t.recs := by have h1 := LogA.own.below ot6 ND; rw [← hg]; exact h1
      have bL7 := bL6.below ND bL6.lt
      have bR7 := bR6.below ND bR6.lt
      have hc7 := hc6.below ND
      have hzr := (row_rec ot7.row rfl k hkl).1
      have hmem := recD_mem t.recs k hkl
      have oz := ot7.each _ hmem
      have hshz := hsh _ hmem
      obtain ⟨z, hz⟩ : ∃ z, Hid (t.recs.getD k zeroR = z) := ⟨_, rfl⟩
      rw [hz.out] at hzr oz hshz
      have HI : Hid ((Tryz.prog.info? 42).map (·.size) = some z.cells.length) := rec_info z
      have C8 := l4Bend_any B w1.heap.size w2.heap.size zs z w6.drew hc7 hl oz (by omega) (by omega) hshz
      have hkk : (k : Int) < (t.recs.length : Int) := by omega
      have hk0 : (0 : Int) ≤ (k : Int) := by omega
      have HGA : Hid (t.a = some ⟨g, 0, none⟩) := hg
      clear hg
      go_upto_region 8 with fail
      refine wp_region_held_drew (S := fun w' => w'.cell? ⟨w2.heap.size, 0, none⟩ = some (.slice (some ⟨g, 0, none⟩) t.recs.length t.c) ∧ True) (by kernel_rfl) ?_ (fun hHeld => ?_)
      · exact ⟨HMS.out _ bL7, trivial⟩
      refine wpAnyH_take (i := 0) (v := .pointer (some ⟨w2.heap.size, 0, none⟩)) rfl (by kernel_rfl) (by kernel_rfl) (by kernel_rfl) (fun _ _ _ h => h) (Or.inl ⟨by rfl, ?_⟩) hHeld ?_
      · intro w' hSw
        go_simp <;> rfl
      try simp only [Act.put, List.getElem_toArray, List.getElem_cons_zero, List.setIfInBounds_toArray, List.set_cons_zero, List.set_cons_succ]
      refine wpAnyH_take (i := 1) (v := .slice (some ⟨g, 0, none⟩) t.recs.length t.c) rfl (by kernel_rfl) (by kernel_rfl) (by kernel_rfl) (fun _ _ _ h => h) (Or.inl ⟨by rfl, ?_⟩) hHeld ?_
      · intro w' hSw
        have hx := hSw.1
        go_simp <;> rfl
      try simp only [Act.put, List.getElem_toArray, List.getElem_cons_zero, List.getElem_cons_succ, List.setIfInBounds_toArray, List.set_cons_zero, List.set_cons_succ]
      refine wpAnyH_take (i := 2) (v := .int .i64 k) rfl (by kernel_rfl) (by kernel_rfl) (by kernel_rfl) (fun _ _ _ h => h) (Or.inl ⟨by rfl, ?_⟩) hHeld ?_
      · intro w' hSw
        go_simp <;> rfl
      try simp only [Act.put, List.getElem_toArray, List.getElem_cons_zero, List.getElem_cons_succ, List.setIfInBounds_toArray, List.set_cons_zero, List.set_cons_succ]
      refine wpAnyH_take (i := 3) (v := .pointer (some ⟨B, 0, none⟩)) rfl (by kernel_rfl) (by kernel_rfl) (by kernel_rfl) (fun _ _ _ h => h) (Or.inl ⟨by rfl, ?_⟩) hHeld ?_
      · intro w' hSw
        go_simp <;> rfl
      try simp only [Act.put, List.getElem_toArray, List.getElem_cons_zero, List.getElem_cons_succ, List.setIfInBounds_toArray, List.set_cons_zero, List.set_cons_succ]
      refine wpAnyH_take (i := 4) (v := .pointer (some ⟨w2.heap.size, 0, none⟩)) rfl (by kernel_rfl) (by kernel_rfl) (by kernel_rfl) (fun _ _ _ h => h) (Or.inl ⟨by rfl, ?_⟩) hHeld ?_
      · intro w' hSw
        go_simp <;> rfl
      try simp only [Act.put, List.getElem_toArray, List.getElem_cons_zero, List.getElem_cons_succ, List.setIfInBounds_toArray, List.set_cons_zero, List.set_cons_succ]
      refine wpAnyH_take (i := 5) (v := .slice (some ⟨g, 0, none⟩) t.recs.length t.c) rfl (by kernel_rfl) (by kernel_rfl) (by kernel_rfl) (fun _ _ _ h => h) (Or.inl ⟨by rfl, ?_⟩) hHeld ?_
      · intro w' hSw
        have hx := hSw.1
        go_simp <;> rfl
      try simp only [Act.put, List.getElem_toArray, List.getElem_cons_zero, List.getElem_cons_succ, List.setIfInBounds_toArray, List.set_cons_zero, List.set_cons_succ]
      refine wpAnyH_take (i := 6) (v := .int .i64 k) rfl (by kernel_rfl) (by kernel_rfl) (by kernel_rfl) (fun _ _ _ h => h) (Or.inl ⟨by rfl, ?_⟩) hHeld ?_
      · intro w' hSw
        go_simp <;> rfl
      try simp only [Act.put, List.getElem_toArray, List.getElem_cons_zero, List.getElem_cons_succ, List.setIfInBounds_toArray, List.set_cons_zero, List.set_cons_succ]
      refine wpAnyH_take (i := 7) (v := .pointer (some ⟨g, k * 15, none⟩)) rfl (by kernel_rfl) (by kernel_rfl) (by kernel_rfl) (fun _ _ _ h => h) (Or.inl ⟨by rfl, ?_⟩) hHeld ?_
      · intro w' hSw
        go_simp <;> rfl
      try simp only [Act.put, List.getElem_toArray, List.getElem_cons_zero, List.getElem_cons_succ, List.setIfInBounds_toArray, List.set_cons_zero, List.set_cons_succ]
      refine wpAnyH_ready (rs := [8]) (by kernel_rfl) (by simp) ?_
      refine AllReadyH.cons rfl (fun K hK => ?_) AllReadyH.nil
      rw [if_pos (by rfl)]
      refine wp_load_mid 42 (.tmp 44) rfl g (k * 15) rfl z.cells _ hzr Tryz.underlying42 rfl HI.out ?_
      refine hK.out _ _ (hHeld) (fun hHeld => ?_)
      clear hK K
      try simp only [Act.put, List.getElem_toArray, List.getElem_cons_zero, List.getElem_cons_succ, List.setIfInBounds_toArray, List.set_cons_zero, List.set_cons_succ]
      refine wpAnyH_ready (rs := [9]) (by kernel_rfl) (by simp) ?_
      refine AllReadyH.cons rfl (fun K hK => ?_) AllReadyH.nil
      go_simp
      refine C8.mono ?_
      clear C8
      rintro r w8 ⟨y, rfl, hysh, oy, _, hc8, hwB8⟩
      have ot8 : OwnRs w8 w1.heap.size w2.heap.size (some ⟨g, 0, none⟩) t.c t.recs := ot7.within hwB8 (.inr (by omega))
      have bL8 := bL7.within hwB8 (by omega)
      have bR8 := bR7.within hwB8 (by omega)
      have hs8 := hwB8.size
      have hs7 := ND.size
      refine hK.out _ _ (⟨HMS.out _ bL8, trivial⟩) (fun hHeld => ?_)
      clear hK K
      try simp only [Act.put, List.getElem_toArray, List.getElem_cons_zero, List.getElem_cons_succ, List.setIfInBounds_toArray, List.set_cons_zero, List.set_cons_succ]
      have hkt : (t.recs.take k).length = k := by rw [List.length_take]; omega
      obtain ⟨P9, hP9, tP, hsP, hRP⟩ := recs_put (A := t.recs.take k) (z := z) (B := t.recs.drop (k + 1)) (by rw [← hz.out, ← recD_split t.recs k hkl]; exact ot8) y oy
      rw [hkt] at hP9
      have hgl : g < w2.heap.size := ot8.blk g rfl
      have hgl1 : w1.heap.size ≤ g := (ot8.row.lt g rfl).1
      have bLP := bL8.touch tP (by simp; omega)
      have bRz := bR8.touch tP (by simp; omega)
      have hcz := hc8.touch tP (fun i hi => by have := List.mem_singleton.1 hi; omega)
      have hwz : Within B (B + 1) w P9 := by
        have h1 : Within B (B + 1) w w8 := hw6.trans ((Within.of_below ND).trans hwB8)
        exact ⟨tP.os.trans h1.os, tP.tape.trans h1.tape, tP.output.trans h1.output, Nat.le_trans h1.size tP.size, fun i hi hn1 => (tP.block i (by have := h1.size; omega) (fun hm => by have := List.mem_singleton.1 hm; omega)).trans (h1.block i hi hn1)⟩
      have hP9' : Hid (w8.setCells g (k * 15) y.cells.toArray.toList = P9) := hP9.out
      have HTH : Hid (w8.there g (k * 15) y.cells.toArray.size) := (row_rec ot8.row rfl k hkl).2
      refine wpAnyH_take (i := 10) (v := .pointer (some ⟨g, k * 15, none⟩)) rfl (by kernel_rfl) (by kernel_rfl) (by kernel_rfl) (fun _ _ _ h => h) (Or.inl ⟨by rfl, ?_⟩) hHeld ?_
      · intro w' hSw
        go_simp <;> rfl
      try simp only [Act.put, List.getElem_toArray, List.getElem_cons_zero, List.getElem_cons_succ, List.setIfInBounds_toArray, List.set_cons_zero, List.set_cons_succ]
      refine wpAnyH_ready (rs := [11]) (by kernel_rfl) (by simp) ?_
      refine AllReadyH.cons rfl (fun K hK => ?_) AllReadyH.nil
      rw [if_pos (by rfl)]
      refine wp_store_mid 42 (.tmp 47) (.tmp 46) rfl g (k * 15) y.cells.toArray rfl rfl HTH.out (rec_info y) (rec_one y) ?_
      rw [hP9'.out]
      refine hK.out _ _ (⟨HMS.out _ bLP, trivial⟩) (fun hHeld => ?_)
      clear hK K
      try simp only [Act.put, List.getElem_toArray, List.getElem_cons_zero, List.getElem_cons_succ]
      refine wpAnyH_done (by kernel_rfl) ?_ _
      obtain ⟨W9, hW9⟩ : ∃ W9, Hid (P9 = W9) := ⟨_, rfl⟩
      obtain ⟨L, hL⟩ : ∃ L, Hid (w2.heap.size = L) := ⟨_, rfl⟩
      obtain ⟨lg, hlg⟩ : ∃ lg, Hid ((⟨t.recs.take k ++ y :: t.recs.drop (k + 1), t.sure, some ⟨g, 0, none⟩, t.c⟩ : LogA) = lg) := ⟨_, rfl⟩
      have hll : (t.recs.take k ++ y :: t.recs.drop (k + 1)).length = t.recs.length := by rw [List.length_append, List.length_cons, List.length_take, List.length_drop]; omega
      have hmemz : ∀ v ∈ t.recs.take k ++ y :: t.recs.drop (k + 1), v ∈ t.recs ∨ v = y := fun v hv => by
        rcases List.mem_append.1 hv with h1 | h1
        · exact .inl (List.mem_of_mem_take h1)
        · rcases List.mem_cons.1 h1 with h1 | h1
          · exact .inr h1
          · exact .inl (List.mem_of_mem_drop h1)
      have bL9 : Box W9 L lg.cells 26 := by
        rw [← hW9.out, ← hL.out, ← hlg.out]
        have h1 := bLP
        simp only [LogA.cells, HGA.out] at h1
        simp only [LogA.cells, hll]
        exact h1
      have bR9 : Box W9 w.heap.size [.slice none 0 0, .int .i64 0] 26 := by rw [← hW9.out]; exact bRz
      have hc9 : CurAt W9 B zs := by rw [← hW9.out]; exact hcz
      have hw9 : Within B (B + 1) w W9 := by rw [← hW9.out]; exact hwz
      have HRD : Hid (∀ v bl, Touch bl W9 v → (∀ k ∈ bl, k ≤ w.heap.size) → lg.reads v) := fun v bl hv hbl => by
        rw [← hW9.out] at hv
        rw [← hlg.out]
        exact hRP v bl hv (fun k hk => by have := hbl k hk; omega) (Nat.le_refl _)
      have hlen9 : lg.recs.length ≤ 262144 := by rw [← hlg.out]; show (t.recs.take k ++ y :: t.recs.drop (k + 1)).length ≤ _; rw [hll]; exact hlen
      have hsh9 : ∀ v ∈ lg.recs, v.short 12 := fun v hv => by
        rw [← hlg.out] at hv
        rcases hmemz v hv with h1 | h1
        · have h2 := hsh v h1
          exact ⟨⟨by have := h2.bf.1; omega, by have := h2.bf.2; omega⟩, ⟨by have := h2.af.1; omega, by have := h2.af.2; omega⟩, by have := h2.txs; omega⟩
        · rw [h1]; exact hysh
      have hcp9 : ∀ v ∈ lg.recs, v.aL = none → v.cL = 0 := fun v hv => by
        rw [← hlg.out] at hv
        rcases hmemz v hv with h1 | h1
        · exact (ot8.each v h1).txs.nocap
        · rw [h1]; exact oy.txs.nocap
      have hcf9 : CapFit lg := by
        rw [← hlg.out]
        refine ⟨?_, fun hh => by cases hh⟩
        show (t.recs.take k ++ y :: t.recs.drop (k + 1)).length ≤ t.c
        rw [hll]
        exact OwnRs.capLen ot8
      clear hHeld hP9' hP9 HTH tP hRP bLP bRz hcz hwz hmemz hll hlg ot8 bL8 bR8 oy ot7 bL7 bR7 hc7 hc8 hc6 oz hzr HMS HGA hlen hsh hwB8 hw6 ot6 bL6 bR6
      rw [hW9.out, hL.out]
      have r9 : W9.rangeAt L 0 lg.cells := Box.range [] lg.cells [] (by simpa using bL9)
      obtain ⟨WF, hWF, hwF, hsF, HTF, HLF, bF⟩ := log_out lg _ rfl bR9
      have hWF' : Hid (W9.setCells w.heap.size 0 lg.cells.toArray.toList = WF) := hWF.out
      have hrF : ∀ v bl, Touch bl WF v → (∀ k ∈ bl, k < w.heap.size) → lg.reads v := fun v bl hv hb => HRD.out v (w.heap.size :: bl) (((touch_of hwF).mono (by simp)).trans (hv.mono (fun k hk => List.mem_cons_of_mem _ hk))) (fun k hk => (List.mem_cons.1 hk).elim (fun h1 => by omega) (fun h1 => by have := hb k h1; omega))
      have HEND : Hid (LogAny B zs w (.returned (.agg lg.cells.toArray)) WF) := ⟨lg, rfl, hrF, hlen9, hsh9, hcp9, hcf9, hc9.within hwF (by omega), within_two hw9 hwF (Nat.le_refl _)⟩
      have HO := log_one lg
      have HI : Hid ((Tryz.prog.info? 26).map (·.size) = some lg.cells.length) := log_info lg
      clear hrF bF hwF hsF hWF hw9 hc9 HRD hlen9 hsh9 hcp9 hcf9 bL9 bR9
      go_wp2_with (first | (guard_target = wpList _ _ _ (Oper.mk (some 48) _ _ _ _ _ :: _) _ _; refine wpList_load_mid rfl 26 (.tmp 5) rfl L 0 rfl lg.cells _ r9 Tryz.underlying26 rfl HI.out ?_) | (guard_target = wpList _ _ _ (Oper.mk none (Op.store _ (Operand.tmp 4) _) _ _ _ _ :: _) _ _; refine wpList_store_mid rfl 26 (.tmp 4) (.tmp 48) rfl w.heap.size 0 lg.cells.toArray rfl rfl HTF.out HI.out HO ?_; rw [hWF'.out]) | fail)
      exact bodyPost_ret (v := .agg lg.cells.toArray) (results_one Tryz.results24 rfl HLF.out) rfl HEND.out
    · have h0b : ¬ (t.recs.length : Int) > 0 := by omega
      go_upto_region 9 with fail
      obtain ⟨W9, hW9⟩ : ∃ W9, Hid (w5 = W9) := ⟨_, rfl⟩
      obtain ⟨L, hL⟩ : ∃ L, Hid (w2.heap.size = L) := ⟨_, rfl⟩
      obtain ⟨lg, hlg⟩ : ∃ lg, Hid (t = lg) := ⟨_, rfl⟩
      have otz := ot5
      have bLz := bL5
      have bRz := bR5
      have hcz := hc5
      have hwz := hw5
      clear ot5 bL5 bR5 hw5 hc5 hs5 m0 h0b h0
      have bL9 : Box W9 L lg.cells 26 := by rw [← hW9.out, ← hL.out, ← hlg.out]; exact bLz
      have bR9 : Box W9 w.heap.size [.slice none 0 0, .int .i64 0] 26 := by rw [← hW9.out]; exact bRz
      have hc9 : CurAt W9 B zs := by rw [← hW9.out]; exact hcz
      have hw9 : Within B (B + 1) w W9 := by rw [← hW9.out]; exact hwz
      have HRD : Hid (∀ v bl, Touch bl W9 v → (∀ k ∈ bl, k ≤ w.heap.size) → lg.reads v) := fun v bl hv hbl => by
        rw [← hW9.out] at hv
        rw [← hlg.out]
        exact LogA.own.reads (LogA.own.touch otz hv (fun k hk hm => by have := (LogA.own.blocks_lt otz k hk).1; have := hbl k hm; omega))
      have hlen9 : lg.recs.length ≤ 262144 := by rw [← hlg.out]; exact hlen
      have hsh9 : ∀ y ∈ lg.recs, y.short 12 := fun y hy => by
        rw [← hlg.out] at hy
        have h1 := hsh y hy
        exact ⟨⟨by have := h1.bf.1; omega, by have := h1.bf.2; omega⟩, ⟨by have := h1.af.1; omega, by have := h1.af.2; omega⟩, by have := h1.txs; omega⟩
      have hcp9 : ∀ y ∈ lg.recs, y.aL = none → y.cL = 0 := fun y hy => by
        rw [← hlg.out] at hy
        exact (OwnRs.each otz y hy).txs.nocap
      have hcf9 : CapFit lg := by rw [← hlg.out]; exact ⟨OwnRs.capLen otz, OwnRs.nilLen otz⟩
      clear otz bLz bRz hwz hcz
      rw [hW9.out, hL.out]
      clear hlen hsh hlg
      have r9 : W9.rangeAt L 0 lg.cells := Box.range [] lg.cells [] (by simpa using bL9)
      obtain ⟨WF, hWF, hwF, hsF, HTF, HLF, bF⟩ := log_out lg _ rfl bR9
      have hWF' : Hid (W9.setCells w.heap.size 0 lg.cells.toArray.toList = WF) := hWF.out
      have hrF : ∀ v bl, Touch bl WF v → (∀ k ∈ bl, k < w.heap.size) → lg.reads v := fun v bl hv hb => HRD.out v (w.heap.size :: bl) (((touch_of hwF).mono (by simp)).trans (hv.mono (fun k hk => List.mem_cons_of_mem _ hk))) (fun k hk => (List.mem_cons.1 hk).elim (fun h1 => by omega) (fun h1 => by have := hb k h1; omega))
      have HEND : Hid (LogAny B zs w (.returned (.agg lg.cells.toArray)) WF) := ⟨lg, rfl, hrF, hlen9, hsh9, hcp9, hcf9, hc9.within hwF (by omega), within_two hw9 hwF (Nat.le_refl _)⟩
      have HO := log_one lg
      have HI : Hid ((Tryz.prog.info? 26).map (·.size) = some lg.cells.length) := log_info lg
      clear hrF bF hwF hsF hWF hw9 hc9 HRD hlen9 hsh9 hcp9 hcf9 bL9 bR9
      go_wp2_with (first | (guard_target = wpList _ _ _ (Oper.mk (some 48) _ _ _ _ _ :: _) _ _; refine wpList_load_mid rfl 26 (.tmp 5) rfl L 0 rfl lg.cells _ r9 Tryz.underlying26 rfl HI.out ?_) | (guard_target = wpList _ _ _ (Oper.mk none (Op.store _ (Operand.tmp 4) _) _ _ _ _ :: _) _ _; refine wpList_store_mid rfl 26 (.tmp 4) (.tmp 48) rfl w.heap.size 0 lg.cells.toArray rfl rfl HTF.out HI.out HO ?_; rw [hWF'.out]) | fail)
      exact bodyPost_ret (v := .agg lg.cells.toArray) (results_one Tryz.results24 rfl HLF.out) rfl HEND.out
  · have hx0 : ((x : Int) == 0) = false := by simp; omega
    have hx1 : ((x : Int) == 1) = false := by simp; omega
    obtain ⟨W9, hW9⟩ : ∃ W9, Hid (w5 = W9) := ⟨_, rfl⟩
    obtain ⟨L, hL⟩ : ∃ L, Hid (w2.heap.size = L) := ⟨_, rfl⟩
    obtain ⟨lg, hlg⟩ : ∃ lg, Hid (t = lg) := ⟨_, rfl⟩
    have otz := ot5
    have bLz := bL5
    have bRz := bR5
    have hcz := hc5
    have hwz := hw5
    clear ot5 bL5 bR5 hw5 hc5 hs5
    have bL9 : Box W9 L lg.cells 26 := by rw [← hW9.out, ← hL.out, ← hlg.out]; exact bLz
    have bR9 : Box W9 w.heap.size [.slice none 0 0, .int .i64 0] 26 := by rw [← hW9.out]; exact bRz
    have hc9 : CurAt W9 B zs := by rw [← hW9.out]; exact hcz
    have hw9 : Within B (B + 1) w W9 := by rw [← hW9.out]; exact hwz
    have HRD : Hid (∀ v bl, Touch bl W9 v → (∀ k ∈ bl, k ≤ w.heap.size) → lg.reads v) := fun v bl hv hbl => by
      rw [← hW9.out] at hv
      rw [← hlg.out]
      exact LogA.own.reads (LogA.own.touch otz hv (fun k hk hm => by have := (LogA.own.blocks_lt otz k hk).1; have := hbl k hm; omega))
    have hlen9 : lg.recs.length ≤ 262144 := by rw [← hlg.out]; exact hlen
    have hsh9 : ∀ y ∈ lg.recs, y.short 12 := fun y hy => by
      rw [← hlg.out] at hy
      have h1 := hsh y hy
      exact ⟨⟨by have := h1.bf.1; omega, by have := h1.bf.2; omega⟩, ⟨by have := h1.af.1; omega, by have := h1.af.2; omega⟩, by have := h1.txs; omega⟩
    have hcp9 : ∀ y ∈ lg.recs, y.aL = none → y.cL = 0 := fun y hy => by
      rw [← hlg.out] at hy
      exact (OwnRs.each otz y hy).txs.nocap
    have hcf9 : CapFit lg := by rw [← hlg.out]; exact ⟨OwnRs.capLen otz, OwnRs.nilLen otz⟩
    clear otz bLz bRz hwz hcz
    rw [hW9.out, hL.out]
    clear hlen hsh hlg
    have r9 : W9.rangeAt L 0 lg.cells := Box.range [] lg.cells [] (by simpa using bL9)
    obtain ⟨WF, hWF, hwF, hsF, HTF, HLF, bF⟩ := log_out lg _ rfl bR9
    have hWF' : Hid (W9.setCells w.heap.size 0 lg.cells.toArray.toList = WF) := hWF.out
    have hrF : ∀ v bl, Touch bl WF v → (∀ k ∈ bl, k < w.heap.size) → lg.reads v := fun v bl hv hb => HRD.out v (w.heap.size :: bl) (((touch_of hwF).mono (by simp)).trans (hv.mono (fun k hk => List.mem_cons_of_mem _ hk))) (fun k hk => (List.mem_cons.1 hk).elim (fun h1 => by omega) (fun h1 => by have := hb k h1; omega))
    have HEND : Hid (LogAny B zs w (.returned (.agg lg.cells.toArray)) WF) := ⟨lg, rfl, hrF, hlen9, hsh9, hcp9, hcf9, hc9.within hwF (by omega), within_two hw9 hwF (Nat.le_refl _)⟩
    have HO := log_one lg
    have HI : Hid ((Tryz.prog.info? 26).map (·.size) = some lg.cells.length) := log_info lg
    clear hrF bF hwF hsF hWF hw9 hc9 HRD hlen9 hsh9 hcp9 hcf9 bL9 bR9
    go_wp2_with (first | (guard_target = wpList _ _ _ (Oper.mk (some 48) _ _ _ _ _ :: _) _ _; refine wpList_load_mid rfl 26 (.tmp 5) rfl L 0 rfl lg.cells _ r9 Tryz.underlying26 rfl HI.out ?_) | (guard_target = wpList _ _ _ (Oper.mk none (Op.store _ (Operand.tmp 4) _) _ _ _ _ :: _) _ _; refine wpList_store_mid rfl 26 (.tmp 4) (.tmp 48) rfl w.heap.size 0 lg.cells.toArray rfl rfl HTF.out HI.out HO ?_; rw [hWF'.out]) | fail)
    exact bodyPost_ret (v := .agg lg.cells.toArray) (results_one Tryz.results24 rfl HLF.out) rfl HEND.out
end Go.Proofs.YtickiokdcbeefaaGreatDoor

/- spec.l1Size, spec.DrawTear. -/
namespace Go.Proofs.YtickiokdcbeefaaGreatDoor
open Go.RowKit
attribute [local go_sem ↓] Go.wp_at_zero Go.wp_at_succ

theorem l1Size_any (a : Option Addr) (c : Nat) (zs : List Int) (m : Nat) (w : World) (hl : zs.length ≤ 70368744177664) (hm : 0 < m) :
    Calls Tryz.prog 25 #[.slice a zs.length c, .int .i64 m] w fun r w' => ∃ n : Nat, r = .returned (.int .i64 n) ∧ 0 < n ∧ n ≤ m ∧ w' = w := by
  by_cases h : 3 + (zs.length : Int) / 12 > (m : Int)
  · go_enter Tryz.func25, Tryz.ntmps25
    go_wp2
    go_ret
    exact ⟨m, rfl, hm, Nat.le_refl _, rfl⟩
  · go_enter Tryz.func25, Tryz.ntmps25
    go_wp2
    go_ret
    exact ⟨3 + zs.length / 12, ret_int (by omega), by omega, by omega, rfl⟩
end Go.Proofs.YtickiokdcbeefaaGreatDoor

/- A row of one record laid by a literal. -/
namespace Go.Proofs.YtickiokdcbeefaaGreatDoor
open Go.RowKit

end Go.Proofs.YtickiokdcbeefaaGreatDoor

/- The walks of impl.markSlots over impl.slotHas and over impl.slotOk. -/
namespace Go.Proofs.YtickiokdcbeefaaGreatDoor
open Go.RowKit

end Go.Proofs.YtickiokdcbeefaaGreatDoor

/- The walk of impl.PageOk. -/
namespace Go.Proofs.YtickiokdcbeefaaGreatDoor
open Go.RowKit

end Go.Proofs.YtickiokdcbeefaaGreatDoor

/- The walks of impl.putParts and impl.PutObj. -/
namespace Go.Proofs.YtickiokdcbeefaaGreatDoor
open Go.RowKit

set_option maxHeartbeats 400000 in
set_option maxRecDepth 100000 in
theorem putParts_any (a : Option Addr) (c : Nat) (xs : List Int) (aL : Option Addr) (cL : Nat) (l : List Int) (w : World) (hr : Reads w a xs) (hc : a = none → c = 0) (hL : ReadsI w aL l) (hx : xs.length ≤ 1000000) (hl : l.length ≤ 1000) :
    Calls Tryz.prog 93 #[.slice a xs.length c, .slice aL l.length cL] w fun e w' => ∃ a' c' ys, e = .returned (.slice a' ys.length c') ∧ Hid (ys = xs ++ putList l) ∧ OwnB w' w.heap.size a' c' ys ∧ Below w.heap.size w w' := by
  have HC : Hid (a = none → c = 0) := hc
  clear hc
  have hbA : Below w.heap.size w (w.alloc (.cells #[.int .i64 (l.length : Int)] 3)) := (Below.refl _ _).alloc (Nat.le_refl _) _
  go_enter Tryz.func93, Tryz.ntmps93
  go_wp2_with fail
  refine (putInts_any a c xs _ _ [(l.length : Int)] _ (hr.alloc _) HC.out (readsI_one w l.length _) (by simp; omega)).mono ?_
  rintro e w1 ⟨a1, c1, y1, rfl, hy1, ho1, hb1⟩
  have HY1 : Hid (y1 = xs ++ putOf l.length) := by rw [Hid, hy1]; simp
  have hl1 : y1.length ≤ 1000065 := by have := (putOf_len l.length).2; rw [HY1.out, List.length_append]; omega
  have hb1' : Below w.heap.size w w1 := hbA.trans (hb1.mono hbA.size)
  have ho1' := ho1.base hbA.size
  clear hy1 hb1 ho1 hbA
  go_wp2_with fail
  refine (putInts_any a1 c1 y1 aL cL l w1 ho1'.reads ho1'.nocap (hL.below hb1') (by omega)).mono ?_
  rintro e w2 ⟨a2, c2, y2, rfl, hy2, ho2, hb2⟩
  have HY2 : Hid (y2 = xs ++ putList l) := by rw [Hid, hy2, HY1.out]; simp [putList]
  clear hy2
  go_wp2
  go_ret
  exact ⟨a2, c2, y2, rfl, HY2, ho2.base hb1'.size, hb1'.trans (hb2.mono hb1'.size)⟩

set_option maxHeartbeats 1000000 in
set_option maxRecDepth 100000 in
theorem implPutObj_any (o : ObjV) (aI : Option Addr) (cI : Nat) (aR : Option Addr) (cR : Nat) (w : World) (hg : ErrT w) (hr : ReadsO w aI cI aR cR o) (hnI : o.ints.length ≤ 140737488355328) (hnR : o.refs.length ≤ 140737488355328) :
    Calls Tryz.prog 63 #[.agg #[.int .i64 o.kind, .slice aI o.ints.length cI, .slice aR o.refs.length cR]] w fun e w' => ∃ a' c' ys, e = .returned (.slice a' ys.length c') ∧ Hid (ys = putObjOf o) ∧ OwnB w' w.heap.size a' c' ys ∧ Below w.heap.size w w' := by
  have hok := fun w' (g : ErrT w') (h : ReadsO w' aI cI aR cR o) => implObjOk_any o aI cI aR cR w' g h hnI hnR
  have HPT : Hid (okB o = true → putObjOf o = (putOf o.kind ++ putList o.ints) ++ putList o.refs) := fun h => by unfold putObjOf; rw [if_pos h]
  have HPF : Hid (okB o = false → putObjOf o = []) := fun h => by unfold putObjOf; rw [if_neg (by rw [h]; decide)]
  have HLN : Hid (okB o = true → o.ints.length ≤ 5 ∧ o.refs.length ≤ 5) := fun h => by simp [okB] at h; exact ⟨h.2.1, h.2.2.1⟩
  have hcs : okB o = true ∨ okB o = false := by cases okB o <;> simp
  generalize hP : putObjOf o = P at *
  clear hP
  obtain ⟨k, ints, refs⟩ := o
  have hr' := hr
  obtain ⟨hI, hR, _, _⟩ := hr
  simp only at *
  obtain ⟨W, hW, b0, hbW, hsW⟩ := boxes1 w [.int .i64 k, .slice aI ints.length cI, .slice aR refs.length cR] 37
  go_enter Tryz.func63, Tryz.ntmps63
  go_wp2_with fail
  rw [hW.out]
  refine (hok W (hg.keep hbW) (hr'.below hbW)).mono ?_
  rintro e w1 ⟨rfl, hb1⟩
  have hbw1 : Below w.heap.size w w1 := hbW.trans (hb1.mono hbW.size)
  have b1 := b0.below hb1 b0.lt
  have x0 := b1.cell 0 _ rfl
  have x1 := b1.cell 1 _ rfl
  have x2 := b1.cell 2 _ rfl
  rcases hcs with hB | hB
  · have HP : Hid (_ = _) := HPT.out hB
    obtain ⟨h5, h6⟩ := HLN.out hB
    rw [hB]
    clear hB hok
    have hL1 := (putOf_len k).2
    have HL2 : Hid (_ ≤ _) := putList_len ints
    have hlt1 := b1.lt
    have hkeep : ∀ w', Below w1.heap.size w1 w' → w'.cell? ⟨w.heap.size, 0, none⟩ = some (.int .i64 k) ∧ w'.cell? ⟨w.heap.size, 1, none⟩ = some (.slice aI ints.length cI) ∧ w'.cell? ⟨w.heap.size, 2, none⟩ = some (.slice aR refs.length cR) :=
      fun w' hh => ⟨(b1.below hh hlt1).cell 0 _ rfl, (b1.below hh hlt1).cell 1 _ rfl, (b1.below hh hlt1).cell 2 _ rfl⟩
    have hbA : Below w1.heap.size w1 (w1.alloc (.cells #[.int .i64 k] 3)).drew := ((Below.refl _ _).alloc (Nat.le_refl _) _).drew
    have hrA : ReadsI (w1.alloc (.cells #[.int .i64 k] 3)).drew (some ⟨w1.heap.size, 0, none⟩) [k] := (readsI_one w1 k _).below (Below.refl _ _).drew
    go_wp2_with fail
    go_region_held3 (fun w' => w'.cell? ⟨w.heap.size, 0, none⟩ = some (.int .i64 k) ∧ w'.cell? ⟨w.heap.size, 1, none⟩ = some (.slice aI ints.length cI) ∧ w'.cell? ⟨w.heap.size, 2, none⟩ = some (.slice aR refs.length cR))
      (first | exact hkeep _ ((Below.refl _ _).alloc (Nat.le_refl _) _).drew | exact hkeep _ ((Below.refl _ _).alloc (Nat.le_refl _) _) | exact hkeep _ hw4 | exact hkeep _ hw3 | exact hkeep _ hw2 | go_keep)
      (first
      | (go_at_call 33; refine (putInts_any none 0 [] _ _ [k] _ ⟨by simp, by simp⟩ (fun _ => rfl) hrA (by simp)).mono ?_; rintro e w2 ⟨a2, c2, y2, rfl, hy2, ho2, hb2⟩; have hw2 : Below w1.heap.size w1 w2 := hbA.trans (hb2.mono hbA.size); have HY2 : Hid (y2 = [] ++ putOf k) := (by rw [Hid, hy2]; simp); have hl2 : y2.length ≤ 65 := (by rw [HY2.out]; simp; omega); clear hy2)
      | (go_at_call_of 93 (Value.slice a2 y2.length c2); refine (putParts_any a2 c2 y2 aI cI ints w2 ho2.reads ho2.nocap (hI.below (hbw1.trans (hw2.mono hbw1.size))) (by omega) (by omega)).mono ?_; rintro e w3 ⟨a3, c3, y3, rfl, HY3, ho3, hb3⟩; have hw3 : Below w1.heap.size w1 w3 := hw2.trans (hb3.mono hw2.size); have hl3 : y3.length ≤ 1000 := (by have := HL2.out; rw [HY3.out, List.length_append]; omega))
      | (go_at_call_of 93 (Value.slice a3 y3.length c3); refine (putParts_any a3 c3 y3 aR cR refs w3 ho3.reads ho3.nocap (hR.below (hbw1.trans (hw3.mono hbw1.size))) (by omega) (by omega)).mono ?_; rintro e w4 ⟨a4, c4, y4, rfl, HY4, ho4, hb4⟩; have hw4 : Below w1.heap.size w1 w4 := hw3.trans (hb4.mono hw3.size)))
    go_wp2
    go_ret
    exact ⟨a4, c4, y4, rfl, by rw [Hid, HP.out, HY4.out, HY3.out, HY2.out]; simp, ho4.base (Nat.le_trans hbw1.size hw3.size), hbw1.trans (hw4.mono hbw1.size)⟩
  · have HP : Hid (_ = _) := HPF.out hB
    rw [hB]
    clear hB hok
    go_wp2
    go_ret
    exact ⟨_, 0, [], rfl, HP.out.symm, (own_lit0 w1).base hbw1.size, hbw1.alloc hbw1.size _⟩
end Go.Proofs.YtickiokdcbeefaaGreatDoor

/- Appending a text's bytes to a row that the call owns. -/
namespace Go.Proofs.YtickiokdcbeefaaGreatDoor
open Go.RowKit

theorem sBytes_cells (s : ByteArray) : (sBytes s).map (Value.int .u8) = Lib.strCells s := by
  simp [sBytes, Lib.strCells]

theorem append_text {w : World} {ops : Array Oper} {rest : List Oper} {o : Oper} {act : Act} {Q : Exit → Act → World → Prop} (hgd : o.guard = none) (sl x : Operand)
    (ho : o.op = .call { callee := .builtin .append, args := #[sl, x], argTypes := #[22, 9] })
    (base : Nat) (a : Option Addr) (c : Nat) (xs : List Int) (hs : act.eval sl = .slice a xs.length c) (hown : OwnB w base a c xs)
    (s : ByteArray) (hx : act.eval x = .string s) (hb : xs.length + s.size ≤ 70368744177664) (hbase : base ≤ w.heap.size)
    (h : ∀ a' c' ys w', Hid (ys = xs ++ sBytes s) → OwnB w' base a' c' ys → w.grownBy w' (Value.slice a xs.length c).ownBlock → wpList Tryz.prog ops Q rest (act.put o.dst (.slice a' ys.length c')) w') :
    wpList Tryz.prog ops Q (o :: rest) act w := by
  obtain ⟨i0, hi, hz0, hz1, hz2⟩ := info_parts Tryz.infoU8
  refine Lib.wpList_append_own_string w hgd sl x 22 9 ho base 5 i0 Tryz.underlying22 Tryz.underlying9 hi hz0 hz1 hz2 _ _ _ hs hown.2 s hx (by simp only [maxLen]; omega) (by omega) hbase ?_
  intro v' w' h1 h2 _
  have e1 : xs.length + s.size = (xs ++ sBytes s).length := by rw [List.length_append, sBytes_len]
  have e2 : xs.map (Value.int .u8) ++ Lib.strCells s = (xs ++ sBytes s).map (Value.int .u8) := by rw [List.map_append, sBytes_cells]
  rw [e1, e2] at h1
  have sh : ∃ a' c', v' = .slice a' (xs ++ sBytes s).length c' := by
    rcases h1.2 with ⟨rfl, h0⟩ | ⟨g, cap, cur, rfl, _⟩
    · exact ⟨none, 0, by rw [h0]⟩
    · exact ⟨_, _, rfl⟩
  obtain ⟨a', c', rfl⟩ := sh
  refine h a' c' (xs ++ sBytes s) w' rfl ⟨?_, h1⟩ h2
  intro z hz
  rcases List.mem_append.1 hz with h3 | h3
  · exact hown.1 z h3
  · exact sBytes_byte s z h3

/-- A text's iterator stays while a row of bytes is written. -/
theorem iter_kept {w w' : World} {base : Nat} {a : Option Addr} {c : Nat} {ys : List Int} {k pos : Nat} {s : ByteArray} (ho : OwnB w base a c ys) (hg : w.grownBy w' (Value.slice a ys.length c).ownBlock)
    (hk : w.heap[k]? = some (.stringIter s pos)) : w'.heap[k]? = some (.stringIter s pos) := by
  rw [hg.block k (Array.getElem?_eq_some_iff.1 hk).1 ?_]
  · exact hk
  · intro e
    rcases ho.2.2 with ⟨hv, _⟩ | ⟨g, cap, cur, hv, hg1, hgg, hr⟩
    · rw [hv] at e; simp [Value.ownBlock] at e
    · rw [hv] at e
      simp only [Value.ownBlock, Option.some.injEq] at e
      subst e
      rw [hgg] at hk
      cases hk

theorem OwnB.iterAt {w : World} {base : Nat} {a : Option Addr} {c : Nat} {ys : List Int} {k pos : Nat} {s : ByteArray} (ho : OwnB w base a c ys) (hk : w.heap[k]? = some (.stringIter s pos)) (pos' : Nat) : OwnB (w.iterAt k s pos') base a c ys := by
  refine ⟨ho.1, ho.2.1, ?_⟩
  rcases ho.2.2 with h0 | ⟨g, cap, cur, hv, hg1, hgg, hr⟩
  · exact .inl h0
  · refine .inr ⟨g, cap, cur, hv, hg1, ?_, hr⟩
    rw [Lib.iterAt_other w k g s pos' (by intro e; subst e; rw [hgg] at hk; cases hk)]
    exact hgg

theorem width_pos (s : ByteArray) (pos : Nat) (h : pos < s.size) : 1 ≤ (Utf8.decode s pos).2 := by
  by_cases ha : (s[pos]'h).toNat < 128
  · rw [decode_ascii s pos h ha]; exact Nat.le_refl _
  · exact (decode_high s pos h (by omega)).2

end Go.Proofs.YtickiokdcbeefaaGreatDoor

/- The walk of impl.appendRunes: all of a text's bytes, rune by rune. -/
namespace Go.Proofs.YtickiokdcbeefaaGreatDoor
open Go.RowKit

set_option maxHeartbeats 400000 in
set_option maxRecDepth 100000 in
theorem appendRunes_any (base : Nat) (a : Option Addr) (c : Nat) (xs : List Int) (s : ByteArray) (w : World) (hown : OwnB w base a c xs) (hl : xs.length + s.size ≤ 70368744177000) (hbase : base ≤ w.heap.size) :
    Calls Tryz.prog 91 #[.slice a xs.length c, .string s] w fun e w' => ∃ a' c' ys, e = .returned (.slice a' ys.length c') ∧ ys = xs ++ sBytes s ∧ OwnB w' base a' c' ys ∧ Below base w w' := by
  go_enter Tryz.func91, Tryz.ntmps91
  go_wp2
  go_loopw [0, 5, 6] (fun out fr _ wr => ∃ (a' : Option Addr) (c' : Nat) (ys : List Int) (pos f : Nat), out = .slice a' ys.length c' ∧ fr = .int .i64 f ∧ f ≤ pos ∧ f ≤ s.size ∧ OwnB wr base a' c' ys ∧ Hid (ys = xs ++ (sBytes s).take f) ∧ wr.heap[w.heap.size]? = some (.stringIter s pos) ∧ Below base w wr)
    (fun _ _ _ wr => s.size - wr.iterPos w.heap.size)
  case atStart => exact ⟨a, c, xs, 0, 0, rfl, rfl, by omega, by omega, hown.alloc _, by simp [Hid], World.iter_heap w s 0, (Below.refl _ _).alloc hbase _⟩
  case round =>
    obtain ⟨a', c', ys, pos, f, rfl, rfl, hfp, hfs, ho, hy, hit, hnx⟩ := hrel
    have hsz := hnx.size
    clear hown
    have hyl : ys.length ≤ xs.length + f := by
      have e := congrArg List.length hy.out
      rw [List.length_append, List.length_take, sBytes_len] at e
      omega
    by_cases hp : pos < s.size
    · have hnxt : ∀ ty, (Instr.next (.pointer (some ⟨w.heap.size, 0, none⟩)) true ty).run Tryz.prog wr = _ := fun ty => Lib.run_next_any_at wr w.heap.size s pos ty hit hp
      have hwd := width_pos s pos hp
      have hit2 := Lib.iterAt_heap wr w.heap.size s pos (pos + (Utf8.decode s pos).2) hit
      have ho1 := ho.iterAt hit (pos + (Utf8.decode s pos).2)
      have hb1 := Lib.below_iterAt hnx (k := w.heap.size) hbase s (pos + (Utf8.decode s pos).2)
      have hsz2 : base ≤ (wr.iterAt w.heap.size s (pos + (Utf8.decode s pos).2)).heap.size := by rw [Lib.iterAt_size]; omega
      have HST : Hid (_ = _) := sBytes_step s f pos hfp
      have hxl : (s.extract f pos).size ≤ s.size - f := by simp; omega
      have HI : Hid (wr.iterPos w.heap.size = pos) := by simp [Hid, World.iterPos, hit]
      go_wp2_with (at_builtin; refine append_text rfl _ _ rfl base a' c' ys rfl ho1 (s.extract f pos) rfl (by omega) hsz2 ?_; intro a2 c2 y2 w2 hy2 ho2 hg2)
      have hit3 := iter_kept ho1 hg2 hit2
      go_roundw
      case rel => exact ⟨a2, c2, y2, pos + (Utf8.decode s pos).2, pos, rfl, rfl, by omega, by omega, ho2, by rw [Hid, hy2.out, hy.out, List.append_assoc, HST.out], hit3, hb1.grown hg2 hsz2 (fun j hj => (ho1.2.lt j hj).1)⟩
      case measure => rw [HI.out]; simp only [World.iterPos, hit3]; omega
    · have hnxt : ∀ ty, (Instr.next (.pointer (some ⟨w.heap.size, 0, none⟩)) true ty).run Tryz.prog wr = _ := fun ty => Lib.run_next_end_at wr w.heap.size s pos ty hit hp
      have HST : Hid (_ = _) := sBytes_rest s f hfs
      have hxl : (s.extract f s.size).size ≤ s.size := by simp
      have hsz2 : base ≤ wr.heap.size := by omega
      have hyl2 : ys.length + (s.extract f s.size).size ≤ 70368744177664 := by
        have e := congrArg List.length hy.out
        rw [List.length_append, List.length_take, sBytes_len] at e
        simp
        omega
      go_wp2_with (at_builtin; refine append_text rfl _ _ rfl base a' c' ys rfl ho (s.extract f s.size) rfl hyl2 hsz2 ?_; intro a2 c2 y2 w2 hy2 ho2 hg2)
      go_ret
      exact ⟨a2, c2, y2, rfl, by rw [hy2.out, hy.out, List.append_assoc, HST.out], ho2, hnx.grown hg2 hsz2 (fun j hj => (ho.2.lt j hj).1)⟩
end Go.Proofs.YtickiokdcbeefaaGreatDoor

/- The walks of impl.PutText and spec.PutText. -/
namespace Go.Proofs.YtickiokdcbeefaaGreatDoor
open Go.RowKit

def putTextOf (s : ByteArray) : List Int := putOf s.size ++ sBytes s

set_option maxHeartbeats 400000 in
theorem implPutText_any (a : Option Addr) (c : Nat) (zs : List Int) (s : ByteArray) (w : World) (hr : Reads w a zs) (hc : a = none → c = 0) (hl : zs.length + s.size ≤ 70368744160000) :
    Calls Tryz.prog 62 #[.slice a zs.length c, .string s] w fun e w' => ∃ a' c' ys, e = .returned (.slice a' ys.length c') ∧ ys = zs ++ putTextOf s ∧ OwnB w' w.heap.size a' c' ys ∧ Below w.heap.size w w' := by
  have HC : Hid (a = none → c = 0) := hc
  have HL : Hid ((putOf (s.size : Int)).length ≤ 65) := (putOf_len _).2
  clear hc
  go_enter Tryz.func62, Tryz.ntmps62
  go_wp2_with fail
  refine (putInts_any a c zs _ _ [(s.size : Int)] _ (hr.alloc _) HC.out (readsI_one w _ _) (by simp; omega)).mono ?_
  rintro e w1 ⟨a1, c1, y1, rfl, hy1, ho1, hb1⟩
  have HY1 : Hid (y1 = zs ++ putOf s.size) := by rw [Hid, hy1]; simp
  have hyl : y1.length + s.size ≤ 70368744177000 := by
    have e := congrArg List.length HY1.out
    have := HL.out
    rw [List.length_append] at e
    omega
  have hbw : Below w.heap.size w w1 := ((Below.refl _ _).alloc (Nat.le_refl _) _).trans (hb1.mono (by simp))
  have ho1' : OwnB w1 w.heap.size a1 c1 y1 := ho1.base (by simp)
  clear hy1 hb1 ho1 hr
  go_wp2_with fail
  refine (appendRunes_any w.heap.size a1 c1 y1 s w1 ho1' hyl hbw.size).mono ?_
  rintro e w2 ⟨a2, c2, y2, rfl, hy2, ho2, hb2⟩
  have HY2 : Hid (y2 = zs ++ putTextOf s) := by rw [Hid, hy2, HY1.out, List.append_assoc]; rfl
  clear hy2
  go_wp2
  go_ret
  exact ⟨a2, c2, y2, rfl, HY2.out, ho2, hbw.trans hb2⟩

end Go.Proofs.YtickiokdcbeefaaGreatDoor
