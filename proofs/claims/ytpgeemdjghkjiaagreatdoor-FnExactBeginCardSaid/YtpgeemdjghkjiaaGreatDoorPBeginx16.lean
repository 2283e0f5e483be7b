/- Several texts in one, in their order. -/
import Derived.Test.YtpgeemdjghkjiaaGreatDoorPBeginx15
import Derived.Test.YtpgeemdjghkjiaaGreatDoorPBeginx14
import Derived.Test.YtpgeemdjghkjiaaGreatDoorPBeginx4
import Derived.Test.YtpgeemdjghkjiaaGreatDoorPBeginx9
import Derived.Deep.CutRange
import Derived.Deep.RegionLaw
import Derived.Test.YtpgeemdjghkjiaaGreatDoorPBeginx5
import Derived.Test.YtpgeemdjghkjiaaGreatDoorPBeginx11
import Derived.Test.YtpgeemdjghkjiaaGreatDoorPBeginx1
set_option maxHeartbeats 8000000
set_option maxRecDepth 100000
namespace Go.Proofs.YtpgeemdjghkjiaaGreatDoor
open Go.RowKit
def refuseV (e : EngV) (asked : Bool) : Int := if okEng e && (!e.down && asked) then (if 3800 < e.log.recs.length then 4 else 0) else 1
theorem refusal_any (e : EngA) (asked : Bool) (se : e.shape) (w : World) (hg : ErrT w) (re : e.reads w) (hl : e.short 1048576) :
  Calls Tryz.prog 40 #[.agg e.cells.toArray, .bool asked] w fun r w' => r = .returned (.int .i64 (refuseV e.v asked)) ∧ Below w.heap.size w w' := by
 have HV : Hid (refuseV e.v asked = if okEng e.v && (!e.down && asked) then (if 3800 < e.log.recs.length then 4 else 0) else 1) := by
  rw [Hid]
  unfold refuseV
  rw [show e.v.log.recs.length = e.log.recs.length by simp [EngA.v, LogA.v]]
  rfl
 generalize refuseV e.v asked = RV at *
 have CE := fun u (hu : ErrT u) (hr : e.reads u) => implEngineOk_any e se u hu hr hl
 have hrl : e.log.recs.length ≤ 1048576 := hl.log.len
 have HI := eng_info se
 obtain ⟨W, hW, b0, hbW, hsW⟩ := boxes1 w e.cells 58
 have HB : Hid (∀ u, Below W.heap.size W u → Box u w.heap.size e.cells 58) := fun u hu => b0.below hu b0.lt
 have HR : Hid (∀ u, Below W.heap.size W u → e.reads u) := fun u hu => (re.below hbW).below hu
 have HEND : Hid (∀ u, Below W.heap.size W u → Below w.heap.size w u) := fun u hu => hbW.trans (hu.mono hbW.size)
 have hw0 : w.heap.size < W.heap.size := by omega
 have N : Below W.heap.size W W := Below.refl _ _
 clear b0 hsW
 have HG : Hid (∀ u, Below W.heap.size W u → ErrT u) := fun u hu => hg.keep (HEND.out u hu)
 have pe : W.rangeAt w.heap.size 0 e.cells := Box.range [] e.cells [] (by simpa using HB.out W N)
 clear re hl hg
 have C1 := CE W (HG.out W N) (HR.out W N)
 clear CE
 go_enter Tryz.func40, Tryz.ntmps40
 go_wp2_with (first | (guard_target = wpList _ _ _ (Oper.mk (some 6) _ _ _ _ _ :: _) _ _; refine wpList_load_mid rfl 58 (.tmp 2) rfl w.heap.size 0 rfl (e.cells) _ (by rw [hW.out]; exact pe) Tryz.underlying58 rfl HI ?_) | fail)
 rw [hW.out]
 clear hW pe
 refine C1.mono ?_
 clear C1
 rintro r w1 ⟨rfl, hb⟩
 replace N := N.trans (hb.mono N.size)
 clear hb
 have p2 := (eng_parts se (HB.out _ N)).2.2.1
 have l0 : w1.cell? ⟨w.heap.size, 138, none⟩ = some (.slice e.log.a e.log.recs.length e.log.c) := p2 0 _ rfl
 have p6 := (eng_parts se (HB.out _ N)).2.2.2.2.2.2
 have HE : Hid (Below w.heap.size w w1) := HEND.out _ N
 obtain ⟨vO, hO⟩ : ∃ b, Hid (okEng e.v = b) := ⟨_, rfl⟩
 obtain ⟨vD, hD⟩ : ∃ b, Hid (e.down = b) := ⟨_, rfl⟩
 rw [hO.out, hD.out] at HV
 rw [hD.out] at p6
 rw [hO.out]
 clear p2 hO hD
 cases vO with
 | false =>
  have HF : Hid (RV = 1) := HV.out.trans rfl
  go_wp2
  go_ret
  exact ⟨ret_int HF.out.symm, HE.out⟩
 | true =>
  cases vD with
  | true =>
   have HF : Hid (RV = 1) := HV.out.trans rfl
   go_wp2
   go_ret
   exact ⟨ret_int HF.out.symm, HE.out⟩
  | false =>
   cases asked with
   | false =>
    have HF : Hid (RV = 1) := HV.out.trans rfl
    go_wp2
    go_ret
    exact ⟨ret_int HF.out.symm, HE.out⟩
   | true =>
    by_cases hx : 3800 < e.log.recs.length
    ·have hxi : (3800 : Int) < (e.log.recs.length : Int) := by omega
     have HF : Hid (RV = 4) := HV.out.trans (if_pos hx)
     clear hx
     go_wp2
     go_ret
     exact ⟨ret_int HF.out.symm, HE.out⟩
    ·have hxi : ¬ (3800 : Int) < (e.log.recs.length : Int) := by omega
     have HF : Hid (RV = 0) := HV.out.trans (if_neg hx)
     clear hx
     go_wp2
     go_ret
     exact ⟨ret_int HF.out.symm, HE.out⟩
theorem run_nextR {P : Program} {w w' : World} {m : Sem Value} {v : Value} (h : m.run P w = .ok v w') : (do let r ← m; pure (Next.value r) : Sem Next).run P w = .ok (.value v) w' := by simp only [Sem.run_bind, h, Result.andThen_ok, Sem.run_pure]
theorem run_any (e : EngA) (se : e.shape) (w : World) (re : e.reads w) (hl : e.short 1048576) (hc : e.caps) :
  Calls Tryz.prog 42 #[.agg e.cells.toArray] w fun r w' => ∃ (t : EngA) (M R : Nat), r = .returned (.pointer (some ⟨R, 0, none⟩)) ∧ t.shape ∧ Hid (t.v = e.v) ∧ t.own w' w.heap.size M ∧ M < R ∧ R < w'.heap.size ∧ w.heap.size ≤ M ∧
   MapAt w' M (claimsTo e.holds e.holds.length) ∧ Box w' R (runCells t.cells M (e.holds.length : Int)) 143 ∧ Below w.heap.size w w' := by
 have CE := fun u (hr : e.reads u) => copyEngine_any e se u hr hl hc
 have hlh := hl.holds
 have HI := eng_info se
 obtain ⟨W, hW, b0, hbW, hsW⟩ := boxes1 w e.cells 58
 have HB : Hid (∀ u, Below W.heap.size W u → Box u w.heap.size e.cells 58) := fun u hu => b0.below hu b0.lt
 have HR : Hid (∀ u, Below W.heap.size W u → e.reads u) := fun u hu => (re.below hbW).below hu
 have HEND : Hid (∀ u, Below W.heap.size W u → Below w.heap.size w u) := fun u hu => hbW.trans (hu.mono hbW.size)
 have hw0 : w.heap.size < W.heap.size := by omega
 have N : Below W.heap.size W W := Below.refl _ _
 clear b0 hsW
 have HCC : Hid (∀ u, Below W.heap.size W u → Calls Tryz.prog 98 #[.slice e.aH e.holds.length e.cH] u fun r w' => r = .returned (.map (some u.heap.size)) ∧ MapAt w' u.heap.size (claimsTo e.holds e.holds.length) ∧ Below u.heap.size u w') := fun u hu => claimsOf_any e.aH e.cH e.holds u (HR.out _ hu).holds (by omega)
 have HS : Hid (∀ u, Below W.heap.size W u → (u.rangeAt w.heap.size 0 e.cells ∧ u.cell? ⟨w.heap.size, 141, none⟩ = some (.slice e.aH e.holds.length e.cH))) := fun u hu => ⟨Box.range [] e.cells [] (by simpa using HB.out u hu), (eng_parts se (HB.out u hu)).2.2.2.2.1⟩
 clear re hl
 go_enter Tryz.func42, Tryz.ntmps42
 go_upto_region 1 with fail
 rw [hW.out]
 clear hW
 have D0 : Below W.heap.size W W.drew := N.drew
 have C1 := CE W.drew (HR.out _ D0)
 refine wp_region_held_drew (S := fun u => (u.rangeAt w.heap.size 0 e.cells ∧ u.cell? ⟨w.heap.size, 141, none⟩ = some (.slice e.aH e.holds.length e.cH))) (by kernel_rfl) (HS.out _ D0) (fun hHeld => ?_)
 generalize W.drew = d0 at *
 refine tk 0 rfl (yieldsIf_load_mid (by rfl) _ _ rfl _ _ rfl (e.cells) _ (fun _ h => h.1) Tryz.underlying58 rfl HI) hHeld ?_
 try simp only [Act.put, zA, zB, zD, zE, zF]
 refine tk 2 (v := .pointer (some ⟨w.heap.size, 141, none⟩)) rfl (Or.inl ⟨by rfl, ?_⟩) hHeld ?_
 ·intro w' hSw
  go_simp <;> rfl
 try simp only [Act.put, zA, zB, zC, zD, zE, zF]
 refine tk 3 (v := .slice e.aH e.holds.length e.cH) rfl (Or.inl ⟨by rfl, ?_⟩) hHeld ?_
 ·intro w' hSw
  have hx := hSw.2
  go_simp <;> rfl
 try simp only [Act.put, zA, zB, zC, zD, zE, zF]
 refine tk 5 (v := .pointer (some ⟨w.heap.size, 141, none⟩)) rfl (Or.inl ⟨by rfl, ?_⟩) hHeld ?_
 ·intro w' hSw
  go_simp <;> rfl
 try simp only [Act.put, zA, zB, zC, zD, zE, zF]
 refine tk 6 (v := .slice e.aH e.holds.length e.cH) rfl (Or.inl ⟨by rfl, ?_⟩) hHeld ?_
 ·intro w' hSw
  have hx := hSw.2
  go_simp <;> rfl
 try simp only [Act.put, zA, zB, zC, zD, zE, zF]
 refine tk 7 (v := .int .i64 (e.holds.length : Int)) rfl (Or.inl ⟨by rfl, ?_⟩) hHeld ?_
 ·intro w' hSw
  go_simp <;> rfl
 try simp only [Act.put, zA, zB, zC, zD, zE, zF]
 refine wpAnyH_ready (rs := [1]) (by kernel_rfl) (by simp) ?_
 refine AllReadyH.cons rfl (fun K hK => ?_) AllReadyH.nil
 go_simp
 refine C1.mono ?_
 clear C1
 rintro r d1 ⟨t, rfl, st, hv, ot, hb1⟩
 have D1 : Below W.heap.size W d1 := D0.trans (hb1.mono D0.size)
 have z1 := hb1.size
 have zd := D0.size
 refine hK.out _ _ (HS.out _ D1) (fun hHeld => ?_)
 clear hK K hb1
 try simp only [Act.put, zA, zB, zC, zD, zE, zF]
 refine wpAnyH_ready (rs := [4]) (by kernel_rfl) (by simp) ?_
 refine AllReadyH.cons rfl (fun K hK => ?_) AllReadyH.nil
 go_simp
 refine (HCC.out _ D1).mono ?_
 rintro r d2 ⟨rfl, hm2, hb2⟩
 have D2 : Below W.heap.size W d2 := D1.trans (hb2.mono D1.size)
 have z2 := hb2.size
 have hmL := hm2.lt
 replace ot := ot.below hb2
 refine hK.out _ _ (HS.out _ D2) (fun hHeld => ?_)
 clear hK K hb2
 try simp only [Act.put, zA, zB, zC, zD, zE, zF]
 refine tk 8 (v := .agg (runCells t.cells d1.heap.size (e.holds.length : Int)).toArray) rfl (Or.inl ⟨by rfl, ?_⟩) hHeld ?_
 ·intro w' hSw
  have e8 := run_buildR w' t st d1.heap.size (e.holds.length : Int)
  refine run_nextR ?_
  simp only [List.map_toArray, List.map_cons, List.map_nil]
  exact e8
 try simp only [Act.put, zA, zB, zC, zD, zE, zF]
 obtain ⟨d3, hd3, bR, hb3, hs3⟩ := boxes1 d2 (runCells t.cells d1.heap.size (e.holds.length : Int)) 143
 have D3 : Below W.heap.size W d3 := D2.trans (hb3.mono D2.size)
 have hlR := bR.lt
 have z3 := hb3.size
 replace hm2 := hm2.below hb3
 replace ot := ot.below hb3
 refine wpAnyH_ready (rs := [9]) (by kernel_rfl) (by simp) ?_
 refine AllReadyH.cons rfl (fun K hK => ?_) AllReadyH.nil
 go_simp
 rw [hd3.out]
 refine hK.out _ _ (HS.out _ D3) (fun hHeld => ?_)
 clear hK K hb3 hd3 hs3
 try simp only [Act.put, zA, zB, zC, zD, zE, zF]
 refine tk 10 (v := .pointer (some ⟨d2.heap.size, 0, none⟩)) rfl (Or.inl ⟨by rfl, ?_⟩) hHeld ?_
 ·intro w' hSw
  go_simp <;> rfl
 try simp only [Act.put, zA, zB, zC, zD, zE, zF]
 refine wpAnyH_done (by kernel_rfl) ?_ _
 clear hHeld
 have HE : Hid (_ ∧ _ ∧ _ ∧ _ ∧ _ ∧ _ ∧ _ ∧ _ ∧ _) := ⟨st, hv, ot.widen (show w.heap.size ≤ d0.heap.size by omega) (Nat.le_refl _) (by omega), hmL, hlR, (show w.heap.size ≤ d1.heap.size by omega), hm2, bR, HEND.out _ D3⟩
 go_wp2
 go_ret
 exact ⟨t, d1.heap.size, d2.heap.size, rfl, HE.out⟩
theorem Within.touch1 {B : Nat} {w w' : World} (h : Within B (B + 1) w w') : Touch [B] w w' := ⟨h.os, h.tape, h.output, h.size, fun k hk hn => h.block k hk (fun hh => hn (List.mem_singleton.2 (by omega)))⟩
def RecA.at (r : RecA) (n : Int) : RecA := { r with lsn := n }
def EngA.begun (e : EngA) (a : Option Addr) (c : Nat) : EngA := { e with txs := e.txs ++ [⟨e.next, 0, false⟩], aT := a, cT := c, next := e.next + 1 }
def BegunAns (R : Nat) (e : EngA) (M : Nat) (n : Int) (lo : Nat) (w : World) (r : Ending) (w' : World) : Prop :=
 (r = .returned (.tuple #[.int .i64 0, .int .i64 4]) ∧ (e.txs.length = 6 ∨ 1000 < e.next) ∧ w' = w) ∨
 ∃ (a' : Option Addr) (c' : Nat) (u v : World), r = .returned (.tuple #[.int .i64 e.next, .int .i64 0]) ∧ e.txs.length ≠ 6 ∧ ¬ 1000 < e.next ∧ Box w' R (runCells (e.begun a' c').cells M n) 143 ∧
  OwnL w' lo w'.heap.size a' c' (e.txs ++ [⟨e.next, 0, false⟩]) ∧ (∀ k, (Value.slice a' (e.txs ++ [(⟨e.next, 0, false⟩ : LiveV)]).length c').ownBlock = some k → (Value.slice e.aT e.txs.length e.cT).ownBlock = some k ∨ k = u.heap.size) ∧ Below w.heap.size w u ∧ u.grownBy v (Value.slice e.aT e.txs.length e.cT).ownBlock ∧ Within R (R + 1) v w'
theorem begin_any (R : Nat) (e : EngA) (se : e.shape) (M : Nat) (n : Int) (w : World) (lo hi : Nat) (b : Box w R (runCells e.cells M n) 143) (own : OwnL w lo hi e.aT e.cT e.txs) (hlo : lo ≤ w.heap.size) (hR : R < lo ∨ hi ≤ R)
  (hl : e.txs.length ≤ 1048576) (hn : 1 ≤ e.next ∧ e.next ≤ 1001) :
  Calls Tryz.prog 43 #[.pointer (some ⟨R, 0, none⟩)] w fun r w' => BegunAns R e M n lo w r w' := by
 have HA : Hid ((cellsPs e.disk).length = 136) := EngA.disk_len se
 have b0 : Box w R (cellsPs e.disk ++ [.slice e.aS e.seats.length e.cS, .int .i64 e.hand, .slice e.log.a e.log.recs.length e.log.c, .int .i64 e.log.sure, .slice e.aT e.txs.length e.cT, .slice e.aH e.holds.length e.cH, .int .i64 e.next, .bool e.down, .map (some M), .int .i64 n]) 143 := by
  unfold runCells EngA.cells at b
  rw [List.append_assoc] at b
  exact b
 have hlt := b.lt
 have x0 := b0.cell 140 (.slice e.aT e.txs.length e.cT) (by rw [List.getElem?_append_right (by rw [HA.out]; omega), HA.out]; rfl)
 have x2 := b0.cell 142 (.int .i64 e.next) (by rw [List.getElem?_append_right (by rw [HA.out]; omega), HA.out]; rfl)
 clear b
 by_cases h6 : e.txs.length = 6
 ·have h6b : ((e.txs.length : Int) == 6) = true := by simp only [beq_iff_eq]; omega
  have HF : Hid (BegunAns R e M n lo w (.returned (.tuple #[.int .i64 0, .int .i64 4])) w) := .inl ⟨rfl, .inl h6, rfl⟩
  clear h6 hn
  go_enter Tryz.func43, Tryz.ntmps43
  go_wp2
  exact bodyPost_ret (v := .tuple #[.int .i64 0, .int .i64 4]) (by simp [results, Tryz.results43, go_sem]) rfl HF.out
 ·have h6b : ((e.txs.length : Int) == 6) = false := by simp only [beq_eq_false_iff_ne]; omega
  by_cases hx : 1000 < e.next
  ·have HF : Hid (BegunAns R e M n lo w (.returned (.tuple #[.int .i64 0, .int .i64 4])) w) := .inl ⟨rfl, .inr hx, rfl⟩
   clear h6 hn
   go_enter Tryz.func43, Tryz.ntmps43
   go_wp2
   exact bodyPost_ret (v := .tuple #[.int .i64 0, .int .i64 4]) (by simp [results, Tryz.results43, go_sem]) rfl HF.out
  ·have HK : Hid (e.txs.length ≠ 6 ∧ ¬ 1000 < e.next) := ⟨h6, hx⟩
   obtain ⟨V, hV, bV, hbV, hsV⟩ := boxes1 w [.int .i64 e.next, .int .i64 0, .bool false] 84
   have zV := hbV.size
   have oV := own.below hbV
   have bB := b0.below hbV b0.lt
   have rV : ReadsL V (some ⟨w.heap.size, 0, none⟩) [⟨e.next, 0, false⟩] := by rw [← hV.out]; exact readsL_one w ⟨e.next, 0, false⟩ _
   have HX : Hid (∀ u, V.grownBy u (Value.slice e.aT e.txs.length e.cT).ownBlock → Box u R (cellsPs e.disk ++ [.slice e.aS e.seats.length e.cS, .int .i64 e.hand, .slice e.log.a e.log.recs.length e.log.c, .int .i64 e.log.sure, .slice e.aT e.txs.length e.cT, .slice e.aH e.holds.length e.cH, .int .i64 e.next, .bool e.down, .map (some M), .int .i64 n]) 143) := fun u hu =>
    bB.within (Within.of_grown hu (fun k hk => oV.lt k hk)) (by omega)
   have HLL : e.txs.length + ([⟨e.next, 0, false⟩] : List LiveV).length ≤ 1099511627776 := by simp only [List.length_cons, List.length_nil]; omega
   have hloV : lo ≤ V.heap.size := by omega
   have hn1 : ¬ e.next ≤ 0 := by omega
   clear h6 b0 bB own hsV bV
   go_enter Tryz.func43, Tryz.ntmps43
   go_upto_region 5 with (first | (guard_target = wpList _ _ _ (Oper.mk (some 30) _ _ _ _ _ :: _) _ _; rw [hV.out]; refine append_livesF rfl (.tmp 26) (.tmp 29) rfl lo hi e.aT e.cT e.txs rfl oV (some ⟨w.heap.size, 0, none⟩) 1 [⟨e.next, 0, false⟩] rfl rV (fun h => by cases h) HLL hloV ?_; intro a7 c7 y7 w7 hy7 o7 g7 k7; have bX := HX.out w7 g7; have y0 := bX.cell 140 (.slice e.aT e.txs.length e.cT) (by rw [List.getElem?_append_right (by rw [HA.out]; omega), HA.out]; rfl); have f0 := bX.frozen 140) | fail)
   have hyy : y7 = e.txs ++ [⟨e.next, 0, false⟩] := hy7.out
   subst hyy
   have zg := g7.size
   obtain ⟨w8, hw8, c8, hwi8, hs8⟩ := tail_fill bX HA.out 4 (.slice a7 (e.txs ++ [(⟨e.next, 0, false⟩ : LiveV)]).length c7)
   rw [show (140 : Nat) = 136 + 4 from rfl, hw8.out]
   have b8 : Box w8 R (cellsPs e.disk ++ [.slice e.aS e.seats.length e.cS, .int .i64 e.hand, .slice e.log.a e.log.recs.length e.log.c, .int .i64 e.log.sure, .slice a7 (e.txs ++ [(⟨e.next, 0, false⟩ : LiveV)]).length c7, .slice e.aH e.holds.length e.cH, .int .i64 e.next, .bool e.down, .map (some M), .int .i64 n]) 143 := c8
   have x8 := b8.cell 142 (.int .i64 e.next) (by rw [List.getElem?_append_right (by rw [HA.out]; omega), HA.out]; rfl)
   have f8 := b8.frozen 142
   obtain ⟨w9, hw9, c9, hwi9, hs9⟩ := tail_fill b8 HA.out 6 (.int .i64 (e.next + 1))
   have E9 : Hid (w8.setCell ⟨R, 142, none⟩ (.int .i64 (e.next + 1)) = w9) := hw9.out
   have b9 : Box w9 R (runCells (e.begun a7 c7).cells M n) 143 := by
    unfold runCells EngA.cells
    rw [List.append_assoc]
    exact c9
   have hw79 := hwi8.trans hwi9
   have o9 := o7.touch hw79.touch1 (fun k hk hk' => by
    have e1 := List.mem_singleton.1 hk'
    rcases k7 k hk with h | h
    ·have := oV.lt k h
     omega
    ·omega)
   have HF : Hid (BegunAns R e M n lo w (.returned (.tuple #[.int .i64 e.next, .int .i64 0])) w9) := .inr ⟨a7, c7, V, w7, rfl, HK.out.1, HK.out.2, b9, o9.widen (Nat.le_refl _) hw79.size (Nat.le_refl _), k7, hbV, g7, hw79⟩
   have hnx : e.next + 1 ≤ 9223372036854775807 := by omega
   clear c8 c9 hw8 hw9 b8 b9 o7 o9 hwi8 hwi9 hs8 hs9 bX y0 f0 x0 x2 HX
   go_wp2_with fail
   rw [E9.out]
   exact bodyPost_ret (v := .tuple #[.int .i64 e.next, .int .i64 0]) (by simp [results, Tryz.results43, go_sem]) rfl HF.out
theorem okEng_holds {e : EngV} (h : okEng e = true) : ClaimsOk (claimsTo e.holds e.holds.length) e.holds := by
 have h1 : holdsB e = true := by
  unfold okEng okTxs at h
  simp only [Bool.and_eq_true] at h
  exact h.2.2.2.1.2.1
 have hat : ∀ i, i < e.holds.length → holdAt e i = true := fun i hi => List.all_eq_true.1 h1 i (List.mem_range.2 hi)
 refine claimsTo_ok (fun i hi j hj => ?_) (fun x hx => ?_)
 ·have := hat i hi
  unfold holdAt freshH at this
  simp only [Bool.and_eq_true] at this
  have := List.all_eq_true.1 this.2.2 j (List.mem_range.2 hj)
  simpa using this
 ·obtain ⟨i, hi, rfl⟩ := List.mem_iff_getElem.1 hx
  have := hat i hi
  unfold holdAt at this
  simp only [Bool.and_eq_true] at this
  have h2 := this.1
  have e1 : e.holds.getD i zeroH = e.holds[i] := by simp [List.getD, hi]
  rw [e1] at h2
  simpa [inB] using h2
theorem okEng_next1 {e : EngV} (h : okEng e = true) : 1 ≤ e.next ∧ e.next ≤ 1001 := by
 unfold okEng at h
 simp only [Bool.and_eq_true] at h
 simpa [inB] using h.2.2.1
def beginAns (e : EngV) : EngV × Int × Int :=
 if refuseV e true ≠ 0 then (e, 0, refuseV e true) else if e.txs.length = 6 ∨ 1000 < e.next then (e, 0, 4) else ({ e with txs := e.txs ++ [⟨e.next, 0, false⟩], next := e.next + 1 }, e.next, 0)
theorem refuse_ok {e : EngV} (h : refuseV e true = 0) : okEng e = true := by
 unfold refuseV at h
 cases ho : okEng e with
 | true => rfl
 | false => rw [ho] at h; simp at h
theorem within_touchR {B : Nat} {w w' : World} (h : Within B (B + 1) w w') : Touch [B] w w' := ⟨h.os, h.tape, h.output, h.size, fun k hk hn => h.block k hk (fun hh => hn (List.mem_singleton.2 (by omega)))⟩
theorem own_holds {w : World} {e : EngA} {lo hi m : Nat} {hs : List HoldV} {a : Option Addr} {c : Nat} (h : e.own w lo hi) (ho : OwnH w m w.heap.size a c hs) (h1 : lo ≤ hi) (h2 : hi ≤ m) (h3 : m ≤ w.heap.size) : ({ e with holds := hs, aH := a, cH := c } : EngA).own w lo w.heap.size := by
 refine ⟨h.disk.widen (Nat.le_refl _) (by omega) (Nat.le_refl _), h.pool.widen (Nat.le_refl _) (by omega) (Nat.le_refl _), h.log.widen (Nat.le_refl _) (by omega) (Nat.le_refl _), h.txs.widen (Nat.le_refl _) (by omega) (Nat.le_refl _), ho.widen (by omega) (Nat.le_refl _) (Nat.le_refl _), ?_⟩
 have hb := h.blocks_lt
 have ap := h.apart
 simp only [EngA.blocks, List.mem_append] at hb
 simp only [EngA.blocks, List.nodup_append, List.mem_append] at ap
 simp only [EngA.blocks, List.nodup_append, List.mem_append]
 obtain ⟨a1, ⟨a2, ⟨a3, ⟨a4, _, _⟩, a5⟩, a6⟩, a7⟩ := ap
 have nr : ∀ o : Option Nat, o.toList.Nodup := fun o => by cases o <;> simp
 have hn : ∀ k ∈ rowOf a hs.length c, m ≤ k := fun k hk => (ho.lt k (Option.mem_toList.1 hk)).1
 refine ⟨a1, ⟨a2, ⟨a3, ⟨a4, nr _, fun x hx y hy q => ?_⟩, fun x hx y hy => ?_⟩, fun x hx y hy => ?_⟩, fun x hx y hy => ?_⟩
 ·have := hb x (.inr (.inr (.inr (.inl hx)))); have := hn y hy; omega
 ·rcases hy with hy | hy
  ·exact a5 x hx y (.inl hy)
  ·have := hb x (.inr (.inr (.inl hx))); have := hn y hy; omega
 ·rcases hy with hy | hy | hy
  ·exact a6 x hx y (.inl hy)
  ·exact a6 x hx y (.inr (.inl hy))
  ·have := hb x (.inr (.inl hx)); have := hn y hy; omega
 ·rcases hy with hy | hy | hy | hy
  ·exact a7 x hx y (.inl hy)
  ·exact a7 x hx y (.inr (.inl hy))
  ·exact a7 x hx y (.inr (.inr (.inl hy)))
  ·have := hb x (.inl hx); have := hn y hy; omega
theorem rest_any (R M : Nat) (e : EngA) (se : e.shape) (n : Int) (ms : List ClaimV) (w : World) (lo hi : Nat) (b : Box w R (runCells e.cells M n) 143) (hm : MapAt w M ms) (hb : ∀ k, 0 ≤ (atC k ms).place ∧ (atC k ms).place ≤ 1099511627776) (own : e.own w lo hi) (hR : R ∉ e.blocks) (h1 : lo ≤ hi) (h2 : hi ≤ w.heap.size) :
  Calls Tryz.prog 44 #[.pointer (some ⟨R, 0, none⟩)] w fun r w' => ∃ (hs : List HoldV) (a : Option Addr) (c : Nat), r = .returned (.agg ({ e with holds := hs, aH := a, cH := c } : EngA).cells.toArray) ∧ Hid (hs.Perm (listC ms 31) ∧ hs.Pairwise (fun a b => ¬ (atC b.oid ms).place < (atC a.oid ms).place)) ∧ ({ e with holds := hs, aH := a, cH := c } : EngA).own w' lo w'.heap.size ∧ Touch [R] w w' := by
 obtain ⟨Z, hZ⟩ : ∃ Z, Hid (zeroE = Z) := ⟨_, rfl⟩
 have sZ : Z.shape := by rw [← hZ.out]; exact zeroE_shape
 have HZ := Tryz.zeroEng
 rw [hZ.out] at HZ
 have hRl := b.lt
 obtain ⟨W, hW, bZ, hbW, hsW⟩ := boxes1 w Z.cells 58
 have b1 := b.below hbW b.lt
 have own1 := own.below hbW
 have zW := hbW.size
 have hlZ := bZ.lt
 have C := holds_any R M e.cells n ms W b1 (EngA.cells_len se) (hm.below hbW) hb
 have HA : Hid ((cellsPs e.disk).length = 136) := EngA.disk_len se
 clear b hm hb hsW own
 go_enter Tryz.func44, Tryz.ntmps44
 go_wp2_with (first | (guard_target = wpList _ _ _ (Oper.mk _ (Op.alloc _) _ _ _ _ :: _) _ _; refine alloc_of 58 Z.cells HZ ?_) | fail)
 rw [hW.out]
 clear hW
 refine C.mono ?_
 clear C
 rintro r w1 ⟨hs, a, c, rfl, HP, oh, hb1⟩
 have z1 := hb1.size
 replace b1 := b1.below hb1 b1.lt
 have b2 : Box w1 R (cellsPs e.disk ++ [.slice e.aS e.seats.length e.cS, .int .i64 e.hand, .slice e.log.a e.log.recs.length e.log.c, .int .i64 e.log.sure, .slice e.aT e.txs.length e.cT, .slice e.aH e.holds.length e.cH, .int .i64 e.next, .bool e.down, .map (some M), .int .i64 n]) 143 := by unfold runCells EngA.cells at b1; rw [List.append_assoc] at b1; exact b1
 have own2 := own1.below hb1
 have bZ2 := bZ.below hb1 bZ.lt
 have f0 := b2.frozen 141
 have x0 := b2.cell 141 (.slice e.aH e.holds.length e.cH) (by rw [List.getElem?_append_right (by rw [HA.out]; omega), HA.out]; rfl)
 obtain ⟨w2, h2', c2, t2, s2⟩ := tail_fill b2 HA.out 5 (.slice a hs.length c)
 have z2 := t2.size
 obtain ⟨T, hT⟩ : ∃ T : EngA, Hid (({ e with holds := hs, aH := a, cH := c } : EngA) = T) := ⟨_, rfl⟩
 have sT : T.shape := by rw [← hT.out]; exact ⟨se.eight, se.four⟩
 have c3 : Box w2 R ([] ++ (T.cells ++ [.map (some M), .int .i64 n])) 143 := by
  rw [← hT.out, List.nil_append, EngA.cells, List.append_assoc]; exact c2
 have rT : w2.rangeAt R 0 T.cells := Box.range [] T.cells _ c3
 have own3 : e.own w2 lo hi := own2.touch (within_touchR t2) (fun k hk hm => hR (by rw [← List.mem_singleton.1 hm]; exact hk))
 have oh3 : OwnH w2 W.heap.size w2.heap.size a c hs := (oh.within t2 (.inr (by omega))).widen (Nat.le_refl _) (by omega) (Nat.le_refl _)
 have oT : T.own w2 lo w2.heap.size := by rw [← hT.out]; exact own_holds own3 oh3 h1 (by omega) (by omega)
 have bZ3 := bZ2.within t2 (by omega)
 obtain ⟨WF, hWF, hwF, hsF, HTF, bF⟩ := eng_out sT sZ bZ3
 have HLF : Hid (_ = _) := eng_load sT bF
 have T12 : Touch [R] w w2 := (Touch.of_below (hbW.trans (hb1.mono hbW.size))).trans (within_touchR t2)
 have HEND : Hid (T.own WF lo WF.heap.size ∧ Touch [R] w WF) := ⟨(oT.touch (within_touchR hwF) (fun k hk hm => ?_)).widen (Nat.le_refl _) hwF.size (Nat.le_refl _), ⟨hwF.os.trans T12.os, hwF.tape.trans T12.tape, hwF.output.trans T12.output, Nat.le_trans T12.size hwF.size, fun k hk hn => (hwF.block k (by omega) (by omega)).trans (T12.block k hk hn)⟩⟩
 rotate_left
 ·rw [List.mem_singleton.1 hm, ← hT.out] at hk
  simp only [EngA.blocks, List.mem_append] at hk
  have hb2 := own3.blocks_lt
  simp only [EngA.blocks, List.mem_append] at hb2
  rcases hk with hk | hk | hk | hk | hk
  ·have := hb2 _ (.inl hk); omega
  ·have := hb2 _ (.inr (.inl hk)); omega
  ·have := hb2 _ (.inr (.inr (.inl hk))); omega
  ·have := hb2 _ (.inr (.inr (.inr (.inl hk)))); omega
  ·have := (oh3.lt _ (Option.mem_toList.1 hk)).1; omega
 have HI := eng_info sT
 have HO := all_oneCell_toArray (oneE T)
 have h2n : Hid (w1.setCell ⟨R, 141, none⟩ (.slice a hs.length c) = w2) := h2'.out
 clear h2' c2 c3 b1 b2 own1 own2 own3 oh oh3 oT bZ bZ2 bZ3 hwF hsF bF t2 s2 T12 hb1 hbW
 go_upto_region 2 with fail
 rw [h2n.out]
 clear h2n f0 x0
 go_wp2_with (first | (guard_target = wpList _ _ _ (Oper.mk (some 12) _ _ _ _ _ :: _) _ _; refine wpList_load_mid rfl 58 (.tmp 11) rfl R 0 rfl (T.cells) _ rT Tryz.underlying58 rfl HI ?_) | (guard_target = wpList _ _ _ (Oper.mk none (Op.store _ (Operand.tmp 2) _) _ _ _ _ :: _) _ _; refine wpList_store_mid rfl 58 (.tmp 2) (.tmp 12) rfl w.heap.size 0 (T.cells).toArray rfl rfl HTF.out (by rw [List.size_toArray]; exact HI) HO ?_) | fail)
 rw [hWF.out]
 exact bodyPost_ret (v := .agg T.cells.toArray) (results_one Tryz.results44 rfl HLF.out) rfl ⟨hs, a, c, by rw [hT.out], HP, by rw [hT.out]; exact HEND.out.1, HEND.out.2⟩
end Go.Proofs.YtpgeemdjghkjiaaGreatDoor
namespace Go.Proofs.YtpgeemdjghkjiaaGreatDoor
open Go.RowKit
theorem results_cell_two {P : Program} {fn : Func} {s t u : Nat} {ty : TypeId} {tmps : Array Value} {w : World} {v b c : Value} {ad : Addr} (hf : fn.results = #[.cell s ty, .tmp t, .tmp u]) (ht : tmps[s]?.getD undef = .pointer (some ad)) (hl : (loadVar ty ad).run P w = .ok v w) (hb : tmps[t]?.getD undef = b) (hc : tmps[u]?.getD undef = c) : (results fn tmps).run P w = .ok (.tuple #[v, b, c]) w := by
 unfold results
 rw [hf]
 simp [ht, asAddr, hl, hb, hc]
def EngTwo (x : EngV × Int × Int) (w : World) (r : Ending) (w' : World) : Prop := ∃ t : EngA, r = .returned (.tuple #[.agg t.cells.toArray, .int .i64 x.2.1, .int .i64 x.2.2]) ∧ t.shape ∧ Hid (t.v = x.1) ∧ t.own w' w.heap.size w'.heap.size ∧ Below w.heap.size w w'
theorem begun_own {w w' : World} {e : EngA} {lo hi : Nat} {a : Option Addr} {c : Nat} {bl : List Nat} (h : e.own w lo hi) (ht : Touch bl w w') (hd : ∀ k ∈ bl, k ∈ rowOf e.aT e.txs.length e.cT ∨ (k < lo ∨ hi ≤ k)) (ho : OwnL w' lo w'.heap.size a c (e.txs ++ [⟨e.next, 0, false⟩]))
  (hk : ∀ k, (Value.slice a (e.txs ++ [(⟨e.next, 0, false⟩ : LiveV)]).length c).ownBlock = some k → (Value.slice e.aT e.txs.length e.cT).ownBlock = some k ∨ hi ≤ k) (h2 : hi ≤ w.heap.size) : (e.begun a c).own w' lo w'.heap.size := by
 have hs := ht.size
 have hb := h.blocks_lt
 have ap := h.apart
 simp only [EngA.blocks, List.mem_append] at hb
 simp only [EngA.blocks, List.nodup_append, List.mem_append] at ap
 obtain ⟨a1, ⟨a2, ⟨a3, ⟨a4, a8, a9⟩, a5⟩, a6⟩, a7⟩ := ap
 have nr : ∀ o : Option Nat, o.toList.Nodup := fun o => by cases o <;> simp
 have hrow : ∀ k ∈ rowOf a (e.txs ++ [(⟨e.next, 0, false⟩ : LiveV)]).length c, k ∈ rowOf e.aT e.txs.length e.cT ∨ hi ≤ k := fun k hm => by
  rcases hk k (Option.mem_toList.1 hm) with q | q
  ·exact .inl (Option.mem_toList.2 q)
  ·exact .inr q
 refine ⟨(h.disk.touch ht (fun k hk hm => ?_)).widen (Nat.le_refl _) (by omega) (Nat.le_refl _), (OwnSts.touch h.pool ht (fun k hk hm => ?_)).widen (Nat.le_refl _) (by omega) (Nat.le_refl _), (OwnRs.touch h.log ht (fun k hk hm => ?_)).widen (Nat.le_refl _) (by omega) (Nat.le_refl _), ho, (h.holds.touch ht (fun k hk hm => ?_)).widen (Nat.le_refl _) (by omega) (Nat.le_refl _), ?_⟩
 ·rcases hd k hm with q | q
  ·exact a7 k hk k (.inr (.inr (.inl q))) rfl
  ·have := hb k (.inl hk); omega
 ·rcases hd k hm with q | q
  ·exact a6 k hk k (.inr (.inl q)) rfl
  ·have := hb k (.inr (.inl hk)); omega
 ·rcases hd k hm with q | q
  ·exact a5 k hk k (.inl q) rfl
  ·have := hb k (.inr (.inr (.inl hk))); omega
 ·rcases hd k hm with q | q
  ·exact a9 k q k (Option.mem_toList.2 hk) rfl
  ·have := hb k (.inr (.inr (.inr (.inr (Option.mem_toList.2 hk))))); omega
 ·simp only [EngA.blocks, EngA.begun, List.nodup_append, List.mem_append]
  refine ⟨a1, ⟨a2, ⟨a3, ⟨nr _, a8, fun x hx y hy q => ?_⟩, fun x hx y hy q => ?_⟩, fun x hx y hy q => ?_⟩, fun x hx y hy q => ?_⟩
  ·rcases hrow x hx with z | z
   ·exact a9 x z y hy q
   ·have := hb y (.inr (.inr (.inr (.inr hy)))); omega
  ·rcases hy with hy | hy
   ·rcases hrow y hy with z | z
    ·exact a5 x hx y (.inl z) q
    ·have := hb x (.inr (.inr (.inl hx))); omega
   ·exact a5 x hx y (.inr hy) q
  ·rcases hy with hy | hy | hy
   ·exact a6 x hx y (.inl hy) q
   ·rcases hrow y hy with z | z
    ·exact a6 x hx y (.inr (.inl z)) q
    ·have := hb x (.inr (.inl hx)); omega
   ·exact a6 x hx y (.inr (.inr hy)) q
  ·rcases hy with hy | hy | hy | hy
   ·exact a7 x hx y (.inl hy) q
   ·exact a7 x hx y (.inr (.inl hy)) q
   ·rcases hrow y hy with z | z
    ·exact a7 x hx y (.inr (.inr (.inl z))) q
    ·have := hb x (.inl hx); omega
   ·exact a7 x hx y (.inr (.inr (.inr hy))) q
theorem implBegin_any (e : EngA) (se : e.shape) (w : World) (hg : ErrT w) (re : e.reads w) (hl : e.short 1048576) (hc : e.caps) :
  Calls Tryz.prog 11 #[.agg e.cells.toArray] w fun r w' => EngTwo (beginAns e.v) w r w' := by
 obtain ⟨Z, hZ⟩ : ∃ Z, Hid (zeroE = Z) := ⟨_, rfl⟩
 have sZ : Z.shape := by rw [← hZ.out]; exact zeroE_shape
 have HZ := Tryz.zeroEng
 rw [hZ.out] at HZ
 obtain ⟨W, hW, b0, bR, hbW, hsW⟩ := boxes2 w e.cells Z.cells 58 58
 have HB : Hid (∀ u, Below W.heap.size W u → Box u w.heap.size e.cells 58) := fun u hu => b0.below hu b0.lt
 have HBR : Hid (∀ u, Below W.heap.size W u → Box u (w.heap.size + 1) Z.cells 58) := fun u hu => bR.below hu bR.lt
 have HR : Hid (∀ u, Below W.heap.size W u → e.reads u) := fun u hu => (re.below hbW).below hu
 have HEND : Hid (∀ u, Below W.heap.size W u → Below w.heap.size w u) := fun u hu => hbW.trans (hu.mono hbW.size)
 have HG : Hid (∀ u, Below W.heap.size W u → ErrT u) := fun u hu => hg.keep (hbW.trans (hu.mono hbW.size))
 have hw0 : w.heap.size + 1 < W.heap.size := by omega
 have N0 : Below W.heap.size W W := Below.refl _ _
 have HIe := eng_info se
 have r0 : W.rangeAt w.heap.size 0 e.cells := Box.range [] e.cells [] (by simpa using HB.out _ N0)
 have FIN : Hid (∀ (D : EngA) (u : World), D.shape → Below W.heap.size W u → D.own u W.heap.size u.heap.size → ∃ WF, Hid (u.setCells (w.heap.size + 1) 0 D.cells.toArray.toList = WF) ∧ Hid (u.there (w.heap.size + 1) 0 D.cells.toArray.size) ∧ Hid ((loadVar 58 ⟨w.heap.size + 1, 0, none⟩).run Tryz.prog WF = .ok (.agg D.cells.toArray) WF) ∧ Hid (D.own WF w.heap.size WF.heap.size ∧ Below w.heap.size w WF)) := fun D u sD hu od => by
  obtain ⟨WF, hWF, hwF, hsF, HTF, bF⟩ := eng_out sD sZ (HBR.out u hu)
  exact ⟨WF, hWF, HTF, eng_load sD bF, (od.within hwF (.inr (by omega))).widen (by omega) (by omega) (Nat.le_refl _), (HEND.out _ hu).trans (hwF.below (by omega) (by have := hu.size; omega))⟩
 have C := refusal_any e true se W (HG.out _ N0) (HR.out _ N0) hl
 clear b0 bR hsW
 go_enter Tryz.func11, Tryz.ntmps11
 go_upto_region 1 with (first | (guard_target = wpList _ _ _ (Oper.mk _ (Op.alloc _) _ _ _ _ :: _) _ _; refine alloc_of 58 Z.cells HZ ?_) | fail)
 rw [hW.out]
 clear hW
 go_wp2_with (first | (guard_target = wpList _ _ _ (Oper.mk (some 9) _ _ _ _ _ :: _) _ _; refine wpList_load_mid rfl 58 (.tmp 1) rfl w.heap.size 0 rfl (e.cells) _ r0 Tryz.underlying58 rfl HIe ?_) | fail)
 refine C.mono ?_
 clear C r0
 rintro r d1 ⟨rfl, hb⟩
 have N1 : Below W.heap.size W d1 := N0.trans (hb.mono N0.size)
 clear hb
 have r1 : d1.rangeAt w.heap.size 0 e.cells := Box.range [] e.cells [] (by simpa using HB.out _ N1)
 by_cases hz : refuseV e.v true = 0
 rotate_left
 ·have HV : Hid (beginAns e.v = (e.v, 0, refuseV e.v true)) := by rw [Hid, beginAns, if_pos hz]
  have hzb : (refuseV e.v true == 0) = false := by simpa using hz
  have C := copyEngine_any e se d1 (HR.out _ N1) hl hc
  generalize refuseV e.v true = RV at *
  go_wp2_with (first | (guard_target = wpList _ _ _ (Oper.mk (some 13) _ _ _ _ _ :: _) _ _; refine wpList_load_mid rfl 58 (.tmp 1) rfl w.heap.size 0 rfl (e.cells) _ r1 Tryz.underlying58 rfl HIe ?_) | fail)
  refine C.mono ?_
  clear C r1
  rintro r d2 ⟨t, rfl, st, hv, ot, hb⟩
  have N2 : Below W.heap.size W d2 := N1.trans (hb.mono N1.size)
  obtain ⟨WF, hWF, HTF, HLF, HE⟩ := FIN.out t d2 st N2 (ot.widen (by have := N1.size; omega) (Nat.le_refl _) (Nat.le_refl _))
  have HIt := eng_info st
  have HOt := all_oneCell_toArray (oneE t)
  clear hb ot
  go_wp2_with (first | (guard_target = wpList _ _ _ (Oper.mk none (Op.store _ (Operand.tmp 2) _) _ _ _ _ :: _) _ _; refine wpList_store_mid rfl 58 (.tmp 2) (.tmp 14) rfl (w.heap.size + 1) 0 (t.cells).toArray rfl rfl HTF.out (by rw [List.size_toArray]; exact HIt) HOt ?_) | fail)
  rw [hWF.out]
  exact bodyPost_ret (v := .tuple #[.agg t.cells.toArray, .int .i64 0, .int .i64 RV]) (results_cell_two Tryz.results11 rfl HLF.out rfl rfl) rfl ⟨t, by rw [HV.out], st, by rw [HV.out]; exact hv, HE.out.1, HE.out.2⟩
 have hok := refuse_ok hz
 have HCO : Hid (ClaimsOk (claimsTo e.holds e.holds.length) e.holds) := okEng_holds hok
 have HNX := okEng_next1 hok
 have HNXH : Hid (1 ≤ e.next ∧ e.next ≤ 1001) := HNX
 have HVA : Hid (beginAns e.v = if e.txs.length = 6 ∨ 1000 < e.next then (e.v, 0, 4) else ({ e.v with txs := e.txs ++ [⟨e.next, 0, false⟩], next := e.next + 1 }, e.next, 0)) := by
  rw [Hid, beginAns, if_neg (fun q => q hz)]; rfl
 have C := run_any e se d1 (HR.out _ N1) hl hc
 have hlT := hl.txs
 have hlH := hl.holds
 rw [hz]
 clear HNX hok hz
 go_wp2_with (first | (guard_target = wpList _ _ _ (Oper.mk (some 16) _ _ _ _ _ :: _) _ _; refine wpList_load_mid rfl 58 (.tmp 1) rfl w.heap.size 0 rfl (e.cells) _ r1 Tryz.underlying58 rfl HIe ?_) | fail)
 refine C.mono ?_
 clear C r1
 rintro r d2 ⟨t, M, R, rfl, st, hv, ot, hMR, hRl, hM, hm, bR, hb⟩
 have N2 : Below W.heap.size W d2 := N1.trans (hb.mono N1.size)
 have z1 := N1.size
 have z2 := hb.size
 clear hb
 have HVP : Hid (t.txs = e.txs ∧ t.next = e.next ∧ t.holds = e.holds) := ⟨congrArg EngV.txs hv.out, congrArg EngV.next hv.out, congrArg EngV.holds hv.out⟩
 have C := begin_any R t st M (e.holds.length : Int) d2 d1.heap.size M bR ot.txs (by omega) (.inr (by omega)) (by rw [HVP.out.1]; exact hlT) (by rw [HVP.out.2.1]; exact HNXH.out)
 have HPL : Hid (∀ k, 0 ≤ (atC k (claimsTo e.holds e.holds.length)).place ∧ (atC k (claimsTo e.holds e.holds.length)).place ≤ 1099511627776) := fun k => by have := claims_place e.holds k e.holds.length; omega
 have HLAST : Hid (∀ (s : EngA) (d3 : World) (hi : Nat), s.shape → Box d3 R (runCells s.cells M (e.holds.length : Int)) 143 → MapAt d3 M (claimsTo e.holds e.holds.length) → s.own d3 d1.heap.size hi → R ∉ s.blocks → hi ≤ d3.heap.size ∧ d1.heap.size ≤ hi → Below W.heap.size W d3 →
   Calls Tryz.prog 44 #[.pointer (some ⟨R, 0, none⟩)] d3 fun r w' => ∃ D : EngA, r = .returned (.agg D.cells.toArray) ∧ D.shape ∧ Hid (D.v = { s.v with holds := e.holds }) ∧ D.own w' W.heap.size w'.heap.size ∧ Below W.heap.size W w') := fun s d3 hi ss bs ms os h1 h2 h3 => by
  have hb3 := bs.lt
  refine (rest_any R M s ss _ _ d3 d1.heap.size hi bs ms HPL.out os h1 h2.2 h2.1).mono ?_
  rintro r w' ⟨hs, a, c, rfl, HP, oD, tD⟩
  have hhs : hs = e.holds := HCO.out.sorted HP.out.1 HP.out.2
  subst hhs
  refine ⟨_, rfl, ⟨ss.eight, ss.four⟩, rfl, oD.widen (by omega) (Nat.le_refl _) (Nat.le_refl _), ?_⟩
  exact h3.trans ⟨tD.os, tD.tape, tD.output, tD.size, fun k hk => tD.block k (by have := h3.size; omega) (fun hm => by have := List.mem_singleton.1 hm; omega)⟩
 go_wp2_with fail
 refine C.mono ?_
 clear C
 rintro r d3 (⟨rfl, hfull, rfl⟩ | ⟨a', c', u, v, rfl, hn6, hnx, b3, oT, hkT, hbu, hgv, hw3⟩)
 ·have HV : Hid (beginAns e.v = (e.v, 0, 4)) := by rw [Hid, HVA.out, if_pos (by rw [← HVP.out.1, ← HVP.out.2.1]; exact hfull)]
  have hRb : R ∉ t.blocks := fun hk => by have := ot.blocks_lt R hk; omega
  have C := HLAST.out t _ M st bR hm ot hRb ⟨by omega, hM⟩ N2
  clear HVA hfull hRb
  go_wp2_with fail
  refine C.mono ?_
  clear C
  rintro r d4 ⟨D, rfl, sD, hvD, oD, N4⟩
  obtain ⟨WF, hWF, HTF, HLF, HE⟩ := FIN.out D d4 sD N4 oD
  have HID := eng_info sD
  have HOD := all_oneCell_toArray (oneE D)
  clear oD 
  go_wp2_with (first | (guard_target = wpList _ _ _ (Oper.mk none (Op.store _ (Operand.tmp 2) _) _ _ _ _ :: _) _ _; refine wpList_store_mid rfl 58 (.tmp 2) (.tmp 24) rfl (w.heap.size + 1) 0 (D.cells).toArray rfl rfl HTF.out (by rw [List.size_toArray]; exact HID) HOD ?_) | fail)
  rw [hWF.out]
  exact bodyPost_ret (v := .tuple #[.agg D.cells.toArray, .int .i64 0, .int .i64 4]) (results_cell_two Tryz.results11 rfl HLF.out rfl rfl) rfl ⟨D, by rw [HV.out], sD, by rw [HV.out, Hid, hvD.out, hv.out]; rfl, HE.out.1, HE.out.2⟩
 ·have HV : Hid (beginAns e.v = ({ e.v with txs := e.txs ++ [⟨e.next, 0, false⟩], next := e.next + 1 }, e.next, 0)) := by rw [Hid, HVA.out, if_neg (by rw [← HVP.out.1, ← HVP.out.2.1]; omega)]
  have hrow := fun k hk => ot.txs.lt k hk
  have zu := hbu.size
  have tv : Touch (rowOf t.aT t.txs.length t.cT) u v := Touch.of_grown hgv (fun k hk => Option.mem_toList.2 hk)
  have tt : Touch (R :: rowOf t.aT t.txs.length t.cT) d2 d3 := ((Touch.of_below hbu).trans (tv.mono (fun k hk => List.mem_cons_of_mem _ hk))).trans ((within_touchR hw3).mono (fun k hk => by rw [List.mem_singleton.1 hk]; exact List.mem_cons_self))
  have zt := tt.size
  have oS : (t.begun a' c').own d3 d1.heap.size d3.heap.size := begun_own ot tt (fun k hk => by
   rcases List.mem_cons.1 hk with q | q
   ·exact .inr (.inr (by omega))
   ·exact .inl q) oT (fun k hk => by
   rcases hkT k hk with q | q
   ·exact .inl q
   ·exact .inr (by omega)) (by omega)
  have hRb : R ∉ (t.begun a' c').blocks := fun hk => by
   simp only [EngA.blocks, EngA.begun, List.mem_append] at hk
   have hb := ot.blocks_lt
   simp only [EngA.blocks, List.mem_append] at hb
   rcases hk with q | q | q | q | q
   ·have := hb R (.inl q); omega
   ·have := hb R (.inr (.inl q)); omega
   ·have := hb R (.inr (.inr (.inl q))); omega
   ·rcases hkT R (Option.mem_toList.1 q) with z | z
    ·have := (hrow R z).2; omega
    ·omega
   ·have := hb R (.inr (.inr (.inr (.inr q)))); omega
  have mS : MapAt d3 M (claimsTo e.holds e.holds.length) := hm.touch tt (fun hk => by
   rcases List.mem_cons.1 hk with q | q
   ·omega
   ·have := (hrow M (Option.mem_toList.1 q)).2; omega)
  have N3 : Below W.heap.size W d3 := N2.trans ⟨tt.os, tt.tape, tt.output, tt.size, fun k hk => tt.block k (by omega) (fun hq => by
   rcases List.mem_cons.1 hq with q | q
   ·omega
   ·have := (hrow k (Option.mem_toList.1 q)).1; omega)⟩
  have C := HLAST.out (t.begun a' c') d3 d3.heap.size ⟨st.eight, st.four⟩ b3 mS oS hRb ⟨Nat.le_refl _, by omega⟩ N3
  have HNE : Hid (t.next = e.next) := HVP.out.2.1
  rw [HNE.out]
  clear HVA hn6 hnx hRb oS mS b3 oT hkT hbu hgv hw3 tv tt hrow HNE
  go_wp2_with fail
  refine C.mono ?_
  clear C
  rintro r d4 ⟨D, rfl, sD, hvD, oD, N4⟩
  obtain ⟨WF, hWF, HTF, HLF, HE⟩ := FIN.out D d4 sD N4 oD
  have HID := eng_info sD
  have HOD := all_oneCell_toArray (oneE D)
  clear oD 
  go_wp2_with (first | (guard_target = wpList _ _ _ (Oper.mk none (Op.store _ (Operand.tmp 2) _) _ _ _ _ :: _) _ _; refine wpList_store_mid rfl 58 (.tmp 2) (.tmp 24) rfl (w.heap.size + 1) 0 (D.cells).toArray rfl rfl HTF.out (by rw [List.size_toArray]; exact HID) HOD ?_) | fail)
  rw [hWF.out]
  exact bodyPost_ret (v := .tuple #[.agg D.cells.toArray, .int .i64 e.next, .int .i64 0]) (results_cell_two Tryz.results11 rfl HLF.out rfl rfl) rfl ⟨D, by rw [HV.out], sD, by
   rw [HV.out, Hid, hvD.out]
   have e1 := HVP.out.1
   have e2 := HVP.out.2.1
   have ev := hv.out
   simp only [EngA.v, EngV.mk.injEq] at ev
   obtain ⟨q1, q2, q3, q4, q5, q6, q7, q8⟩ := ev
   simp only [EngA.begun, EngA.v, e1, e2, q1, q2, q3, q4, q8], HE.out.1, HE.out.2⟩
end Go.Proofs.YtpgeemdjghkjiaaGreatDoor