/- Several texts in one, in their order. -/
import Derived.Test.YtickiokdcbeefaaGreatDoorPFnLogsx14
import Derived.Test.YtickiokdcbeefaaGreatDoorPFnLogsx8
import Derived.Test.YtickiokdcbeefaaGreatDoorPFnLogsx13
import Derived.Test.YtickiokdcbeefaaGreatDoorPFnLogsx1
set_option maxHeartbeats 8000000
set_option maxRecDepth 100000
namespace Go.Proofs.YtickiokdcbeefaaGreatDoor
open Go.RowKit Go.Shelf
attribute [local go_sem] Oper.semAt_some
theorem framedRecs_any (a : Option Addr) (n c : Nat) (w : World) :
  Calls Tryz.prog 31 #[.slice a n c] w fun e w' => e = .returned (.func (.func 58) #[] #[.pointer (some ⟨w.heap.size, 0, none⟩)]) ∧ w' = w.alloc (.cells #[.slice a n c] 22) := by
 have hmf : ∀ (fn : Fn) (first cap : Array Value) (w : World), (Instr.makeFunc fn first cap).run Tryz.prog w = .ok (.func fn first cap) w := fun _ _ _ _ => rfl
 go_enter Tryz.func31, Tryz.ntmps31
 go_wp2
 go_ret
 exact ⟨rfl, rfl⟩
structure RdJ (w : World) (B L D lo : Nat) (r : Loop) (a : Option Addr) (c : Nat) (zs : List Int) (ts : List RecA) (p : Int) (h : Nat) (W : World) : Prop where
 recs : ∃ a' c', Box W (B + 1) [.slice a' ts.length c'] 24 ∧ OwnRs W lo h a' c' ts
 fin : Box W (B + 1 + 1) [.int .i64 p] 3
 byt : Box W (B + 1 + 1 + 1) [.slice a zs.length c] 22
 out : Box W B [.slice none 0 0, .int .i64 0] 26
 loop : W.heap[L]? = some (.loop r)
 dfr : W.heap[D]? = some (.deferred (some []))
 bel : Below w.heap.size w W
 lo : lo ≤ h
 hi : h ≤ W.heap.size
 len : ts.length ≤ 4000
 eq : readFrom zs (4000 - ts.length) (ts.map RecA.v) p = readLogOf zs
theorem RdJ.below {w : World} {B L D lo : Nat} {r : Loop} {a : Option Addr} {c : Nat} {zs : List Int} {ts : List RecA} {p : Int} {h : Nat} {W W' : World} (j : RdJ w B L D lo r a c zs ts p h W) (hb : Below W.heap.size W W') : RdJ w B L D lo r a c zs ts p h W' := by
 obtain ⟨a', c', b, o⟩ := j.recs
 exact ⟨⟨a', c', b.below hb b.lt, o.below hb⟩, j.fin.below hb j.fin.lt, j.byt.below hb j.byt.lt, j.out.below hb j.out.lt, (hb.block L (Array.getElem?_eq_some_iff.1 j.loop).1).trans j.loop, (hb.block D (Array.getElem?_eq_some_iff.1 j.dfr).1).trans j.dfr, j.bel.trans (hb.mono j.bel.size), j.lo, Nat.le_trans j.hi hb.size, j.len, j.eq⟩
theorem leftM_one {B : Nat} {w : World} {a : Option Addr} {n c : Nat} {t : TypeId} (b : Box w B [.slice a n c] t) : leftM B w = 4000 - n := by
 unfold leftM
 rw [b.cell 0 _ rfl]
def RdX (w : World) (B L D lo : Nat) (r : Loop) (zs : List Int) (W : World) : Prop := ∃ (ts : List RecA) (p : Int) (a' : Option Addr) (c' : Nat) (h : Nat), Box W (B + 1) [.slice a' ts.length c'] 24 ∧ OwnRs W lo h a' c' ts ∧ Box W (B + 1 + 1) [.int .i64 p] 3 ∧ Box W B [.slice none 0 0, .int .i64 0] 26 ∧
 W.heap[L]? = some (.loop { r with state := .done, pending := some (.exit 0) }) ∧ W.heap[D]? = some (.deferred (some [])) ∧ Below w.heap.size w W ∧ lo ≤ h ∧ readLogOf zs = (ts.map RecA.v, p)
theorem implReadLog_any (a : Option Addr) (c : Nat) (zs : List Int) (w : World) (hg : ErrT w) (hr : Reads w a zs) (hl : zs.length ≤ 1099511627776) (hcap : zs.length ≤ c) :
  Calls Tryz.prog 11 #[.slice a zs.length c] w fun e w' => LogGot w w' zs e := by
 refine (callsIn_wide (n := 4)).1 ?_
 refine callsIn_of_wp_marks Tryz.func11 rfl trivial ?_ rfl
 simp only [Tryz.ntmps11, List.size_toArray, List.length_cons, List.length_nil, Nat.reduceAdd, Nat.reduceSub, Array.replicate_succ, Array.replicate_zero, List.push_toArray, List.append_toArray, List.nil_append, List.cons_append]
 obtain ⟨W, hW, b0, b1, b2, hbW, hsW⟩ := boxes3 w [.slice none 0 0, .int .i64 0] [.slice none 0 0] [.int .i64 0] 26 24 3
 have HSW : Hid (W.heap.size = w.heap.size + 1 + 1 + 1) := by rw [Hid]; omega
 clear hsW
 have HI : Hid ((Tryz.prog.info? 42).map (·.size) = some 15) := by rw [Hid]; kernel_rfl
 gi_upto_region 3 with fail
 rw [hW.out]
 clear hW
 gi_wp2_with fail
 refine ⟨trivial, ?_⟩
 gi_at_call 31
 refine (callsIn_wide.2 (framedRecs_any a zs.length c W)).mono ?_
 rintro e w1 ⟨rfl, h1⟩
 obtain ⟨W3, hW3, b3, hb3, hs3⟩ := boxes1 W [.slice a zs.length c] 22
 have hW3' : W.alloc (.cells #[.slice a zs.length c] 22) = W3 := hW3.out
 rw [hW3'] at h1
 subst h1
 have HS3 : Hid (w1.heap.size = w.heap.size + 1 + 1 + 1 + 1) := by rw [Hid, hs3, HSW.out]
 have b03 := b0.below hb3 b0.lt
 have b13 := b1.below hb3 b1.lt
 have b23 := b2.below hb3 b2.lt
 have D3 : Below w.heap.size w w1 := hbW.trans (hb3.mono hbW.size)
 clear hW3 hW3' hs3 b0 b1 b2
 rw [HSW.out] at b3
 gi_wp2_with fail
 refine rangeFunc_here (gf := 58) (lb := #[.pointer (some ⟨W.heap.size, 0, none⟩)]) rfl (enters_of Tryz.func58 (by kernel_rfl) rfl) ?_
 intro r W4 hst hpd htm hps has hbd hL hD hB4 hS4
 have HBD : Hid (r.body = _) := hbd
 have HAS : Hid (r.assign = _) := has
 have HTM : Hid (r.tmps = _) := htm
 have HPS : Hid (r.params = _) := hps
 have HST : Hid (r.state = _) := hst
 have HPD : Hid (r.pending = none) := hpd
 clear hst hpd htm hps has hbd
 rw [HS3.out] at hL hD hS4
 have HLEN : Hid (W4.heap.size = w.heap.size + 1 + 1 + 1 + 1 + 2) := hS4
 have hlo6 : w.heap.size + 1 + 1 + 1 + 1 + 1 < W4.heap.size := by omega
 clear hS4
 rw [show #[Value.func (.yield (w1.heap.size + 1)) #[] #[]] ++ #[Value.pointer (some ⟨W.heap.size, 0, none⟩)] = #[Value.func (.yield (w1.heap.size + 1)) #[] #[], Value.pointer (some ⟨W.heap.size, 0, none⟩)] from rfl, HS3.out, HSW.out]
 have hJ0 : RdJ w w.heap.size (w.heap.size + 1 + 1 + 1 + 1 + 1) (w.heap.size + 1 + 1 + 1 + 1) W4.heap.size r a c zs [] 0 W4.heap.size W4 :=
  ⟨⟨none, 0, b13.below hB4 b13.lt, ownRs_nil _ _ _ (Nat.le_refl _)⟩, b23.below hB4 b23.lt, b3.below hB4 b3.lt, b03.below hB4 b03.lt, hL, hD, D3.trans (hB4.mono D3.size), Nat.le_refl _, Nat.le_refl _, Nat.zero_le _, rfl⟩
 refine (framed_in 2 (w.heap.size + 1 + 1 + 1 + 1 + 1) (w.heap.size + 1 + 1 + 1) a c zs hl hcap (leftM (w.heap.size + 1)) (RdJ w w.heap.size (w.heap.size + 1 + 1 + 1 + 1 + 1) (w.heap.size + 1 + 1 + 1 + 1) W4.heap.size r a c zs) (RdX w w.heap.size (w.heap.size + 1 + 1 + 1 + 1 + 1) (w.heap.size + 1 + 1 + 1 + 1) W4.heap.size r zs) ?_ ?_ ?_ W4 hJ0).mono ?_
 ·intro ts p h X j
  obtain ⟨a', c', b, _⟩ := j.recs
  exact ⟨j.byt, hg.keep j.bel, hr.below j.bel, leftM_one b, j.hi⟩
 ·intro ts p h X X' j hb
  exact j.below hb
 ·intro ts p h t X l u j hv ot hhl hux
  obtain ⟨a', c', kR, oR⟩ := j.recs
  have hlo := j.lo
  have hhi := j.hi
  obtain ⟨X1, hX1, z1, hb1, hs1⟩ := boxes1 X [.int .i64 0, .int .i64 0, .int .i64 0, .int .i64 0, .int .i64 0, .bool false, .int .i64 0, .slice none 0 0, .slice none 0 0, .bool false, .int .i64 0, .slice none 0 0, .slice none 0 0, .int .i64 0, .slice none 0 0] 42
  obtain ⟨X2, hX2, hw2, hs2, HT2, _, z2⟩ := rec_out t _ rfl z1
  have N2 : Below X.heap.size X X2 := hb1.trans (hw2.below (Nat.le_refl _) (by omega))
  have hlt2 := z2.lt
  have hs2' := N2.size
  have j2 := j.below N2
  have kR2 := kR.below N2 kR.lt
  have oR2 := oR.below N2
  have ot2 := ot.below N2
  have hOt := rec_one t
  clear z1 hb1 hw2 hs1 hs2 kR oR ot
  refine yield_here j.loop (by rw [HPS.out]; rfl) HST.out ?_
  rw [HAS.out, HPS.out, HTM.out]
  simp only [List.zip_toArray, List.zip_cons_cons, List.zip_nil_right, List.foldl_toArray', List.foldl_cons, List.foldl_nil, List.setIfInBounds_toArray, List.set_cons_zero, List.set_cons_succ]
  gi_upto_region 5 with (first | (guard_target = wpListIn _ _ _ _ _ (Oper.mk none (Op.store _ (Operand.tmp 6) _) _ _ _ _ :: _) _ _; refine storeIn_mid rfl (fun _ => trivial) rfl 42 (.tmp 6) (.tmp 10) rfl X.heap.size 0 t.cells.toArray rfl rfl (by rw [hX1.out]; exact HT2.out) HI.out hOt ?_) | fail)
  rw [hX1.out, hX2.out]
  clear hX1 hX2 HT2 hOt
  gi_wp2_with fail
  refine ⟨j2.loop, fun V hVL0 hVw hVs => ?_⟩
  have hVL : V.heap[w.heap.size + 1 + 1 + 1 + 1 + 1]? = some (.loop { r with state := .busy }) := hVL0.trans (by rw [HAS.out, HPS.out, HTM.out])
  clear hVL0
  rw [HBD.out]
  have HNB : Hid (nextB zs ts.length p = (t.lsn == (ts.length : Int) + 1)) := by rw [Hid, frm_next, ← hv]; rfl
  have HFULL : Hid (ts.length = 4000 → readLogOf zs = (ts.map RecA.v, p)) := fun h4 => by rw [← j.eq, h4]; rfl
  have HNO : Hid (nextB zs ts.length p = false → readLogOf zs = (ts.map RecA.v, p)) := fun hn => by rw [← j.eq]; exact readFrom_no (by rw [List.length_map]; exact hn)
  have HYS : Hid (nextB zs ts.length p = true → ts.length < 4000 → (frmOf zs p).2.2 = true ∧ readFrom zs (4000 - (ts.length + 1)) (ts.map RecA.v ++ [t.v]) (frmOf zs p).2.1 = readLogOf zs) := fun hn h4 => by
   obtain ⟨g1, g2, g3⟩ := frm_go hn
   refine ⟨g3, ?_⟩
   rw [← j.eq, show 4000 - ts.length = (4000 - (ts.length + 1)) + 1 by omega, readFrom_yes (by rw [List.length_map]; exact hn), hv, g1, g2]
  generalize nextB zs ts.length p = NB at *
  generalize (frmOf zs p).2.1 = q at *
  generalize (frmOf zs p).2.2 = ok at *
  have hVs1 := Nat.le_of_eq hVs
  have hVs2 := Nat.le_of_eq hVs.symm
  clear hVs
  have hln := j.len
  have kV := kR2.within hVw (by omega)
  have zV := z2.within hVw (by omega)
  have fV := j2.fin.within hVw (by omega)
  have yV := j2.byt.within hVw (by omega)
  have uV := j2.out.within hVw (by omega)
  have oV := oR2.within hVw (.inr (by omega))
  have tV := ot2.within hVw (.inr (by omega))
  have dV : V.heap[w.heap.size + 1 + 1 + 1 + 1]? = some (.deferred (some [])) := (hVw.block _ (Array.getElem?_eq_some_iff.1 j2.dfr).1 (by omega)).trans j2.dfr
  have BV : Below w.heap.size w V := j2.bel.trans (hVw.below (by omega) (by have := j2.bel.size; omega))
  clear hVw j2 j kR2 oR2 ot2 z2 hv
  have x0 := kV.cell 0 _ rfl
  have z0 : V.cell? ⟨X.heap.size, 0, none⟩ = some (.int .i64 t.lsn) := zV.cell 0 _ rfl
  by_cases h4 : ts.length = 4000
  ·have h4b : ((ts.length : Int) == 4000) = true := by simp only [beq_iff_eq]; omega
   have HE : Hid (readLogOf zs = (ts.map RecA.v, p)) := HFULL.out h4
   clear h4 HFULL HNO HYS HNB
   gi_wp2_with fail
   refine wpIn_region_any (by kernel_rfl) ?_
   refine wpAnyIn_ready (rs := [0]) (by kernel_rfl) (by simp) ?_
   refine AllReadyIn.cons rfl (fun K hK => ?_) AllReadyIn.nil
   go_simp
   refine hK _ _ ?_
   clear hK K
   refine wpAnyIn_ready (rs := [1]) (by kernel_rfl) (by simp) ?_
   refine AllReadyIn.cons rfl (fun K hK => ?_) AllReadyIn.nil
   go_simp
   refine hK _ _ ?_
   clear hK K
   refine wpAnyIn_ready (rs := [2]) (by kernel_rfl) (by simp) ?_
   refine AllReadyIn.cons rfl (fun K hK => ?_) AllReadyIn.nil
   go_simp
   refine hK _ _ ?_
   clear hK K
   refine wpAnyIn_ready (rs := [3]) (by kernel_rfl) (by simp) ?_
   refine AllReadyIn.cons rfl (fun K hK => ?_) AllReadyIn.nil
   go_simp
   refine hK _ _ ?_
   clear hK K
   refine wpAnyIn_ready (rs := [4, 6]) (by kernel_rfl) (by simp) ?_
   refine AllReadyIn.cons rfl (fun K hK => ?_) (AllReadyIn.cons rfl (fun K hK => ?_) AllReadyIn.nil)
   ·skip
    go_simp
    refine hK _ _ ?_
    clear hK K
    refine wpAnyIn_ready (rs := [5, 6]) (by kernel_rfl) (by simp) ?_
    refine AllReadyIn.cons rfl (fun K hK => ?_) (AllReadyIn.cons rfl (fun K hK => ?_) AllReadyIn.nil)
    ·skip
     go_simp
     refine hK _ _ ?_
     clear hK K
     refine wpAnyIn_ready (rs := [6]) (by kernel_rfl) (by simp) ?_
     refine AllReadyIn.cons rfl (fun K hK => ?_) AllReadyIn.nil
     go_simp
     refine hK _ _ ?_
     clear hK K
     refine wpAnyIn_ready (rs := [7]) (by kernel_rfl) (by simp) ?_
     refine AllReadyIn.cons rfl (fun K hK => ?_) AllReadyIn.nil
     go_simp
     refine hK _ _ ?_
     clear hK K
     refine wpAnyIn_ready (rs := [8]) (by kernel_rfl) (by simp) ?_
     refine AllReadyIn.cons rfl (fun K hK => ?_) AllReadyIn.nil
     go_simp
     refine ⟨trivial, hK _ _ ?_⟩
     clear hK K
     refine wpAnyIn_ready (rs := [9]) (by kernel_rfl) (by simp) ?_
     refine AllReadyIn.cons rfl (fun K hK => ?_) AllReadyIn.nil
     go_simp
     refine hK _ _ ?_
     clear hK K
     refine wpAnyIn_ready (rs := [10]) (by kernel_rfl) (by simp) ?_
     refine AllReadyIn.cons rfl (fun K hK => ?_) AllReadyIn.nil
     go_simp
     refine hK _ _ ?_
     clear hK K
     refine wpAnyIn_done (by kernel_rfl) ?_ _
     gi_wp2_with fail
     have ND : Below V.heap.size V V.drew := (Below.refl _ _).drew
     obtain ⟨Y, hrun, hYL, hYw, hYs⟩ := end_break (P := Tryz.prog) (V := V.drew) (r := r) (.exit 0) hVL
     have hNs : V.drew.heap.size = V.heap.size := rfl
     refine ⟨_, Y, hrun, .inr ⟨rfl, ts, p, a', c', h, (kV.below ND kV.lt).within hYw (by omega), (oV.below ND).within hYw (.inr (by omega)), (fV.below ND fV.lt).within hYw (by omega), (uV.below ND uV.lt).within hYw (by omega), hYL, (hYw.block _ (Array.getElem?_eq_some_iff.1 dV).1 (by omega)).trans dV, (BV.trans (ND.mono BV.size)).trans (hYw.below (by omega) (by have := BV.size; omega)), hlo, HE.out⟩⟩
    ·skip
     go_simp
     refine hK _ _ ?_
     clear hK K
     refine wpAnyIn_ready (rs := [5, 7]) (by kernel_rfl) (by simp) ?_
     refine AllReadyIn.cons rfl (fun K hK => ?_) (AllReadyIn.cons rfl (fun K hK => ?_) AllReadyIn.nil)
     ·skip
      go_simp
      refine hK _ _ ?_
      clear hK K
      refine wpAnyIn_ready (rs := [7]) (by kernel_rfl) (by simp) ?_
      refine AllReadyIn.cons rfl (fun K hK => ?_) AllReadyIn.nil
      go_simp
      refine hK _ _ ?_
      clear hK K
      refine wpAnyIn_ready (rs := [8]) (by kernel_rfl) (by simp) ?_
      refine AllReadyIn.cons rfl (fun K hK => ?_) AllReadyIn.nil
      go_simp
      refine ⟨trivial, hK _ _ ?_⟩
      clear hK K
      refine wpAnyIn_ready (rs := [9]) (by kernel_rfl) (by simp) ?_
      refine AllReadyIn.cons rfl (fun K hK => ?_) AllReadyIn.nil
      go_simp
      refine hK _ _ ?_
      clear hK K
      refine wpAnyIn_ready (rs := [10]) (by kernel_rfl) (by simp) ?_
      refine AllReadyIn.cons rfl (fun K hK => ?_) AllReadyIn.nil
      go_simp
      refine hK _ _ ?_
      clear hK K
      refine wpAnyIn_done (by kernel_rfl) ?_ _
      gi_wp2_with fail
      have ND : Below V.heap.size V V.drew := (Below.refl _ _).drew
      obtain ⟨Y, hrun, hYL, hYw, hYs⟩ := end_break (P := Tryz.prog) (V := V.drew) (r := r) (.exit 0) hVL
      have hNs : V.drew.heap.size = V.heap.size := rfl
      refine ⟨_, Y, hrun, .inr ⟨rfl, ts, p, a', c', h, (kV.below ND kV.lt).within hYw (by omega), (oV.below ND).within hYw (.inr (by omega)), (fV.below ND fV.lt).within hYw (by omega), (uV.below ND uV.lt).within hYw (by omega), hYL, (hYw.block _ (Array.getElem?_eq_some_iff.1 dV).1 (by omega)).trans dV, (BV.trans (ND.mono BV.size)).trans (hYw.below (by omega) (by have := BV.size; omega)), hlo, HE.out⟩⟩
     ·skip
      go_simp
      refine hK _ _ ?_
      clear hK K
      refine wpAnyIn_ready (rs := [5, 8]) (by kernel_rfl) (by simp) ?_
      refine AllReadyIn.cons rfl (fun K hK => ?_) (AllReadyIn.cons rfl (fun K hK => ?_) AllReadyIn.nil)
      ·skip
       go_simp
       refine hK _ _ ?_
       clear hK K
       refine wpAnyIn_ready (rs := [8]) (by kernel_rfl) (by simp) ?_
       refine AllReadyIn.cons rfl (fun K hK => ?_) AllReadyIn.nil
       go_simp
       refine ⟨trivial, hK _ _ ?_⟩
       clear hK K
       refine wpAnyIn_ready (rs := [9]) (by kernel_rfl) (by simp) ?_
       refine AllReadyIn.cons rfl (fun K hK => ?_) AllReadyIn.nil
       go_simp
       refine hK _ _ ?_
       clear hK K
       refine wpAnyIn_ready (rs := [10]) (by kernel_rfl) (by simp) ?_
       refine AllReadyIn.cons rfl (fun K hK => ?_) AllReadyIn.nil
       go_simp
       refine hK _ _ ?_
       clear hK K
       refine wpAnyIn_done (by kernel_rfl) ?_ _
       gi_wp2_with fail
       have ND : Below V.heap.size V V.drew := (Below.refl _ _).drew
       obtain ⟨Y, hrun, hYL, hYw, hYs⟩ := end_break (P := Tryz.prog) (V := V.drew) (r := r) (.exit 0) hVL
       have hNs : V.drew.heap.size = V.heap.size := rfl
       refine ⟨_, Y, hrun, .inr ⟨rfl, ts, p, a', c', h, (kV.below ND kV.lt).within hYw (by omega), (oV.below ND).within hYw (.inr (by omega)), (fV.below ND fV.lt).within hYw (by omega), (uV.below ND uV.lt).within hYw (by omega), hYL, (hYw.block _ (Array.getElem?_eq_some_iff.1 dV).1 (by omega)).trans dV, (BV.trans (ND.mono BV.size)).trans (hYw.below (by omega) (by have := BV.size; omega)), hlo, HE.out⟩⟩
      ·skip
       go_simp
       refine ⟨trivial, hK _ _ ?_⟩
       clear hK K
       refine wpAnyIn_ready (rs := [5]) (by kernel_rfl) (by simp) ?_
       refine AllReadyIn.cons rfl (fun K hK => ?_) AllReadyIn.nil
       go_simp
       refine hK _ _ ?_
       clear hK K
       refine wpAnyIn_ready (rs := [9]) (by kernel_rfl) (by simp) ?_
       refine AllReadyIn.cons rfl (fun K hK => ?_) AllReadyIn.nil
       go_simp
       refine hK _ _ ?_
       clear hK K
       refine wpAnyIn_ready (rs := [10]) (by kernel_rfl) (by simp) ?_
       refine AllReadyIn.cons rfl (fun K hK => ?_) AllReadyIn.nil
       go_simp
       refine hK _ _ ?_
       clear hK K
       refine wpAnyIn_done (by kernel_rfl) ?_ _
       gi_wp2_with fail
       have ND : Below V.heap.size V V.drew := (Below.refl _ _).drew
       obtain ⟨Y, hrun, hYL, hYw, hYs⟩ := end_break (P := Tryz.prog) (V := V.drew) (r := r) (.exit 0) hVL
       have hNs : V.drew.heap.size = V.heap.size := rfl
       refine ⟨_, Y, hrun, .inr ⟨rfl, ts, p, a', c', h, (kV.below ND kV.lt).within hYw (by omega), (oV.below ND).within hYw (.inr (by omega)), (fV.below ND fV.lt).within hYw (by omega), (uV.below ND uV.lt).within hYw (by omega), hYL, (hYw.block _ (Array.getElem?_eq_some_iff.1 dV).1 (by omega)).trans dV, (BV.trans (ND.mono BV.size)).trans (hYw.below (by omega) (by have := BV.size; omega)), hlo, HE.out⟩⟩
   ·skip
    go_simp
    refine hK _ _ ?_
    clear hK K
    refine wpAnyIn_ready (rs := [4, 7]) (by kernel_rfl) (by simp) ?_
    refine AllReadyIn.cons rfl (fun K hK => ?_) (AllReadyIn.cons rfl (fun K hK => ?_) AllReadyIn.nil)
    ·skip
     go_simp
     refine hK _ _ ?_
     clear hK K
     refine wpAnyIn_ready (rs := [5, 7]) (by kernel_rfl) (by simp) ?_
     refine AllReadyIn.cons rfl (fun K hK => ?_) (AllReadyIn.cons rfl (fun K hK => ?_) AllReadyIn.nil)
     ·skip
      go_simp
      refine hK _ _ ?_
      clear hK K
      refine wpAnyIn_ready (rs := [7]) (by kernel_rfl) (by simp) ?_
      refine AllReadyIn.cons rfl (fun K hK => ?_) AllReadyIn.nil
      go_simp
      refine hK _ _ ?_
      clear hK K
      refine wpAnyIn_ready (rs := [8]) (by kernel_rfl) (by simp) ?_
      refine AllReadyIn.cons rfl (fun K hK => ?_) AllReadyIn.nil
      go_simp
      refine ⟨trivial, hK _ _ ?_⟩
      clear hK K
      refine wpAnyIn_ready (rs := [9]) (by kernel_rfl) (by simp) ?_
      refine AllReadyIn.cons rfl (fun K hK => ?_) AllReadyIn.nil
      go_simp
      refine hK _ _ ?_
      clear hK K
      refine wpAnyIn_ready (rs := [10]) (by kernel_rfl) (by simp) ?_
      refine AllReadyIn.cons rfl (fun K hK => ?_) AllReadyIn.nil
      go_simp
      refine hK _ _ ?_
      clear hK K
      refine wpAnyIn_done (by kernel_rfl) ?_ _
      gi_wp2_with fail
      have ND : Below V.heap.size V V.drew := (Below.refl _ _).drew
      obtain ⟨Y, hrun, hYL, hYw, hYs⟩ := end_break (P := Tryz.prog) (V := V.drew) (r := r) (.exit 0) hVL
      have hNs : V.drew.heap.size = V.heap.size := rfl
      refine ⟨_, Y, hrun, .inr ⟨rfl, ts, p, a', c', h, (kV.below ND kV.lt).within hYw (by omega), (oV.below ND).within hYw (.inr (by omega)), (fV.below ND fV.lt).within hYw (by omega), (uV.below ND uV.lt).within hYw (by omega), hYL, (hYw.block _ (Array.getElem?_eq_some_iff.1 dV).1 (by omega)).trans dV, (BV.trans (ND.mono BV.size)).trans (hYw.below (by omega) (by have := BV.size; omega)), hlo, HE.out⟩⟩
     ·skip
      go_simp
      refine hK _ _ ?_
      clear hK K
      refine wpAnyIn_ready (rs := [5, 8]) (by kernel_rfl) (by simp) ?_
      refine AllReadyIn.cons rfl (fun K hK => ?_) (AllReadyIn.cons rfl (fun K hK => ?_) AllReadyIn.nil)
      ·skip
       go_simp
       refine hK _ _ ?_
       clear hK K
       refine wpAnyIn_ready (rs := [8]) (by kernel_rfl) (by simp) ?_
       refine AllReadyIn.cons rfl (fun K hK => ?_) AllReadyIn.nil
       go_simp
       refine ⟨trivial, hK _ _ ?_⟩
       clear hK K
       refine wpAnyIn_ready (rs := [9]) (by kernel_rfl) (by simp) ?_
       refine AllReadyIn.cons rfl (fun K hK => ?_) AllReadyIn.nil
       go_simp
       refine hK _ _ ?_
       clear hK K
       refine wpAnyIn_ready (rs := [10]) (by kernel_rfl) (by simp) ?_
       refine AllReadyIn.cons rfl (fun K hK => ?_) AllReadyIn.nil
       go_simp
       refine hK _ _ ?_
       clear hK K
       refine wpAnyIn_done (by kernel_rfl) ?_ _
       gi_wp2_with fail
       have ND : Below V.heap.size V V.drew := (Below.refl _ _).drew
       obtain ⟨Y, hrun, hYL, hYw, hYs⟩ := end_break (P := Tryz.prog) (V := V.drew) (r := r) (.exit 0) hVL
       have hNs : V.drew.heap.size = V.heap.size := rfl
       refine ⟨_, Y, hrun, .inr ⟨rfl, ts, p, a', c', h, (kV.below ND kV.lt).within hYw (by omega), (oV.below ND).within hYw (.inr (by omega)), (fV.below ND fV.lt).within hYw (by omega), (uV.below ND uV.lt).within hYw (by omega), hYL, (hYw.block _ (Array.getElem?_eq_some_iff.1 dV).1 (by omega)).trans dV, (BV.trans (ND.mono BV.size)).trans (hYw.below (by omega) (by have := BV.size; omega)), hlo, HE.out⟩⟩
      ·skip
       go_simp
       refine ⟨trivial, hK _ _ ?_⟩
       clear hK K
       refine wpAnyIn_ready (rs := [5]) (by kernel_rfl) (by simp) ?_
       refine AllReadyIn.cons rfl (fun K hK => ?_) AllReadyIn.nil
       go_simp
       refine hK _ _ ?_
       clear hK K
       refine wpAnyIn_ready (rs := [9]) (by kernel_rfl) (by simp) ?_
       refine AllReadyIn.cons rfl (fun K hK => ?_) AllReadyIn.nil
       go_simp
       refine hK _ _ ?_
       clear hK K
       refine wpAnyIn_ready (rs := [10]) (by kernel_rfl) (by simp) ?_
       refine AllReadyIn.cons rfl (fun K hK => ?_) AllReadyIn.nil
       go_simp
       refine hK _ _ ?_
       clear hK K
       refine wpAnyIn_done (by kernel_rfl) ?_ _
       gi_wp2_with fail
       have ND : Below V.heap.size V V.drew := (Below.refl _ _).drew
       obtain ⟨Y, hrun, hYL, hYw, hYs⟩ := end_break (P := Tryz.prog) (V := V.drew) (r := r) (.exit 0) hVL
       have hNs : V.drew.heap.size = V.heap.size := rfl
       refine ⟨_, Y, hrun, .inr ⟨rfl, ts, p, a', c', h, (kV.below ND kV.lt).within hYw (by omega), (oV.below ND).within hYw (.inr (by omega)), (fV.below ND fV.lt).within hYw (by omega), (uV.below ND uV.lt).within hYw (by omega), hYL, (hYw.block _ (Array.getElem?_eq_some_iff.1 dV).1 (by omega)).trans dV, (BV.trans (ND.mono BV.size)).trans (hYw.below (by omega) (by have := BV.size; omega)), hlo, HE.out⟩⟩
    ·skip
     go_simp
     refine hK _ _ ?_
     clear hK K
     refine wpAnyIn_ready (rs := [4, 8]) (by kernel_rfl) (by simp) ?_
     refine AllReadyIn.cons rfl (fun K hK => ?_) (AllReadyIn.cons rfl (fun K hK => ?_) AllReadyIn.nil)
     ·skip
      go_simp
      refine hK _ _ ?_
      clear hK K
      refine wpAnyIn_ready (rs := [5, 8]) (by kernel_rfl) (by simp) ?_
      refine AllReadyIn.cons rfl (fun K hK => ?_) (AllReadyIn.cons rfl (fun K hK => ?_) AllReadyIn.nil)
      ·skip
       go_simp
       refine hK _ _ ?_
       clear hK K
       refine wpAnyIn_ready (rs := [8]) (by kernel_rfl) (by simp) ?_
       refine AllReadyIn.cons rfl (fun K hK => ?_) AllReadyIn.nil
       go_simp
       refine ⟨trivial, hK _ _ ?_⟩
       clear hK K
       refine wpAnyIn_ready (rs := [9]) (by kernel_rfl) (by simp) ?_
       refine AllReadyIn.cons rfl (fun K hK => ?_) AllReadyIn.nil
       go_simp
       refine hK _ _ ?_
       clear hK K
       refine wpAnyIn_ready (rs := [10]) (by kernel_rfl) (by simp) ?_
       refine AllReadyIn.cons rfl (fun K hK => ?_) AllReadyIn.nil
       go_simp
       refine hK _ _ ?_
       clear hK K
       refine wpAnyIn_done (by kernel_rfl) ?_ _
       gi_wp2_with fail
       have ND : Below V.heap.size V V.drew := (Below.refl _ _).drew
       obtain ⟨Y, hrun, hYL, hYw, hYs⟩ := end_break (P := Tryz.prog) (V := V.drew) (r := r) (.exit 0) hVL
       have hNs : V.drew.heap.size = V.heap.size := rfl
       refine ⟨_, Y, hrun, .inr ⟨rfl, ts, p, a', c', h, (kV.below ND kV.lt).within hYw (by omega), (oV.below ND).within hYw (.inr (by omega)), (fV.below ND fV.lt).within hYw (by omega), (uV.below ND uV.lt).within hYw (by omega), hYL, (hYw.block _ (Array.getElem?_eq_some_iff.1 dV).1 (by omega)).trans dV, (BV.trans (ND.mono BV.size)).trans (hYw.below (by omega) (by have := BV.size; omega)), hlo, HE.out⟩⟩
      ·skip
       go_simp
       refine ⟨trivial, hK _ _ ?_⟩
       clear hK K
       refine wpAnyIn_ready (rs := [5]) (by kernel_rfl) (by simp) ?_
       refine AllReadyIn.cons rfl (fun K hK => ?_) AllReadyIn.nil
       go_simp
       refine hK _ _ ?_
       clear hK K
       refine wpAnyIn_ready (rs := [9]) (by kernel_rfl) (by simp) ?_
       refine AllReadyIn.cons rfl (fun K hK => ?_) AllReadyIn.nil
       go_simp
       refine hK _ _ ?_
       clear hK K
       refine wpAnyIn_ready (rs := [10]) (by kernel_rfl) (by simp) ?_
       refine AllReadyIn.cons rfl (fun K hK => ?_) AllReadyIn.nil
       go_simp
       refine hK _ _ ?_
       clear hK K
       refine wpAnyIn_done (by kernel_rfl) ?_ _
       gi_wp2_with fail
       have ND : Below V.heap.size V V.drew := (Below.refl _ _).drew
       obtain ⟨Y, hrun, hYL, hYw, hYs⟩ := end_break (P := Tryz.prog) (V := V.drew) (r := r) (.exit 0) hVL
       have hNs : V.drew.heap.size = V.heap.size := rfl
       refine ⟨_, Y, hrun, .inr ⟨rfl, ts, p, a', c', h, (kV.below ND kV.lt).within hYw (by omega), (oV.below ND).within hYw (.inr (by omega)), (fV.below ND fV.lt).within hYw (by omega), (uV.below ND uV.lt).within hYw (by omega), hYL, (hYw.block _ (Array.getElem?_eq_some_iff.1 dV).1 (by omega)).trans dV, (BV.trans (ND.mono BV.size)).trans (hYw.below (by omega) (by have := BV.size; omega)), hlo, HE.out⟩⟩
     ·skip
      go_simp
      refine ⟨trivial, hK _ _ ?_⟩
      clear hK K
      refine wpAnyIn_ready (rs := [4]) (by kernel_rfl) (by simp) ?_
      refine AllReadyIn.cons rfl (fun K hK => ?_) AllReadyIn.nil
      go_simp
      refine hK _ _ ?_
      clear hK K
      refine wpAnyIn_ready (rs := [5]) (by kernel_rfl) (by simp) ?_
      refine AllReadyIn.cons rfl (fun K hK => ?_) AllReadyIn.nil
      go_simp
      refine hK _ _ ?_
      clear hK K
      refine wpAnyIn_ready (rs := [9]) (by kernel_rfl) (by simp) ?_
      refine AllReadyIn.cons rfl (fun K hK => ?_) AllReadyIn.nil
      go_simp
      refine hK _ _ ?_
      clear hK K
      refine wpAnyIn_ready (rs := [10]) (by kernel_rfl) (by simp) ?_
      refine AllReadyIn.cons rfl (fun K hK => ?_) AllReadyIn.nil
      go_simp
      refine hK _ _ ?_
      clear hK K
      refine wpAnyIn_done (by kernel_rfl) ?_ _
      gi_wp2_with fail
      have ND : Below V.heap.size V V.drew := (Below.refl _ _).drew
      obtain ⟨Y, hrun, hYL, hYw, hYs⟩ := end_break (P := Tryz.prog) (V := V.drew) (r := r) (.exit 0) hVL
      have hNs : V.drew.heap.size = V.heap.size := rfl
      refine ⟨_, Y, hrun, .inr ⟨rfl, ts, p, a', c', h, (kV.below ND kV.lt).within hYw (by omega), (oV.below ND).within hYw (.inr (by omega)), (fV.below ND fV.lt).within hYw (by omega), (uV.below ND uV.lt).within hYw (by omega), hYL, (hYw.block _ (Array.getElem?_eq_some_iff.1 dV).1 (by omega)).trans dV, (BV.trans (ND.mono BV.size)).trans (hYw.below (by omega) (by have := BV.size; omega)), hlo, HE.out⟩⟩
  ·have h4b : ((ts.length : Int) == 4000) = false := by simp only [beq_eq_false_iff_ne]; omega
   have hlt : ts.length < 4000 := by omega
   clear HFULL
   cases h3 : (t.lsn == (ts.length : Int) + 1) with
   | false =>
    have h3b : (t.lsn != (ts.length : Int) + 1) = true := by simp only [bne, h3, Bool.not_false]
    have HE : Hid (readLogOf zs = (ts.map RecA.v, p)) := HNO.out (by rw [HNB.out]; exact h3)
    clear h3 HNO HYS HNB h4
    gi_wp2_with fail
    refine wpIn_region_any (by kernel_rfl) ?_
    refine wpAnyIn_ready (rs := [0]) (by kernel_rfl) (by simp) ?_
    refine AllReadyIn.cons rfl (fun K hK => ?_) AllReadyIn.nil
    go_simp
    refine hK _ _ ?_
    clear hK K
    refine wpAnyIn_ready (rs := [1]) (by kernel_rfl) (by simp) ?_
    refine AllReadyIn.cons rfl (fun K hK => ?_) AllReadyIn.nil
    go_simp
    refine hK _ _ ?_
    clear hK K
    refine wpAnyIn_ready (rs := [2]) (by kernel_rfl) (by simp) ?_
    refine AllReadyIn.cons rfl (fun K hK => ?_) AllReadyIn.nil
    go_simp
    refine hK _ _ ?_
    clear hK K
    refine wpAnyIn_ready (rs := [3]) (by kernel_rfl) (by simp) ?_
    refine AllReadyIn.cons rfl (fun K hK => ?_) AllReadyIn.nil
    go_simp
    refine hK _ _ ?_
    clear hK K
    refine wpAnyIn_ready (rs := [4, 6]) (by kernel_rfl) (by simp) ?_
    refine AllReadyIn.cons rfl (fun K hK => ?_) (AllReadyIn.cons rfl (fun K hK => ?_) AllReadyIn.nil)
    ·skip
     go_simp
     refine hK _ _ ?_
     clear hK K
     refine wpAnyIn_ready (rs := [5, 6]) (by kernel_rfl) (by simp) ?_
     refine AllReadyIn.cons rfl (fun K hK => ?_) (AllReadyIn.cons rfl (fun K hK => ?_) AllReadyIn.nil)
     ·skip
      go_simp
      refine hK _ _ ?_
      clear hK K
      refine wpAnyIn_ready (rs := [6]) (by kernel_rfl) (by simp) ?_
      refine AllReadyIn.cons rfl (fun K hK => ?_) AllReadyIn.nil
      go_simp
      refine hK _ _ ?_
      clear hK K
      refine wpAnyIn_ready (rs := [7]) (by kernel_rfl) (by simp) ?_
      refine AllReadyIn.cons rfl (fun K hK => ?_) AllReadyIn.nil
      go_simp
      refine hK _ _ ?_
      clear hK K
      refine wpAnyIn_ready (rs := [8]) (by kernel_rfl) (by simp) ?_
      refine AllReadyIn.cons rfl (fun K hK => ?_) AllReadyIn.nil
      go_simp
      refine ⟨trivial, ?_⟩
      refine (CallsIn.inRound _ (callsIn_wide.2 (lsnAt_any (ts.length : Int) _ (by omega)))).mono ?_
      rintro e w' ⟨rfl, rfl⟩
      refine hK _ _ ?_
      clear hK K
      refine wpAnyIn_ready (rs := [9]) (by kernel_rfl) (by simp) ?_
      refine AllReadyIn.cons rfl (fun K hK => ?_) AllReadyIn.nil
      go_simp
      refine hK _ _ ?_
      clear hK K
      refine wpAnyIn_ready (rs := [10]) (by kernel_rfl) (by simp) ?_
      refine AllReadyIn.cons rfl (fun K hK => ?_) AllReadyIn.nil
      go_simp
      refine hK _ _ ?_
      clear hK K
      refine wpAnyIn_done (by kernel_rfl) ?_ _
      gi_wp2_with fail
      have ND : Below V.heap.size V V.drew := (Below.refl _ _).drew
      obtain ⟨Y, hrun, hYL, hYw, hYs⟩ := end_break (P := Tryz.prog) (V := V.drew) (r := r) (.exit 0) hVL
      have hNs : V.drew.heap.size = V.heap.size := rfl
      refine ⟨_, Y, hrun, .inr ⟨rfl, ts, p, a', c', h, (kV.below ND kV.lt).within hYw (by omega), (oV.below ND).within hYw (.inr (by omega)), (fV.below ND fV.lt).within hYw (by omega), (uV.below ND uV.lt).within hYw (by omega), hYL, (hYw.block _ (Array.getElem?_eq_some_iff.1 dV).1 (by omega)).trans dV, (BV.trans (ND.mono BV.size)).trans (hYw.below (by omega) (by have := BV.size; omega)), hlo, HE.out⟩⟩
     ·skip
      go_simp
      refine hK _ _ ?_
      clear hK K
      refine wpAnyIn_ready (rs := [5, 7]) (by kernel_rfl) (by simp) ?_
      refine AllReadyIn.cons rfl (fun K hK => ?_) (AllReadyIn.cons rfl (fun K hK => ?_) AllReadyIn.nil)
      ·skip
       go_simp
       refine hK _ _ ?_
       clear hK K
       refine wpAnyIn_ready (rs := [7]) (by kernel_rfl) (by simp) ?_
       refine AllReadyIn.cons rfl (fun K hK => ?_) AllReadyIn.nil
       go_simp
       refine hK _ _ ?_
       clear hK K
       refine wpAnyIn_ready (rs := [8]) (by kernel_rfl) (by simp) ?_
       refine AllReadyIn.cons rfl (fun K hK => ?_) AllReadyIn.nil
       go_simp
       refine ⟨trivial, ?_⟩
       refine (CallsIn.inRound _ (callsIn_wide.2 (lsnAt_any (ts.length : Int) _ (by omega)))).mono ?_
       rintro e w' ⟨rfl, rfl⟩
       refine hK _ _ ?_
       clear hK K
       refine wpAnyIn_ready (rs := [9]) (by kernel_rfl) (by simp) ?_
       refine AllReadyIn.cons rfl (fun K hK => ?_) AllReadyIn.nil
       go_simp
       refine hK _ _ ?_
       clear hK K
       refine wpAnyIn_ready (rs := [10]) (by kernel_rfl) (by simp) ?_
       refine AllReadyIn.cons rfl (fun K hK => ?_) AllReadyIn.nil
       go_simp
       refine hK _ _ ?_
       clear hK K
       refine wpAnyIn_done (by kernel_rfl) ?_ _
       gi_wp2_with fail
       have ND : Below V.heap.size V V.drew := (Below.refl _ _).drew
       obtain ⟨Y, hrun, hYL, hYw, hYs⟩ := end_break (P := Tryz.prog) (V := V.drew) (r := r) (.exit 0) hVL
       have hNs : V.drew.heap.size = V.heap.size := rfl
       refine ⟨_, Y, hrun, .inr ⟨rfl, ts, p, a', c', h, (kV.below ND kV.lt).within hYw (by omega), (oV.below ND).within hYw (.inr (by omega)), (fV.below ND fV.lt).within hYw (by omega), (uV.below ND uV.lt).within hYw (by omega), hYL, (hYw.block _ (Array.getElem?_eq_some_iff.1 dV).1 (by omega)).trans dV, (BV.trans (ND.mono BV.size)).trans (hYw.below (by omega) (by have := BV.size; omega)), hlo, HE.out⟩⟩
      ·skip
       go_simp
       refine hK _ _ ?_
       clear hK K
       refine wpAnyIn_ready (rs := [5, 8]) (by kernel_rfl) (by simp) ?_
       refine AllReadyIn.cons rfl (fun K hK => ?_) (AllReadyIn.cons rfl (fun K hK => ?_) AllReadyIn.nil)
       ·skip
        go_simp
        refine hK _ _ ?_
        clear hK K
        refine wpAnyIn_ready (rs := [8]) (by kernel_rfl) (by simp) ?_
        refine AllReadyIn.cons rfl (fun K hK => ?_) AllReadyIn.nil
        go_simp
        refine ⟨trivial, ?_⟩
        refine (CallsIn.inRound _ (callsIn_wide.2 (lsnAt_any (ts.length : Int) _ (by omega)))).mono ?_
        rintro e w' ⟨rfl, rfl⟩
        refine hK _ _ ?_
        clear hK K
        refine wpAnyIn_ready (rs := [9]) (by kernel_rfl) (by simp) ?_
        refine AllReadyIn.cons rfl (fun K hK => ?_) AllReadyIn.nil
        go_simp
        refine hK _ _ ?_
        clear hK K
        refine wpAnyIn_ready (rs := [10]) (by kernel_rfl) (by simp) ?_
        refine AllReadyIn.cons rfl (fun K hK => ?_) AllReadyIn.nil
        go_simp
        refine hK _ _ ?_
        clear hK K
        refine wpAnyIn_done (by kernel_rfl) ?_ _
        gi_wp2_with fail
        have ND : Below V.heap.size V V.drew := (Below.refl _ _).drew
        obtain ⟨Y, hrun, hYL, hYw, hYs⟩ := end_break (P := Tryz.prog) (V := V.drew) (r := r) (.exit 0) hVL
        have hNs : V.drew.heap.size = V.heap.size := rfl
        refine ⟨_, Y, hrun, .inr ⟨rfl, ts, p, a', c', h, (kV.below ND kV.lt).within hYw (by omega), (oV.below ND).within hYw (.inr (by omega)), (fV.below ND fV.lt).within hYw (by omega), (uV.below ND uV.lt).within hYw (by omega), hYL, (hYw.block _ (Array.getElem?_eq_some_iff.1 dV).1 (by omega)).trans dV, (BV.trans (ND.mono BV.size)).trans (hYw.below (by omega) (by have := BV.size; omega)), hlo, HE.out⟩⟩
       ·skip
        go_simp
        refine ⟨trivial, ?_⟩
        refine (CallsIn.inRound _ (callsIn_wide.2 (lsnAt_any (ts.length : Int) _ (by omega)))).mono ?_
        rintro e w' ⟨rfl, rfl⟩
        refine hK _ _ ?_
        clear hK K
        refine wpAnyIn_ready (rs := [5]) (by kernel_rfl) (by simp) ?_
        refine AllReadyIn.cons rfl (fun K hK => ?_) AllReadyIn.nil
        go_simp
        refine hK _ _ ?_
        clear hK K
        refine wpAnyIn_ready (rs := [9]) (by kernel_rfl) (by simp) ?_
        refine AllReadyIn.cons rfl (fun K hK => ?_) AllReadyIn.nil
        go_simp
        refine hK _ _ ?_
        clear hK K
        refine wpAnyIn_ready (rs := [10]) (by kernel_rfl) (by simp) ?_
        refine AllReadyIn.cons rfl (fun K hK => ?_) AllReadyIn.nil
        go_simp
        refine hK _ _ ?_
        clear hK K
        refine wpAnyIn_done (by kernel_rfl) ?_ _
        gi_wp2_with fail
        have ND : Below V.heap.size V V.drew := (Below.refl _ _).drew
        obtain ⟨Y, hrun, hYL, hYw, hYs⟩ := end_break (P := Tryz.prog) (V := V.drew) (r := r) (.exit 0) hVL
        have hNs : V.drew.heap.size = V.heap.size := rfl
        refine ⟨_, Y, hrun, .inr ⟨rfl, ts, p, a', c', h, (kV.below ND kV.lt).within hYw (by omega), (oV.below ND).within hYw (.inr (by omega)), (fV.below ND fV.lt).within hYw (by omega), (uV.below ND uV.lt).within hYw (by omega), hYL, (hYw.block _ (Array.getElem?_eq_some_iff.1 dV).1 (by omega)).trans dV, (BV.trans (ND.mono BV.size)).trans (hYw.below (by omega) (by have := BV.size; omega)), hlo, HE.out⟩⟩
    ·skip
     go_simp
     refine hK _ _ ?_
     clear hK K
     refine wpAnyIn_ready (rs := [4, 7]) (by kernel_rfl) (by simp) ?_
     refine AllReadyIn.cons rfl (fun K hK => ?_) (AllReadyIn.cons rfl (fun K hK => ?_) AllReadyIn.nil)
     ·skip
      go_simp
      refine hK _ _ ?_
      clear hK K
      refine wpAnyIn_ready (rs := [5, 7]) (by kernel_rfl) (by simp) ?_
      refine AllReadyIn.cons rfl (fun K hK => ?_) (AllReadyIn.cons rfl (fun K hK => ?_) AllReadyIn.nil)
      ·skip
       go_simp
       refine hK _ _ ?_
       clear hK K
       refine wpAnyIn_ready (rs := [7]) (by kernel_rfl) (by simp) ?_
       refine AllReadyIn.cons rfl (fun K hK => ?_) AllReadyIn.nil
       go_simp
       refine hK _ _ ?_
       clear hK K
       refine wpAnyIn_ready (rs := [8]) (by kernel_rfl) (by simp) ?_
       refine AllReadyIn.cons rfl (fun K hK => ?_) AllReadyIn.nil
       go_simp
       refine ⟨trivial, ?_⟩
       refine (CallsIn.inRound _ (callsIn_wide.2 (lsnAt_any (ts.length : Int) _ (by omega)))).mono ?_
       rintro e w' ⟨rfl, rfl⟩
       refine hK _ _ ?_
       clear hK K
       refine wpAnyIn_ready (rs := [9]) (by kernel_rfl) (by simp) ?_
       refine AllReadyIn.cons rfl (fun K hK => ?_) AllReadyIn.nil
       go_simp
       refine hK _ _ ?_
       clear hK K
       refine wpAnyIn_ready (rs := [10]) (by kernel_rfl) (by simp) ?_
       refine AllReadyIn.cons rfl (fun K hK => ?_) AllReadyIn.nil
       go_simp
       refine hK _ _ ?_
       clear hK K
       refine wpAnyIn_done (by kernel_rfl) ?_ _
       gi_wp2_with fail
       have ND : Below V.heap.size V V.drew := (Below.refl _ _).drew
       obtain ⟨Y, hrun, hYL, hYw, hYs⟩ := end_break (P := Tryz.prog) (V := V.drew) (r := r) (.exit 0) hVL
       have hNs : V.drew.heap.size = V.heap.size := rfl
       refine ⟨_, Y, hrun, .inr ⟨rfl, ts, p, a', c', h, (kV.below ND kV.lt).within hYw (by omega), (oV.below ND).within hYw (.inr (by omega)), (fV.below ND fV.lt).within hYw (by omega), (uV.below ND uV.lt).within hYw (by omega), hYL, (hYw.block _ (Array.getElem?_eq_some_iff.1 dV).1 (by omega)).trans dV, (BV.trans (ND.mono BV.size)).trans (hYw.below (by omega) (by have := BV.size; omega)), hlo, HE.out⟩⟩
      ·skip
       go_simp
       refine hK _ _ ?_
       clear hK K
       refine wpAnyIn_ready (rs := [5, 8]) (by kernel_rfl) (by simp) ?_
       refine AllReadyIn.cons rfl (fun K hK => ?_) (AllReadyIn.cons rfl (fun K hK => ?_) AllReadyIn.nil)
       ·skip
        go_simp
        refine hK _ _ ?_
        clear hK K
        refine wpAnyIn_ready (rs := [8]) (by kernel_rfl) (by simp) ?_
        refine AllReadyIn.cons rfl (fun K hK => ?_) AllReadyIn.nil
        go_simp
        refine ⟨trivial, ?_⟩
        refine (CallsIn.inRound _ (callsIn_wide.2 (lsnAt_any (ts.length : Int) _ (by omega)))).mono ?_
        rintro e w' ⟨rfl, rfl⟩
        refine hK _ _ ?_
        clear hK K
        refine wpAnyIn_ready (rs := [9]) (by kernel_rfl) (by simp) ?_
        refine AllReadyIn.cons rfl (fun K hK => ?_) AllReadyIn.nil
        go_simp
        refine hK _ _ ?_
        clear hK K
        refine wpAnyIn_ready (rs := [10]) (by kernel_rfl) (by simp) ?_
        refine AllReadyIn.cons rfl (fun K hK => ?_) AllReadyIn.nil
        go_simp
        refine hK _ _ ?_
        clear hK K
        refine wpAnyIn_done (by kernel_rfl) ?_ _
        gi_wp2_with fail
        have ND : Below V.heap.size V V.drew := (Below.refl _ _).drew
        obtain ⟨Y, hrun, hYL, hYw, hYs⟩ := end_break (P := Tryz.prog) (V := V.drew) (r := r) (.exit 0) hVL
        have hNs : V.drew.heap.size = V.heap.size := rfl
        refine ⟨_, Y, hrun, .inr ⟨rfl, ts, p, a', c', h, (kV.below ND kV.lt).within hYw (by omega), (oV.below ND).within hYw (.inr (by omega)), (fV.below ND fV.lt).within hYw (by omega), (uV.below ND uV.lt).within hYw (by omega), hYL, (hYw.block _ (Array.getElem?_eq_some_iff.1 dV).1 (by omega)).trans dV, (BV.trans (ND.mono BV.size)).trans (hYw.below (by omega) (by have := BV.size; omega)), hlo, HE.out⟩⟩
       ·skip
        go_simp
        refine ⟨trivial, ?_⟩
        refine (CallsIn.inRound _ (callsIn_wide.2 (lsnAt_any (ts.length : Int) _ (by omega)))).mono ?_
        rintro e w' ⟨rfl, rfl⟩
        refine hK _ _ ?_
        clear hK K
        refine wpAnyIn_ready (rs := [5]) (by kernel_rfl) (by simp) ?_
        refine AllReadyIn.cons rfl (fun K hK => ?_) AllReadyIn.nil
        go_simp
        refine hK _ _ ?_
        clear hK K
        refine wpAnyIn_ready (rs := [9]) (by kernel_rfl) (by simp) ?_
        refine AllReadyIn.cons rfl (fun K hK => ?_) AllReadyIn.nil
        go_simp
        refine hK _ _ ?_
        clear hK K
        refine wpAnyIn_ready (rs := [10]) (by kernel_rfl) (by simp) ?_
        refine AllReadyIn.cons rfl (fun K hK => ?_) AllReadyIn.nil
        go_simp
        refine hK _ _ ?_
        clear hK K
        refine wpAnyIn_done (by kernel_rfl) ?_ _
        gi_wp2_with fail
        have ND : Below V.heap.size V V.drew := (Below.refl _ _).drew
        obtain ⟨Y, hrun, hYL, hYw, hYs⟩ := end_break (P := Tryz.prog) (V := V.drew) (r := r) (.exit 0) hVL
        have hNs : V.drew.heap.size = V.heap.size := rfl
        refine ⟨_, Y, hrun, .inr ⟨rfl, ts, p, a', c', h, (kV.below ND kV.lt).within hYw (by omega), (oV.below ND).within hYw (.inr (by omega)), (fV.below ND fV.lt).within hYw (by omega), (uV.below ND uV.lt).within hYw (by omega), hYL, (hYw.block _ (Array.getElem?_eq_some_iff.1 dV).1 (by omega)).trans dV, (BV.trans (ND.mono BV.size)).trans (hYw.below (by omega) (by have := BV.size; omega)), hlo, HE.out⟩⟩
     ·skip
      go_simp
      refine hK _ _ ?_
      clear hK K
      refine wpAnyIn_ready (rs := [4, 8]) (by kernel_rfl) (by simp) ?_
      refine AllReadyIn.cons rfl (fun K hK => ?_) (AllReadyIn.cons rfl (fun K hK => ?_) AllReadyIn.nil)
      ·skip
       go_simp
       refine hK _ _ ?_
       clear hK K
       refine wpAnyIn_ready (rs := [5, 8]) (by kernel_rfl) (by simp) ?_
       refine AllReadyIn.cons rfl (fun K hK => ?_) (AllReadyIn.cons rfl (fun K hK => ?_) AllReadyIn.nil)
       ·skip
        go_simp
        refine hK _ _ ?_
        clear hK K
        refine wpAnyIn_ready (rs := [8]) (by kernel_rfl) (by simp) ?_
        refine AllReadyIn.cons rfl (fun K hK => ?_) AllReadyIn.nil
        go_simp
        refine ⟨trivial, ?_⟩
        refine (CallsIn.inRound _ (callsIn_wide.2 (lsnAt_any (ts.length : Int) _ (by omega)))).mono ?_
        rintro e w' ⟨rfl, rfl⟩
        refine hK _ _ ?_
        clear hK K
        refine wpAnyIn_ready (rs := [9]) (by kernel_rfl) (by simp) ?_
        refine AllReadyIn.cons rfl (fun K hK => ?_) AllReadyIn.nil
        go_simp
        refine hK _ _ ?_
        clear hK K
        refine wpAnyIn_ready (rs := [10]) (by kernel_rfl) (by simp) ?_
        refine AllReadyIn.cons rfl (fun K hK => ?_) AllReadyIn.nil
        go_simp
        refine hK _ _ ?_
        clear hK K
        refine wpAnyIn_done (by kernel_rfl) ?_ _
        gi_wp2_with fail
        have ND : Below V.heap.size V V.drew := (Below.refl _ _).drew
        obtain ⟨Y, hrun, hYL, hYw, hYs⟩ := end_break (P := Tryz.prog) (V := V.drew) (r := r) (.exit 0) hVL
        have hNs : V.drew.heap.size = V.heap.size := rfl
        refine ⟨_, Y, hrun, .inr ⟨rfl, ts, p, a', c', h, (kV.below ND kV.lt).within hYw (by omega), (oV.below ND).within hYw (.inr (by omega)), (fV.below ND fV.lt).within hYw (by omega), (uV.below ND uV.lt).within hYw (by omega), hYL, (hYw.block _ (Array.getElem?_eq_some_iff.1 dV).1 (by omega)).trans dV, (BV.trans (ND.mono BV.size)).trans (hYw.below (by omega) (by have := BV.size; omega)), hlo, HE.out⟩⟩
       ·skip
        go_simp
        refine ⟨trivial, ?_⟩
        refine (CallsIn.inRound _ (callsIn_wide.2 (lsnAt_any (ts.length : Int) _ (by omega)))).mono ?_
        rintro e w' ⟨rfl, rfl⟩
        refine hK _ _ ?_
        clear hK K
        refine wpAnyIn_ready (rs := [5]) (by kernel_rfl) (by simp) ?_
        refine AllReadyIn.cons rfl (fun K hK => ?_) AllReadyIn.nil
        go_simp
        refine hK _ _ ?_
        clear hK K
        refine wpAnyIn_ready (rs := [9]) (by kernel_rfl) (by simp) ?_
        refine AllReadyIn.cons rfl (fun K hK => ?_) AllReadyIn.nil
        go_simp
        refine hK _ _ ?_
        clear hK K
        refine wpAnyIn_ready (rs := [10]) (by kernel_rfl) (by simp) ?_
        refine AllReadyIn.cons rfl (fun K hK => ?_) AllReadyIn.nil
        go_simp
        refine hK _ _ ?_
        clear hK K
        refine wpAnyIn_done (by kernel_rfl) ?_ _
        gi_wp2_with fail
        have ND : Below V.heap.size V V.drew := (Below.refl _ _).drew
        obtain ⟨Y, hrun, hYL, hYw, hYs⟩ := end_break (P := Tryz.prog) (V := V.drew) (r := r) (.exit 0) hVL
        have hNs : V.drew.heap.size = V.heap.size := rfl
        refine ⟨_, Y, hrun, .inr ⟨rfl, ts, p, a', c', h, (kV.below ND kV.lt).within hYw (by omega), (oV.below ND).within hYw (.inr (by omega)), (fV.below ND fV.lt).within hYw (by omega), (uV.below ND uV.lt).within hYw (by omega), hYL, (hYw.block _ (Array.getElem?_eq_some_iff.1 dV).1 (by omega)).trans dV, (BV.trans (ND.mono BV.size)).trans (hYw.below (by omega) (by have := BV.size; omega)), hlo, HE.out⟩⟩
      ·skip
       go_simp
       refine ⟨trivial, ?_⟩
       refine (CallsIn.inRound _ (callsIn_wide.2 (lsnAt_any (ts.length : Int) _ (by omega)))).mono ?_
       rintro e w' ⟨rfl, rfl⟩
       refine hK _ _ ?_
       clear hK K
       refine wpAnyIn_ready (rs := [4]) (by kernel_rfl) (by simp) ?_
       refine AllReadyIn.cons rfl (fun K hK => ?_) AllReadyIn.nil
       go_simp
       refine hK _ _ ?_
       clear hK K
       refine wpAnyIn_ready (rs := [5]) (by kernel_rfl) (by simp) ?_
       refine AllReadyIn.cons rfl (fun K hK => ?_) AllReadyIn.nil
       go_simp
       refine hK _ _ ?_
       clear hK K
       refine wpAnyIn_ready (rs := [9]) (by kernel_rfl) (by simp) ?_
       refine AllReadyIn.cons rfl (fun K hK => ?_) AllReadyIn.nil
       go_simp
       refine hK _ _ ?_
       clear hK K
       refine wpAnyIn_ready (rs := [10]) (by kernel_rfl) (by simp) ?_
       refine AllReadyIn.cons rfl (fun K hK => ?_) AllReadyIn.nil
       go_simp
       refine hK _ _ ?_
       clear hK K
       refine wpAnyIn_done (by kernel_rfl) ?_ _
       gi_wp2_with fail
       have ND : Below V.heap.size V V.drew := (Below.refl _ _).drew
       obtain ⟨Y, hrun, hYL, hYw, hYs⟩ := end_break (P := Tryz.prog) (V := V.drew) (r := r) (.exit 0) hVL
       have hNs : V.drew.heap.size = V.heap.size := rfl
       refine ⟨_, Y, hrun, .inr ⟨rfl, ts, p, a', c', h, (kV.below ND kV.lt).within hYw (by omega), (oV.below ND).within hYw (.inr (by omega)), (fV.below ND fV.lt).within hYw (by omega), (uV.below ND uV.lt).within hYw (by omega), hYL, (hYw.block _ (Array.getElem?_eq_some_iff.1 dV).1 (by omega)).trans dV, (BV.trans (ND.mono BV.size)).trans (hYw.below (by omega) (by have := BV.size; omega)), hlo, HE.out⟩⟩
   | true =>
    have h3b : (t.lsn != (ts.length : Int) + 1) = false := by simp only [bne, h3, Bool.not_true]
    have HGO := HYS.out (by rw [HNB.out]; exact h3) hlt
    have HGO' : Hid (_ ∧ _) := HGO
    clear h3 HNO HYS HNB h4 HGO
    gi_wp2_with fail
    refine wpIn_region_any (by kernel_rfl) ?_
    refine wpAnyIn_ready (rs := [0]) (by kernel_rfl) (by simp) ?_
    refine AllReadyIn.cons rfl (fun K hK => ?_) AllReadyIn.nil
    go_simp
    refine hK _ _ ?_
    clear hK K
    refine wpAnyIn_ready (rs := [1]) (by kernel_rfl) (by simp) ?_
    refine AllReadyIn.cons rfl (fun K hK => ?_) AllReadyIn.nil
    go_simp
    refine hK _ _ ?_
    clear hK K
    refine wpAnyIn_ready (rs := [2]) (by kernel_rfl) (by simp) ?_
    refine AllReadyIn.cons rfl (fun K hK => ?_) AllReadyIn.nil
    go_simp
    refine hK _ _ ?_
    clear hK K
    refine wpAnyIn_ready (rs := [3]) (by kernel_rfl) (by simp) ?_
    refine AllReadyIn.cons rfl (fun K hK => ?_) AllReadyIn.nil
    go_simp
    refine hK _ _ ?_
    clear hK K
    refine wpAnyIn_ready (rs := [4, 6]) (by kernel_rfl) (by simp) ?_
    refine AllReadyIn.cons rfl (fun K hK => ?_) (AllReadyIn.cons rfl (fun K hK => ?_) AllReadyIn.nil)
    ·skip
     go_simp
     refine hK _ _ ?_
     clear hK K
     refine wpAnyIn_ready (rs := [5, 6]) (by kernel_rfl) (by simp) ?_
     refine AllReadyIn.cons rfl (fun K hK => ?_) (AllReadyIn.cons rfl (fun K hK => ?_) AllReadyIn.nil)
     ·skip
      go_simp
      refine hK _ _ ?_
      clear hK K
      refine wpAnyIn_ready (rs := [6]) (by kernel_rfl) (by simp) ?_
      refine AllReadyIn.cons rfl (fun K hK => ?_) AllReadyIn.nil
      go_simp
      refine hK _ _ ?_
      clear hK K
      refine wpAnyIn_ready (rs := [7]) (by kernel_rfl) (by simp) ?_
      refine AllReadyIn.cons rfl (fun K hK => ?_) AllReadyIn.nil
      go_simp
      refine hK _ _ ?_
      clear hK K
      refine wpAnyIn_ready (rs := [8]) (by kernel_rfl) (by simp) ?_
      refine AllReadyIn.cons rfl (fun K hK => ?_) AllReadyIn.nil
      go_simp
      refine ⟨trivial, ?_⟩
      refine (CallsIn.inRound _ (callsIn_wide.2 (lsnAt_any (ts.length : Int) _ (by omega)))).mono ?_
      rintro e w' ⟨rfl, rfl⟩
      refine hK _ _ ?_
      clear hK K
      refine wpAnyIn_ready (rs := [9]) (by kernel_rfl) (by simp) ?_
      refine AllReadyIn.cons rfl (fun K hK => ?_) AllReadyIn.nil
      go_simp
      refine hK _ _ ?_
      clear hK K
      refine wpAnyIn_ready (rs := [10]) (by kernel_rfl) (by simp) ?_
      refine AllReadyIn.cons rfl (fun K hK => ?_) AllReadyIn.nil
      go_simp
      refine hK _ _ ?_
      clear hK K
      refine wpAnyIn_done (by kernel_rfl) ?_ _
      gi_upto_region 7 with fail
      obtain ⟨U, hU⟩ : ∃ U, Hid (V.drew = U) := ⟨_, rfl⟩
      have ND : Below V.heap.size V U := by rw [← hU.out]; exact (Below.refl _ _).drew
      have hUa : V.heap.size ≤ U.heap.size := ND.size
      have hUb : U.heap.size ≤ V.heap.size := by rw [← hU.out]; exact Nat.le_refl _
      rw [hU.out]
      clear hU
      have LU := (ND.block _ (Array.getElem?_eq_some_iff.1 hVL).1).trans hVL
      have kU := kV.below ND kV.lt
      have zU := zV.below ND zV.lt
      have fU := fV.below ND fV.lt
      have yU := yV.below ND yV.lt
      have uU := uV.below ND uV.lt
      have oU := oV.below ND
      have tU := tV.below ND
      have dU := (ND.block _ (Array.getElem?_eq_some_iff.1 dV).1).trans dV
      have BU := BV.trans (ND.mono BV.size)
      clear x0 z0 hVL kV zV fV yV uV oV tV dV BV ND
      have e0 := kU.cell 0 _ rfl
      have HRX : Hid (U.rangeAt X.heap.size 0 t.cells) := Box.range [] t.cells [] (by simpa using zU)
      obtain ⟨U1, hU1, y1, hb1, hs1⟩ := boxes1 U t.cells 42
      have hs1' := hb1.size
      have hs1'' := Nat.le_of_eq hs1
      clear hs1
      have R1 : Hid (U1.rangeAt U.heap.size 0 t.cells) := Box.range [] t.cells [] (by simpa using y1)
      have L1 := (hb1.block _ (Array.getElem?_eq_some_iff.1 LU).1).trans LU
      have k1 := kU.below hb1 kU.lt
      have f1 := fU.below hb1 fU.lt
      have v1 := yU.below hb1 yU.lt
      have u1 := uU.below hb1 uU.lt
      have o1 := oU.below hb1
      have t1 := tU.below hb1
      have d1 := (hb1.block _ (Array.getElem?_eq_some_iff.1 dU).1).trans dU
      have B1 := BU.trans (hb1.mono BU.size)
      have hll : ts.length + 1 ≤ 68719476736 := by omega
      have hBs := B1.size
      gi_wp2_with (first | (guard_target = wpListIn _ _ _ _ _ (Oper.mk (some 24) _ _ _ _ _ :: _) _ _; refine loadIn_mid rfl (fun _ => trivial) rfl 42 (.tmp 6) rfl X.heap.size 0 rfl t.cells _ HRX.out Tryz.underlying42 rfl HI.out ?_) | (guard_target = wpListIn _ _ _ _ _ (Oper.mk (some 25) _ _ _ _ _ :: _) _ _; refine build_recIn (fun _ => trivial) (.tmp 24) rfl t rfl ?_; rw [hU1.out]) | (guard_target = wpListIn _ _ _ _ _ (Oper.mk (some 26) _ _ _ _ _ :: _) _ _; refine append_recIn rfl (fun _ => trivial) rfl _ _ rfl W4.heap.size h a' c' ts rfl o1 U.heap.size 0 1 t rfl R1.out l u t1 (by omega) (by omega) hll (by omega) ?_) | fail)
      intro a2 c2 U2 o2 g2
      have hw2 : Within W4.heap.size h U1 U2 := Within.of_grown g2 (fun j hj => ⟨(OwnRs.row o1).lt j hj |>.1, OwnRs.blk o1 j hj⟩)
      have hs2 := hw2.size
      have L2 := (hw2.block _ (Array.getElem?_eq_some_iff.1 L1).1 (by omega)).trans L1
      have k2 := k1.within hw2 (by omega)
      have f2 := f1.within hw2 (by omega)
      have v2 := v1.within hw2 (by omega)
      have u2 := u1.within hw2 (by omega)
      have d2 := (hw2.block _ (Array.getElem?_eq_some_iff.1 d1).1 (by omega)).trans d1
      have B2 : Below w.heap.size w U2 := B1.trans (hw2.below (by omega) (by omega))
      clear hw2 g2 L1 LU k1 kU f1 fU v1 yU u1 uU o1 oU t1 tU d1 dU B1 BU R1 HRX e0 hb1 hU1 y1 zU
      have m0 := k2.cell 0 _ rfl
      have mf0 := k2.frozen 0
      obtain ⟨U3, hU3, k3, hw3, hs3⟩ := box_set k2 0 (.slice a2 (ts.length + 1) c2)
      simp only [List.set] at k3
      have hs3a := Nat.le_of_eq hs3
      have hs3b := Nat.le_of_eq hs3.symm
      clear hs3
      have L3 := (hw3.block _ (Array.getElem?_eq_some_iff.1 L2).1 (by omega)).trans L2
      have f3 := f2.within hw3 (by omega)
      have v3 := v2.within hw3 (by omega)
      have u3 := u2.within hw3 (by omega)
      have d3 := (hw3.block _ (Array.getElem?_eq_some_iff.1 d2).1 (by omega)).trans d2
      have B3 : Below w.heap.size w U3 := B2.trans (hw3.below (by omega) (by omega))
      have o3 := o2.within hw3 (.inr (by omega))
      clear hw3 L2 k2 f2 v2 u2 d2 B2 o2
      gi_upto_region 8 with fail
      rw [hU3.out]
      clear hU3 m0 mf0
      have m0 := f3.cell 0 _ rfl
      have mf0 := f3.frozen 0
      obtain ⟨U4, hU4, f4, hw4, hs4⟩ := box_set f3 0 (.int .i64 q)
      simp only [List.set] at f4
      have hs4a := Nat.le_of_eq hs4
      have hs4b := Nat.le_of_eq hs4.symm
      clear hs4
      have L4 := (hw4.block _ (Array.getElem?_eq_some_iff.1 L3).1 (by omega)).trans L3
      have k4 := k3.within hw4 (by omega)
      have v4 := v3.within hw4 (by omega)
      have u4 := u3.within hw4 (by omega)
      have d4 := (hw4.block _ (Array.getElem?_eq_some_iff.1 d3).1 (by omega)).trans d3
      have B4 : Below w.heap.size w U4 := B3.trans (hw4.below (by omega) (by omega))
      have o4 := o3.within hw4 (.inr (by omega))
      clear hw4 L3 k3 f3 v3 u3 d3 B3 o3
      gi_wp2_with fail
      rw [hU4.out]
      clear hU4 m0 mf0
      obtain ⟨Y, hrun, hYL, hYw, hYs⟩ := end_go (P := Tryz.prog) (V := U4) (r := r) HST.out HPD.out L4
      have HLN : Hid ((ts ++ [t]).length = ts.length + 1) := by simp [Hid]
      refine ⟨_, Y, hrun, .inl ⟨rfl, HGO'.out.1, hlt, ⟨a2, c2, by rw [HLN.out]; exact k4.within hYw (by omega), (o4.within hYw (.inr (by omega))).widen (Nat.le_refl _) (by omega) (Nat.le_refl _)⟩, f4.within hYw (by omega), v4.within hYw (by omega), u4.within hYw (by omega), hYL, (hYw.block _ (Array.getElem?_eq_some_iff.1 d4).1 (by omega)).trans d4, B4.trans (hYw.below (by omega) (by omega)), by omega, Nat.le_refl _, by rw [HLN.out]; omega, by rw [HLN.out, List.map_append]; exact HGO'.out.2⟩⟩
     ·skip
      go_simp
      refine hK _ _ ?_
      clear hK K
      refine wpAnyIn_ready (rs := [5, 7]) (by kernel_rfl) (by simp) ?_
      refine AllReadyIn.cons rfl (fun K hK => ?_) (AllReadyIn.cons rfl (fun K hK => ?_) AllReadyIn.nil)
      ·skip
       go_simp
       refine hK _ _ ?_
       clear hK K
       refine wpAnyIn_ready (rs := [7]) (by kernel_rfl) (by simp) ?_
       refine AllReadyIn.cons rfl (fun K hK => ?_) AllReadyIn.nil
       go_simp
       refine hK _ _ ?_
       clear hK K
       refine wpAnyIn_ready (rs := [8]) (by kernel_rfl) (by simp) ?_
       refine AllReadyIn.cons rfl (fun K hK => ?_) AllReadyIn.nil
       go_simp
       refine ⟨trivial, ?_⟩
       refine (CallsIn.inRound _ (callsIn_wide.2 (lsnAt_any (ts.length : Int) _ (by omega)))).mono ?_
       rintro e w' ⟨rfl, rfl⟩
       refine hK _ _ ?_
       clear hK K
       refine wpAnyIn_ready (rs := [9]) (by kernel_rfl) (by simp) ?_
       refine AllReadyIn.cons rfl (fun K hK => ?_) AllReadyIn.nil
       go_simp
       refine hK _ _ ?_
       clear hK K
       refine wpAnyIn_ready (rs := [10]) (by kernel_rfl) (by simp) ?_
       refine AllReadyIn.cons rfl (fun K hK => ?_) AllReadyIn.nil
       go_simp
       refine hK _ _ ?_
       clear hK K
       refine wpAnyIn_done (by kernel_rfl) ?_ _
       gi_upto_region 7 with fail
       obtain ⟨U, hU⟩ : ∃ U, Hid (V.drew = U) := ⟨_, rfl⟩
       have ND : Below V.heap.size V U := by rw [← hU.out]; exact (Below.refl _ _).drew
       have hUa : V.heap.size ≤ U.heap.size := ND.size
       have hUb : U.heap.size ≤ V.heap.size := by rw [← hU.out]; exact Nat.le_refl _
       rw [hU.out]
       clear hU
       have LU := (ND.block _ (Array.getElem?_eq_some_iff.1 hVL).1).trans hVL
       have kU := kV.below ND kV.lt
       have zU := zV.below ND zV.lt
       have fU := fV.below ND fV.lt
       have yU := yV.below ND yV.lt
       have uU := uV.below ND uV.lt
       have oU := oV.below ND
       have tU := tV.below ND
       have dU := (ND.block _ (Array.getElem?_eq_some_iff.1 dV).1).trans dV
       have BU := BV.trans (ND.mono BV.size)
       clear x0 z0 hVL kV zV fV yV uV oV tV dV BV ND
       have e0 := kU.cell 0 _ rfl
       have HRX : Hid (U.rangeAt X.heap.size 0 t.cells) := Box.range [] t.cells [] (by simpa using zU)
       obtain ⟨U1, hU1, y1, hb1, hs1⟩ := boxes1 U t.cells 42
       have hs1' := hb1.size
       have hs1'' := Nat.le_of_eq hs1
       clear hs1
       have R1 : Hid (U1.rangeAt U.heap.size 0 t.cells) := Box.range [] t.cells [] (by simpa using y1)
       have L1 := (hb1.block _ (Array.getElem?_eq_some_iff.1 LU).1).trans LU
       have k1 := kU.below hb1 kU.lt
       have f1 := fU.below hb1 fU.lt
       have v1 := yU.below hb1 yU.lt
       have u1 := uU.below hb1 uU.lt
       have o1 := oU.below hb1
       have t1 := tU.below hb1
       have d1 := (hb1.block _ (Array.getElem?_eq_some_iff.1 dU).1).trans dU
       have B1 := BU.trans (hb1.mono BU.size)
       have hll : ts.length + 1 ≤ 68719476736 := by omega
       have hBs := B1.size
       gi_wp2_with (first | (guard_target = wpListIn _ _ _ _ _ (Oper.mk (some 24) _ _ _ _ _ :: _) _ _; refine loadIn_mid rfl (fun _ => trivial) rfl 42 (.tmp 6) rfl X.heap.size 0 rfl t.cells _ HRX.out Tryz.underlying42 rfl HI.out ?_) | (guard_target = wpListIn _ _ _ _ _ (Oper.mk (some 25) _ _ _ _ _ :: _) _ _; refine build_recIn (fun _ => trivial) (.tmp 24) rfl t rfl ?_; rw [hU1.out]) | (guard_target = wpListIn _ _ _ _ _ (Oper.mk (some 26) _ _ _ _ _ :: _) _ _; refine append_recIn rfl (fun _ => trivial) rfl _ _ rfl W4.heap.size h a' c' ts rfl o1 U.heap.size 0 1 t rfl R1.out l u t1 (by omega) (by omega) hll (by omega) ?_) | fail)
       intro a2 c2 U2 o2 g2
       have hw2 : Within W4.heap.size h U1 U2 := Within.of_grown g2 (fun j hj => ⟨(OwnRs.row o1).lt j hj |>.1, OwnRs.blk o1 j hj⟩)
       have hs2 := hw2.size
       have L2 := (hw2.block _ (Array.getElem?_eq_some_iff.1 L1).1 (by omega)).trans L1
       have k2 := k1.within hw2 (by omega)
       have f2 := f1.within hw2 (by omega)
       have v2 := v1.within hw2 (by omega)
       have u2 := u1.within hw2 (by omega)
       have d2 := (hw2.block _ (Array.getElem?_eq_some_iff.1 d1).1 (by omega)).trans d1
       have B2 : Below w.heap.size w U2 := B1.trans (hw2.below (by omega) (by omega))
       clear hw2 g2 L1 LU k1 kU f1 fU v1 yU u1 uU o1 oU t1 tU d1 dU B1 BU R1 HRX e0 hb1 hU1 y1 zU
       have m0 := k2.cell 0 _ rfl
       have mf0 := k2.frozen 0
       obtain ⟨U3, hU3, k3, hw3, hs3⟩ := box_set k2 0 (.slice a2 (ts.length + 1) c2)
       simp only [List.set] at k3
       have hs3a := Nat.le_of_eq hs3
       have hs3b := Nat.le_of_eq hs3.symm
       clear hs3
       have L3 := (hw3.block _ (Array.getElem?_eq_some_iff.1 L2).1 (by omega)).trans L2
       have f3 := f2.within hw3 (by omega)
       have v3 := v2.within hw3 (by omega)
       have u3 := u2.within hw3 (by omega)
       have d3 := (hw3.block _ (Array.getElem?_eq_some_iff.1 d2).1 (by omega)).trans d2
       have B3 : Below w.heap.size w U3 := B2.trans (hw3.below (by omega) (by omega))
       have o3 := o2.within hw3 (.inr (by omega))
       clear hw3 L2 k2 f2 v2 u2 d2 B2 o2
       gi_upto_region 8 with fail
       rw [hU3.out]
       clear hU3 m0 mf0
       have m0 := f3.cell 0 _ rfl
       have mf0 := f3.frozen 0
       obtain ⟨U4, hU4, f4, hw4, hs4⟩ := box_set f3 0 (.int .i64 q)
       simp only [List.set] at f4
       have hs4a := Nat.le_of_eq hs4
       have hs4b := Nat.le_of_eq hs4.symm
       clear hs4
       have L4 := (hw4.block _ (Array.getElem?_eq_some_iff.1 L3).1 (by omega)).trans L3
       have k4 := k3.within hw4 (by omega)
       have v4 := v3.within hw4 (by omega)
       have u4 := u3.within hw4 (by omega)
       have d4 := (hw4.block _ (Array.getElem?_eq_some_iff.1 d3).1 (by omega)).trans d3
       have B4 : Below w.heap.size w U4 := B3.trans (hw4.below (by omega) (by omega))
       have o4 := o3.within hw4 (.inr (by omega))
       clear hw4 L3 k3 f3 v3 u3 d3 B3 o3
       gi_wp2_with fail
       rw [hU4.out]
       clear hU4 m0 mf0
       obtain ⟨Y, hrun, hYL, hYw, hYs⟩ := end_go (P := Tryz.prog) (V := U4) (r := r) HST.out HPD.out L4
       have HLN : Hid ((ts ++ [t]).length = ts.length + 1) := by simp [Hid]
       refine ⟨_, Y, hrun, .inl ⟨rfl, HGO'.out.1, hlt, ⟨a2, c2, by rw [HLN.out]; exact k4.within hYw (by omega), (o4.within hYw (.inr (by omega))).widen (Nat.le_refl _) (by omega) (Nat.le_refl _)⟩, f4.within hYw (by omega), v4.within hYw (by omega), u4.within hYw (by omega), hYL, (hYw.block _ (Array.getElem?_eq_some_iff.1 d4).1 (by omega)).trans d4, B4.trans (hYw.below (by omega) (by omega)), by omega, Nat.le_refl _, by rw [HLN.out]; omega, by rw [HLN.out, List.map_append]; exact HGO'.out.2⟩⟩
      ·skip
       go_simp
       refine hK _ _ ?_
       clear hK K
       refine wpAnyIn_ready (rs := [5, 8]) (by kernel_rfl) (by simp) ?_
       refine AllReadyIn.cons rfl (fun K hK => ?_) (AllReadyIn.cons rfl (fun K hK => ?_) AllReadyIn.nil)
       ·skip
        go_simp
        refine hK _ _ ?_
        clear hK K
        refine wpAnyIn_ready (rs := [8]) (by kernel_rfl) (by simp) ?_
        refine AllReadyIn.cons rfl (fun K hK => ?_) AllReadyIn.nil
        go_simp
        refine ⟨trivial, ?_⟩
        refine (CallsIn.inRound _ (callsIn_wide.2 (lsnAt_any (ts.length : Int) _ (by omega)))).mono ?_
        rintro e w' ⟨rfl, rfl⟩
        refine hK _ _ ?_
        clear hK K
        refine wpAnyIn_ready (rs := [9]) (by kernel_rfl) (by simp) ?_
        refine AllReadyIn.cons rfl (fun K hK => ?_) AllReadyIn.nil
        go_simp
        refine hK _ _ ?_
        clear hK K
        refine wpAnyIn_ready (rs := [10]) (by kernel_rfl) (by simp) ?_
        refine AllReadyIn.cons rfl (fun K hK => ?_) AllReadyIn.nil
        go_simp
        refine hK _ _ ?_
        clear hK K
        refine wpAnyIn_done (by kernel_rfl) ?_ _
        gi_upto_region 7 with fail
        obtain ⟨U, hU⟩ : ∃ U, Hid (V.drew = U) := ⟨_, rfl⟩
        have ND : Below V.heap.size V U := by rw [← hU.out]; exact (Below.refl _ _).drew
        have hUa : V.heap.size ≤ U.heap.size := ND.size
        have hUb : U.heap.size ≤ V.heap.size := by rw [← hU.out]; exact Nat.le_refl _
        rw [hU.out]
        clear hU
        have LU := (ND.block _ (Array.getElem?_eq_some_iff.1 hVL).1).trans hVL
        have kU := kV.below ND kV.lt
        have zU := zV.below ND zV.lt
        have fU := fV.below ND fV.lt
        have yU := yV.below ND yV.lt
        have uU := uV.below ND uV.lt
        have oU := oV.below ND
        have tU := tV.below ND
        have dU := (ND.block _ (Array.getElem?_eq_some_iff.1 dV).1).trans dV
        have BU := BV.trans (ND.mono BV.size)
        clear x0 z0 hVL kV zV fV yV uV oV tV dV BV ND
        have e0 := kU.cell 0 _ rfl
        have HRX : Hid (U.rangeAt X.heap.size 0 t.cells) := Box.range [] t.cells [] (by simpa using zU)
        obtain ⟨U1, hU1, y1, hb1, hs1⟩ := boxes1 U t.cells 42
        have hs1' := hb1.size
        have hs1'' := Nat.le_of_eq hs1
        clear hs1
        have R1 : Hid (U1.rangeAt U.heap.size 0 t.cells) := Box.range [] t.cells [] (by simpa using y1)
        have L1 := (hb1.block _ (Array.getElem?_eq_some_iff.1 LU).1).trans LU
        have k1 := kU.below hb1 kU.lt
        have f1 := fU.below hb1 fU.lt
        have v1 := yU.below hb1 yU.lt
        have u1 := uU.below hb1 uU.lt
        have o1 := oU.below hb1
        have t1 := tU.below hb1
        have d1 := (hb1.block _ (Array.getElem?_eq_some_iff.1 dU).1).trans dU
        have B1 := BU.trans (hb1.mono BU.size)
        have hll : ts.length + 1 ≤ 68719476736 := by omega
        have hBs := B1.size
        gi_wp2_with (first | (guard_target = wpListIn _ _ _ _ _ (Oper.mk (some 24) _ _ _ _ _ :: _) _ _; refine loadIn_mid rfl (fun _ => trivial) rfl 42 (.tmp 6) rfl X.heap.size 0 rfl t.cells _ HRX.out Tryz.underlying42 rfl HI.out ?_) | (guard_target = wpListIn _ _ _ _ _ (Oper.mk (some 25) _ _ _ _ _ :: _) _ _; refine build_recIn (fun _ => trivial) (.tmp 24) rfl t rfl ?_; rw [hU1.out]) | (guard_target = wpListIn _ _ _ _ _ (Oper.mk (some 26) _ _ _ _ _ :: _) _ _; refine append_recIn rfl (fun _ => trivial) rfl _ _ rfl W4.heap.size h a' c' ts rfl o1 U.heap.size 0 1 t rfl R1.out l u t1 (by omega) (by omega) hll (by omega) ?_) | fail)
        intro a2 c2 U2 o2 g2
        have hw2 : Within W4.heap.size h U1 U2 := Within.of_grown g2 (fun j hj => ⟨(OwnRs.row o1).lt j hj |>.1, OwnRs.blk o1 j hj⟩)
        have hs2 := hw2.size
        have L2 := (hw2.block _ (Array.getElem?_eq_some_iff.1 L1).1 (by omega)).trans L1
        have k2 := k1.within hw2 (by omega)
        have f2 := f1.within hw2 (by omega)
        have v2 := v1.within hw2 (by omega)
        have u2 := u1.within hw2 (by omega)
        have d2 := (hw2.block _ (Array.getElem?_eq_some_iff.1 d1).1 (by omega)).trans d1
        have B2 : Below w.heap.size w U2 := B1.trans (hw2.below (by omega) (by omega))
        clear hw2 g2 L1 LU k1 kU f1 fU v1 yU u1 uU o1 oU t1 tU d1 dU B1 BU R1 HRX e0 hb1 hU1 y1 zU
        have m0 := k2.cell 0 _ rfl
        have mf0 := k2.frozen 0
        obtain ⟨U3, hU3, k3, hw3, hs3⟩ := box_set k2 0 (.slice a2 (ts.length + 1) c2)
        simp only [List.set] at k3
        have hs3a := Nat.le_of_eq hs3
        have hs3b := Nat.le_of_eq hs3.symm
        clear hs3
        have L3 := (hw3.block _ (Array.getElem?_eq_some_iff.1 L2).1 (by omega)).trans L2
        have f3 := f2.within hw3 (by omega)
        have v3 := v2.within hw3 (by omega)
        have u3 := u2.within hw3 (by omega)
        have d3 := (hw3.block _ (Array.getElem?_eq_some_iff.1 d2).1 (by omega)).trans d2
        have B3 : Below w.heap.size w U3 := B2.trans (hw3.below (by omega) (by omega))
        have o3 := o2.within hw3 (.inr (by omega))
        clear hw3 L2 k2 f2 v2 u2 d2 B2 o2
        gi_upto_region 8 with fail
        rw [hU3.out]
        clear hU3 m0 mf0
        have m0 := f3.cell 0 _ rfl
        have mf0 := f3.frozen 0
        obtain ⟨U4, hU4, f4, hw4, hs4⟩ := box_set f3 0 (.int .i64 q)
        simp only [List.set] at f4
        have hs4a := Nat.le_of_eq hs4
        have hs4b := Nat.le_of_eq hs4.symm
        clear hs4
        have L4 := (hw4.block _ (Array.getElem?_eq_some_iff.1 L3).1 (by omega)).trans L3
        have k4 := k3.within hw4 (by omega)
        have v4 := v3.within hw4 (by omega)
        have u4 := u3.within hw4 (by omega)
        have d4 := (hw4.block _ (Array.getElem?_eq_some_iff.1 d3).1 (by omega)).trans d3
        have B4 : Below w.heap.size w U4 := B3.trans (hw4.below (by omega) (by omega))
        have o4 := o3.within hw4 (.inr (by omega))
        clear hw4 L3 k3 f3 v3 u3 d3 B3 o3
        gi_wp2_with fail
        rw [hU4.out]
        clear hU4 m0 mf0
        obtain ⟨Y, hrun, hYL, hYw, hYs⟩ := end_go (P := Tryz.prog) (V := U4) (r := r) HST.out HPD.out L4
        have HLN : Hid ((ts ++ [t]).length = ts.length + 1) := by simp [Hid]
        refine ⟨_, Y, hrun, .inl ⟨rfl, HGO'.out.1, hlt, ⟨a2, c2, by rw [HLN.out]; exact k4.within hYw (by omega), (o4.within hYw (.inr (by omega))).widen (Nat.le_refl _) (by omega) (Nat.le_refl _)⟩, f4.within hYw (by omega), v4.within hYw (by omega), u4.within hYw (by omega), hYL, (hYw.block _ (Array.getElem?_eq_some_iff.1 d4).1 (by omega)).trans d4, B4.trans (hYw.below (by omega) (by omega)), by omega, Nat.le_refl _, by rw [HLN.out]; omega, by rw [HLN.out, List.map_append]; exact HGO'.out.2⟩⟩
       ·skip
        go_simp
        refine ⟨trivial, ?_⟩
        refine (CallsIn.inRound _ (callsIn_wide.2 (lsnAt_any (ts.length : Int) _ (by omega)))).mono ?_
        rintro e w' ⟨rfl, rfl⟩
        refine hK _ _ ?_
        clear hK K
        refine wpAnyIn_ready (rs := [5]) (by kernel_rfl) (by simp) ?_
        refine AllReadyIn.cons rfl (fun K hK => ?_) AllReadyIn.nil
        go_simp
        refine hK _ _ ?_
        clear hK K
        refine wpAnyIn_ready (rs := [9]) (by kernel_rfl) (by simp) ?_
        refine AllReadyIn.cons rfl (fun K hK => ?_) AllReadyIn.nil
        go_simp
        refine hK _ _ ?_
        clear hK K
        refine wpAnyIn_ready (rs := [10]) (by kernel_rfl) (by simp) ?_
        refine AllReadyIn.cons rfl (fun K hK => ?_) AllReadyIn.nil
        go_simp
        refine hK _ _ ?_
        clear hK K
        refine wpAnyIn_done (by kernel_rfl) ?_ _
        gi_upto_region 7 with fail
        obtain ⟨U, hU⟩ : ∃ U, Hid (V.drew = U) := ⟨_, rfl⟩
        have ND : Below V.heap.size V U := by rw [← hU.out]; exact (Below.refl _ _).drew
        have hUa : V.heap.size ≤ U.heap.size := ND.size
        have hUb : U.heap.size ≤ V.heap.size := by rw [← hU.out]; exact Nat.le_refl _
        rw [hU.out]
        clear hU
        have LU := (ND.block _ (Array.getElem?_eq_some_iff.1 hVL).1).trans hVL
        have kU := kV.below ND kV.lt
        have zU := zV.below ND zV.lt
        have fU := fV.below ND fV.lt
        have yU := yV.below ND yV.lt
        have uU := uV.below ND uV.lt
        have oU := oV.below ND
        have tU := tV.below ND
        have dU := (ND.block _ (Array.getElem?_eq_some_iff.1 dV).1).trans dV
        have BU := BV.trans (ND.mono BV.size)
        clear x0 z0 hVL kV zV fV yV uV oV tV dV BV ND
        have e0 := kU.cell 0 _ rfl
        have HRX : Hid (U.rangeAt X.heap.size 0 t.cells) := Box.range [] t.cells [] (by simpa using zU)
        obtain ⟨U1, hU1, y1, hb1, hs1⟩ := boxes1 U t.cells 42
        have hs1' := hb1.size
        have hs1'' := Nat.le_of_eq hs1
        clear hs1
        have R1 : Hid (U1.rangeAt U.heap.size 0 t.cells) := Box.range [] t.cells [] (by simpa using y1)
        have L1 := (hb1.block _ (Array.getElem?_eq_some_iff.1 LU).1).trans LU
        have k1 := kU.below hb1 kU.lt
        have f1 := fU.below hb1 fU.lt
        have v1 := yU.below hb1 yU.lt
        have u1 := uU.below hb1 uU.lt
        have o1 := oU.below hb1
        have t1 := tU.below hb1
        have d1 := (hb1.block _ (Array.getElem?_eq_some_iff.1 dU).1).trans dU
        have B1 := BU.trans (hb1.mono BU.size)
        have hll : ts.length + 1 ≤ 68719476736 := by omega
        have hBs := B1.size
        gi_wp2_with (first | (guard_target = wpListIn _ _ _ _ _ (Oper.mk (some 24) _ _ _ _ _ :: _) _ _; refine loadIn_mid rfl (fun _ => trivial) rfl 42 (.tmp 6) rfl X.heap.size 0 rfl t.cells _ HRX.out Tryz.underlying42 rfl HI.out ?_) | (guard_target = wpListIn _ _ _ _ _ (Oper.mk (some 25) _ _ _ _ _ :: _) _ _; refine build_recIn (fun _ => trivial) (.tmp 24) rfl t rfl ?_; rw [hU1.out]) | (guard_target = wpListIn _ _ _ _ _ (Oper.mk (some 26) _ _ _ _ _ :: _) _ _; refine append_recIn rfl (fun _ => trivial) rfl _ _ rfl W4.heap.size h a' c' ts rfl o1 U.heap.size 0 1 t rfl R1.out l u t1 (by omega) (by omega) hll (by omega) ?_) | fail)
        intro a2 c2 U2 o2 g2
        have hw2 : Within W4.heap.size h U1 U2 := Within.of_grown g2 (fun j hj => ⟨(OwnRs.row o1).lt j hj |>.1, OwnRs.blk o1 j hj⟩)
        have hs2 := hw2.size
        have L2 := (hw2.block _ (Array.getElem?_eq_some_iff.1 L1).1 (by omega)).trans L1
        have k2 := k1.within hw2 (by omega)
        have f2 := f1.within hw2 (by omega)
        have v2 := v1.within hw2 (by omega)
        have u2 := u1.within hw2 (by omega)
        have d2 := (hw2.block _ (Array.getElem?_eq_some_iff.1 d1).1 (by omega)).trans d1
        have B2 : Below w.heap.size w U2 := B1.trans (hw2.below (by omega) (by omega))
        clear hw2 g2 L1 LU k1 kU f1 fU v1 yU u1 uU o1 oU t1 tU d1 dU B1 BU R1 HRX e0 hb1 hU1 y1 zU
        have m0 := k2.cell 0 _ rfl
        have mf0 := k2.frozen 0
        obtain ⟨U3, hU3, k3, hw3, hs3⟩ := box_set k2 0 (.slice a2 (ts.length + 1) c2)
        simp only [List.set] at k3
        have hs3a := Nat.le_of_eq hs3
        have hs3b := Nat.le_of_eq hs3.symm
        clear hs3
        have L3 := (hw3.block _ (Array.getElem?_eq_some_iff.1 L2).1 (by omega)).trans L2
        have f3 := f2.within hw3 (by omega)
        have v3 := v2.within hw3 (by omega)
        have u3 := u2.within hw3 (by omega)
        have d3 := (hw3.block _ (Array.getElem?_eq_some_iff.1 d2).1 (by omega)).trans d2
        have B3 : Below w.heap.size w U3 := B2.trans (hw3.below (by omega) (by omega))
        have o3 := o2.within hw3 (.inr (by omega))
        clear hw3 L2 k2 f2 v2 u2 d2 B2 o2
        gi_upto_region 8 with fail
        rw [hU3.out]
        clear hU3 m0 mf0
        have m0 := f3.cell 0 _ rfl
        have mf0 := f3.frozen 0
        obtain ⟨U4, hU4, f4, hw4, hs4⟩ := box_set f3 0 (.int .i64 q)
        simp only [List.set] at f4
        have hs4a := Nat.le_of_eq hs4
        have hs4b := Nat.le_of_eq hs4.symm
        clear hs4
        have L4 := (hw4.block _ (Array.getElem?_eq_some_iff.1 L3).1 (by omega)).trans L3
        have k4 := k3.within hw4 (by omega)
        have v4 := v3.within hw4 (by omega)
        have u4 := u3.within hw4 (by omega)
        have d4 := (hw4.block _ (Array.getElem?_eq_some_iff.1 d3).1 (by omega)).trans d3
        have B4 : Below w.heap.size w U4 := B3.trans (hw4.below (by omega) (by omega))
        have o4 := o3.within hw4 (.inr (by omega))
        clear hw4 L3 k3 f3 v3 u3 d3 B3 o3
        gi_wp2_with fail
        rw [hU4.out]
        clear hU4 m0 mf0
        obtain ⟨Y, hrun, hYL, hYw, hYs⟩ := end_go (P := Tryz.prog) (V := U4) (r := r) HST.out HPD.out L4
        have HLN : Hid ((ts ++ [t]).length = ts.length + 1) := by simp [Hid]
        refine ⟨_, Y, hrun, .inl ⟨rfl, HGO'.out.1, hlt, ⟨a2, c2, by rw [HLN.out]; exact k4.within hYw (by omega), (o4.within hYw (.inr (by omega))).widen (Nat.le_refl _) (by omega) (Nat.le_refl _)⟩, f4.within hYw (by omega), v4.within hYw (by omega), u4.within hYw (by omega), hYL, (hYw.block _ (Array.getElem?_eq_some_iff.1 d4).1 (by omega)).trans d4, B4.trans (hYw.below (by omega) (by omega)), by omega, Nat.le_refl _, by rw [HLN.out]; omega, by rw [HLN.out, List.map_append]; exact HGO'.out.2⟩⟩
    ·skip
     go_simp
     refine hK _ _ ?_
     clear hK K
     refine wpAnyIn_ready (rs := [4, 7]) (by kernel_rfl) (by simp) ?_
     refine AllReadyIn.cons rfl (fun K hK => ?_) (AllReadyIn.cons rfl (fun K hK => ?_) AllReadyIn.nil)
     ·skip
      go_simp
      refine hK _ _ ?_
      clear hK K
      refine wpAnyIn_ready (rs := [5, 7]) (by kernel_rfl) (by simp) ?_
      refine AllReadyIn.cons rfl (fun K hK => ?_) (AllReadyIn.cons rfl (fun K hK => ?_) AllReadyIn.nil)
      ·skip
       go_simp
       refine hK _ _ ?_
       clear hK K
       refine wpAnyIn_ready (rs := [7]) (by kernel_rfl) (by simp) ?_
       refine AllReadyIn.cons rfl (fun K hK => ?_) AllReadyIn.nil
       go_simp
       refine hK _ _ ?_
       clear hK K
       refine wpAnyIn_ready (rs := [8]) (by kernel_rfl) (by simp) ?_
       refine AllReadyIn.cons rfl (fun K hK => ?_) AllReadyIn.nil
       go_simp
       refine ⟨trivial, ?_⟩
       refine (CallsIn.inRound _ (callsIn_wide.2 (lsnAt_any (ts.length : Int) _ (by omega)))).mono ?_
       rintro e w' ⟨rfl, rfl⟩
       refine hK _ _ ?_
       clear hK K
       refine wpAnyIn_ready (rs := [9]) (by kernel_rfl) (by simp) ?_
       refine AllReadyIn.cons rfl (fun K hK => ?_) AllReadyIn.nil
       go_simp
       refine hK _ _ ?_
       clear hK K
       refine wpAnyIn_ready (rs := [10]) (by kernel_rfl) (by simp) ?_
       refine AllReadyIn.cons rfl (fun K hK => ?_) AllReadyIn.nil
       go_simp
       refine hK _ _ ?_
       clear hK K
       refine wpAnyIn_done (by kernel_rfl) ?_ _
       gi_upto_region 7 with fail
       obtain ⟨U, hU⟩ : ∃ U, Hid (V.drew = U) := ⟨_, rfl⟩
       have ND : Below V.heap.size V U := by rw [← hU.out]; exact (Below.refl _ _).drew
       have hUa : V.heap.size ≤ U.heap.size := ND.size
       have hUb : U.heap.size ≤ V.heap.size := by rw [← hU.out]; exact Nat.le_refl _
       rw [hU.out]
       clear hU
       have LU := (ND.block _ (Array.getElem?_eq_some_iff.1 hVL).1).trans hVL
       have kU := kV.below ND kV.lt
       have zU := zV.below ND zV.lt
       have fU := fV.below ND fV.lt
       have yU := yV.below ND yV.lt
       have uU := uV.below ND uV.lt
       have oU := oV.below ND
       have tU := tV.below ND
       have dU := (ND.block _ (Array.getElem?_eq_some_iff.1 dV).1).trans dV
       have BU := BV.trans (ND.mono BV.size)
       clear x0 z0 hVL kV zV fV yV uV oV tV dV BV ND
       have e0 := kU.cell 0 _ rfl
       have HRX : Hid (U.rangeAt X.heap.size 0 t.cells) := Box.range [] t.cells [] (by simpa using zU)
       obtain ⟨U1, hU1, y1, hb1, hs1⟩ := boxes1 U t.cells 42
       have hs1' := hb1.size
       have hs1'' := Nat.le_of_eq hs1
       clear hs1
       have R1 : Hid (U1.rangeAt U.heap.size 0 t.cells) := Box.range [] t.cells [] (by simpa using y1)
       have L1 := (hb1.block _ (Array.getElem?_eq_some_iff.1 LU).1).trans LU
       have k1 := kU.below hb1 kU.lt
       have f1 := fU.below hb1 fU.lt
       have v1 := yU.below hb1 yU.lt
       have u1 := uU.below hb1 uU.lt
       have o1 := oU.below hb1
       have t1 := tU.below hb1
       have d1 := (hb1.block _ (Array.getElem?_eq_some_iff.1 dU).1).trans dU
       have B1 := BU.trans (hb1.mono BU.size)
       have hll : ts.length + 1 ≤ 68719476736 := by omega
       have hBs := B1.size
       gi_wp2_with (first | (guard_target = wpListIn _ _ _ _ _ (Oper.mk (some 24) _ _ _ _ _ :: _) _ _; refine loadIn_mid rfl (fun _ => trivial) rfl 42 (.tmp 6) rfl X.heap.size 0 rfl t.cells _ HRX.out Tryz.underlying42 rfl HI.out ?_) | (guard_target = wpListIn _ _ _ _ _ (Oper.mk (some 25) _ _ _ _ _ :: _) _ _; refine build_recIn (fun _ => trivial) (.tmp 24) rfl t rfl ?_; rw [hU1.out]) | (guard_target = wpListIn _ _ _ _ _ (Oper.mk (some 26) _ _ _ _ _ :: _) _ _; refine append_recIn rfl (fun _ => trivial) rfl _ _ rfl W4.heap.size h a' c' ts rfl o1 U.heap.size 0 1 t rfl R1.out l u t1 (by omega) (by omega) hll (by omega) ?_) | fail)
       intro a2 c2 U2 o2 g2
       have hw2 : Within W4.heap.size h U1 U2 := Within.of_grown g2 (fun j hj => ⟨(OwnRs.row o1).lt j hj |>.1, OwnRs.blk o1 j hj⟩)
       have hs2 := hw2.size
       have L2 := (hw2.block _ (Array.getElem?_eq_some_iff.1 L1).1 (by omega)).trans L1
       have k2 := k1.within hw2 (by omega)
       have f2 := f1.within hw2 (by omega)
       have v2 := v1.within hw2 (by omega)
       have u2 := u1.within hw2 (by omega)
       have d2 := (hw2.block _ (Array.getElem?_eq_some_iff.1 d1).1 (by omega)).trans d1
       have B2 : Below w.heap.size w U2 := B1.trans (hw2.below (by omega) (by omega))
       clear hw2 g2 L1 LU k1 kU f1 fU v1 yU u1 uU o1 oU t1 tU d1 dU B1 BU R1 HRX e0 hb1 hU1 y1 zU
       have m0 := k2.cell 0 _ rfl
       have mf0 := k2.frozen 0
       obtain ⟨U3, hU3, k3, hw3, hs3⟩ := box_set k2 0 (.slice a2 (ts.length + 1) c2)
       simp only [List.set] at k3
       have hs3a := Nat.le_of_eq hs3
       have hs3b := Nat.le_of_eq hs3.symm
       clear hs3
       have L3 := (hw3.block _ (Array.getElem?_eq_some_iff.1 L2).1 (by omega)).trans L2
       have f3 := f2.within hw3 (by omega)
       have v3 := v2.within hw3 (by omega)
       have u3 := u2.within hw3 (by omega)
       have d3 := (hw3.block _ (Array.getElem?_eq_some_iff.1 d2).1 (by omega)).trans d2
       have B3 : Below w.heap.size w U3 := B2.trans (hw3.below (by omega) (by omega))
       have o3 := o2.within hw3 (.inr (by omega))
       clear hw3 L2 k2 f2 v2 u2 d2 B2 o2
       gi_upto_region 8 with fail
       rw [hU3.out]
       clear hU3 m0 mf0
       have m0 := f3.cell 0 _ rfl
       have mf0 := f3.frozen 0
       obtain ⟨U4, hU4, f4, hw4, hs4⟩ := box_set f3 0 (.int .i64 q)
       simp only [List.set] at f4
       have hs4a := Nat.le_of_eq hs4
       have hs4b := Nat.le_of_eq hs4.symm
       clear hs4
       have L4 := (hw4.block _ (Array.getElem?_eq_some_iff.1 L3).1 (by omega)).trans L3
       have k4 := k3.within hw4 (by omega)
       have v4 := v3.within hw4 (by omega)
       have u4 := u3.within hw4 (by omega)
       have d4 := (hw4.block _ (Array.getElem?_eq_some_iff.1 d3).1 (by omega)).trans d3
       have B4 : Below w.heap.size w U4 := B3.trans (hw4.below (by omega) (by omega))
       have o4 := o3.within hw4 (.inr (by omega))
       clear hw4 L3 k3 f3 v3 u3 d3 B3 o3
       gi_wp2_with fail
       rw [hU4.out]
       clear hU4 m0 mf0
       obtain ⟨Y, hrun, hYL, hYw, hYs⟩ := end_go (P := Tryz.prog) (V := U4) (r := r) HST.out HPD.out L4
       have HLN : Hid ((ts ++ [t]).length = ts.length + 1) := by simp [Hid]
       refine ⟨_, Y, hrun, .inl ⟨rfl, HGO'.out.1, hlt, ⟨a2, c2, by rw [HLN.out]; exact k4.within hYw (by omega), (o4.within hYw (.inr (by omega))).widen (Nat.le_refl _) (by omega) (Nat.le_refl _)⟩, f4.within hYw (by omega), v4.within hYw (by omega), u4.within hYw (by omega), hYL, (hYw.block _ (Array.getElem?_eq_some_iff.1 d4).1 (by omega)).trans d4, B4.trans (hYw.below (by omega) (by omega)), by omega, Nat.le_refl _, by rw [HLN.out]; omega, by rw [HLN.out, List.map_append]; exact HGO'.out.2⟩⟩
      ·skip
       go_simp
       refine hK _ _ ?_
       clear hK K
       refine wpAnyIn_ready (rs := [5, 8]) (by kernel_rfl) (by simp) ?_
       refine AllReadyIn.cons rfl (fun K hK => ?_) (AllReadyIn.cons rfl (fun K hK => ?_) AllReadyIn.nil)
       ·skip
        go_simp
        refine hK _ _ ?_
        clear hK K
        refine wpAnyIn_ready (rs := [8]) (by kernel_rfl) (by simp) ?_
        refine AllReadyIn.cons rfl (fun K hK => ?_) AllReadyIn.nil
        go_simp
        refine ⟨trivial, ?_⟩
        refine (CallsIn.inRound _ (callsIn_wide.2 (lsnAt_any (ts.length : Int) _ (by omega)))).mono ?_
        rintro e w' ⟨rfl, rfl⟩
        refine hK _ _ ?_
        clear hK K
        refine wpAnyIn_ready (rs := [9]) (by kernel_rfl) (by simp) ?_
        refine AllReadyIn.cons rfl (fun K hK => ?_) AllReadyIn.nil
        go_simp
        refine hK _ _ ?_
        clear hK K
        refine wpAnyIn_ready (rs := [10]) (by kernel_rfl) (by simp) ?_
        refine AllReadyIn.cons rfl (fun K hK => ?_) AllReadyIn.nil
        go_simp
        refine hK _ _ ?_
        clear hK K
        refine wpAnyIn_done (by kernel_rfl) ?_ _
        gi_upto_region 7 with fail
        obtain ⟨U, hU⟩ : ∃ U, Hid (V.drew = U) := ⟨_, rfl⟩
        have ND : Below V.heap.size V U := by rw [← hU.out]; exact (Below.refl _ _).drew
        have hUa : V.heap.size ≤ U.heap.size := ND.size
        have hUb : U.heap.size ≤ V.heap.size := by rw [← hU.out]; exact Nat.le_refl _
        rw [hU.out]
        clear hU
        have LU := (ND.block _ (Array.getElem?_eq_some_iff.1 hVL).1).trans hVL
        have kU := kV.below ND kV.lt
        have zU := zV.below ND zV.lt
        have fU := fV.below ND fV.lt
        have yU := yV.below ND yV.lt
        have uU := uV.below ND uV.lt
        have oU := oV.below ND
        have tU := tV.below ND
        have dU := (ND.block _ (Array.getElem?_eq_some_iff.1 dV).1).trans dV
        have BU := BV.trans (ND.mono BV.size)
        clear x0 z0 hVL kV zV fV yV uV oV tV dV BV ND
        have e0 := kU.cell 0 _ rfl
        have HRX : Hid (U.rangeAt X.heap.size 0 t.cells) := Box.range [] t.cells [] (by simpa using zU)
        obtain ⟨U1, hU1, y1, hb1, hs1⟩ := boxes1 U t.cells 42
        have hs1' := hb1.size
        have hs1'' := Nat.le_of_eq hs1
        clear hs1
        have R1 : Hid (U1.rangeAt U.heap.size 0 t.cells) := Box.range [] t.cells [] (by simpa using y1)
        have L1 := (hb1.block _ (Array.getElem?_eq_some_iff.1 LU).1).trans LU
        have k1 := kU.below hb1 kU.lt
        have f1 := fU.below hb1 fU.lt
        have v1 := yU.below hb1 yU.lt
        have u1 := uU.below hb1 uU.lt
        have o1 := oU.below hb1
        have t1 := tU.below hb1
        have d1 := (hb1.block _ (Array.getElem?_eq_some_iff.1 dU).1).trans dU
        have B1 := BU.trans (hb1.mono BU.size)
        have hll : ts.length + 1 ≤ 68719476736 := by omega
        have hBs := B1.size
        gi_wp2_with (first | (guard_target = wpListIn _ _ _ _ _ (Oper.mk (some 24) _ _ _ _ _ :: _) _ _; refine loadIn_mid rfl (fun _ => trivial) rfl 42 (.tmp 6) rfl X.heap.size 0 rfl t.cells _ HRX.out Tryz.underlying42 rfl HI.out ?_) | (guard_target = wpListIn _ _ _ _ _ (Oper.mk (some 25) _ _ _ _ _ :: _) _ _; refine build_recIn (fun _ => trivial) (.tmp 24) rfl t rfl ?_; rw [hU1.out]) | (guard_target = wpListIn _ _ _ _ _ (Oper.mk (some 26) _ _ _ _ _ :: _) _ _; refine append_recIn rfl (fun _ => trivial) rfl _ _ rfl W4.heap.size h a' c' ts rfl o1 U.heap.size 0 1 t rfl R1.out l u t1 (by omega) (by omega) hll (by omega) ?_) | fail)
        intro a2 c2 U2 o2 g2
        have hw2 : Within W4.heap.size h U1 U2 := Within.of_grown g2 (fun j hj => ⟨(OwnRs.row o1).lt j hj |>.1, OwnRs.blk o1 j hj⟩)
        have hs2 := hw2.size
        have L2 := (hw2.block _ (Array.getElem?_eq_some_iff.1 L1).1 (by omega)).trans L1
        have k2 := k1.within hw2 (by omega)
        have f2 := f1.within hw2 (by omega)
        have v2 := v1.within hw2 (by omega)
        have u2 := u1.within hw2 (by omega)
        have d2 := (hw2.block _ (Array.getElem?_eq_some_iff.1 d1).1 (by omega)).trans d1
        have B2 : Below w.heap.size w U2 := B1.trans (hw2.below (by omega) (by omega))
        clear hw2 g2 L1 LU k1 kU f1 fU v1 yU u1 uU o1 oU t1 tU d1 dU B1 BU R1 HRX e0 hb1 hU1 y1 zU
        have m0 := k2.cell 0 _ rfl
        have mf0 := k2.frozen 0
        obtain ⟨U3, hU3, k3, hw3, hs3⟩ := box_set k2 0 (.slice a2 (ts.length + 1) c2)
        simp only [List.set] at k3
        have hs3a := Nat.le_of_eq hs3
        have hs3b := Nat.le_of_eq hs3.symm
        clear hs3
        have L3 := (hw3.block _ (Array.getElem?_eq_some_iff.1 L2).1 (by omega)).trans L2
        have f3 := f2.within hw3 (by omega)
        have v3 := v2.within hw3 (by omega)
        have u3 := u2.within hw3 (by omega)
        have d3 := (hw3.block _ (Array.getElem?_eq_some_iff.1 d2).1 (by omega)).trans d2
        have B3 : Below w.heap.size w U3 := B2.trans (hw3.below (by omega) (by omega))
        have o3 := o2.within hw3 (.inr (by omega))
        clear hw3 L2 k2 f2 v2 u2 d2 B2 o2
        gi_upto_region 8 with fail
        rw [hU3.out]
        clear hU3 m0 mf0
        have m0 := f3.cell 0 _ rfl
        have mf0 := f3.frozen 0
        obtain ⟨U4, hU4, f4, hw4, hs4⟩ := box_set f3 0 (.int .i64 q)
        simp only [List.set] at f4
        have hs4a := Nat.le_of_eq hs4
        have hs4b := Nat.le_of_eq hs4.symm
        clear hs4
        have L4 := (hw4.block _ (Array.getElem?_eq_some_iff.1 L3).1 (by omega)).trans L3
        have k4 := k3.within hw4 (by omega)
        have v4 := v3.within hw4 (by omega)
        have u4 := u3.within hw4 (by omega)
        have d4 := (hw4.block _ (Array.getElem?_eq_some_iff.1 d3).1 (by omega)).trans d3
        have B4 : Below w.heap.size w U4 := B3.trans (hw4.below (by omega) (by omega))
        have o4 := o3.within hw4 (.inr (by omega))
        clear hw4 L3 k3 f3 v3 u3 d3 B3 o3
        gi_wp2_with fail
        rw [hU4.out]
        clear hU4 m0 mf0
        obtain ⟨Y, hrun, hYL, hYw, hYs⟩ := end_go (P := Tryz.prog) (V := U4) (r := r) HST.out HPD.out L4
        have HLN : Hid ((ts ++ [t]).length = ts.length + 1) := by simp [Hid]
        refine ⟨_, Y, hrun, .inl ⟨rfl, HGO'.out.1, hlt, ⟨a2, c2, by rw [HLN.out]; exact k4.within hYw (by omega), (o4.within hYw (.inr (by omega))).widen (Nat.le_refl _) (by omega) (Nat.le_refl _)⟩, f4.within hYw (by omega), v4.within hYw (by omega), u4.within hYw (by omega), hYL, (hYw.block _ (Array.getElem?_eq_some_iff.1 d4).1 (by omega)).trans d4, B4.trans (hYw.below (by omega) (by omega)), by omega, Nat.le_refl _, by rw [HLN.out]; omega, by rw [HLN.out, List.map_append]; exact HGO'.out.2⟩⟩
       ·skip
        go_simp
        refine ⟨trivial, ?_⟩
        refine (CallsIn.inRound _ (callsIn_wide.2 (lsnAt_any (ts.length : Int) _ (by omega)))).mono ?_
        rintro e w' ⟨rfl, rfl⟩
        refine hK _ _ ?_
        clear hK K
        refine wpAnyIn_ready (rs := [5]) (by kernel_rfl) (by simp) ?_
        refine AllReadyIn.cons rfl (fun K hK => ?_) AllReadyIn.nil
        go_simp
        refine hK _ _ ?_
        clear hK K
        refine wpAnyIn_ready (rs := [9]) (by kernel_rfl) (by simp) ?_
        refine AllReadyIn.cons rfl (fun K hK => ?_) AllReadyIn.nil
        go_simp
        refine hK _ _ ?_
        clear hK K
        refine wpAnyIn_ready (rs := [10]) (by kernel_rfl) (by simp) ?_
        refine AllReadyIn.cons rfl (fun K hK => ?_) AllReadyIn.nil
        go_simp
        refine hK _ _ ?_
        clear hK K
        refine wpAnyIn_done (by kernel_rfl) ?_ _
        gi_upto_region 7 with fail
        obtain ⟨U, hU⟩ : ∃ U, Hid (V.drew = U) := ⟨_, rfl⟩
        have ND : Below V.heap.size V U := by rw [← hU.out]; exact (Below.refl _ _).drew
        have hUa : V.heap.size ≤ U.heap.size := ND.size
        have hUb : U.heap.size ≤ V.heap.size := by rw [← hU.out]; exact Nat.le_refl _
        rw [hU.out]
        clear hU
        have LU := (ND.block _ (Array.getElem?_eq_some_iff.1 hVL).1).trans hVL
        have kU := kV.below ND kV.lt
        have zU := zV.below ND zV.lt
        have fU := fV.below ND fV.lt
        have yU := yV.below ND yV.lt
        have uU := uV.below ND uV.lt
        have oU := oV.below ND
        have tU := tV.below ND
        have dU := (ND.block _ (Array.getElem?_eq_some_iff.1 dV).1).trans dV
        have BU := BV.trans (ND.mono BV.size)
        clear x0 z0 hVL kV zV fV yV uV oV tV dV BV ND
        have e0 := kU.cell 0 _ rfl
        have HRX : Hid (U.rangeAt X.heap.size 0 t.cells) := Box.range [] t.cells [] (by simpa using zU)
        obtain ⟨U1, hU1, y1, hb1, hs1⟩ := boxes1 U t.cells 42
        have hs1' := hb1.size
        have hs1'' := Nat.le_of_eq hs1
        clear hs1
        have R1 : Hid (U1.rangeAt U.heap.size 0 t.cells) := Box.range [] t.cells [] (by simpa using y1)
        have L1 := (hb1.block _ (Array.getElem?_eq_some_iff.1 LU).1).trans LU
        have k1 := kU.below hb1 kU.lt
        have f1 := fU.below hb1 fU.lt
        have v1 := yU.below hb1 yU.lt
        have u1 := uU.below hb1 uU.lt
        have o1 := oU.below hb1
        have t1 := tU.below hb1
        have d1 := (hb1.block _ (Array.getElem?_eq_some_iff.1 dU).1).trans dU
        have B1 := BU.trans (hb1.mono BU.size)
        have hll : ts.length + 1 ≤ 68719476736 := by omega
        have hBs := B1.size
        gi_wp2_with (first | (guard_target = wpListIn _ _ _ _ _ (Oper.mk (some 24) _ _ _ _ _ :: _) _ _; refine loadIn_mid rfl (fun _ => trivial) rfl 42 (.tmp 6) rfl X.heap.size 0 rfl t.cells _ HRX.out Tryz.underlying42 rfl HI.out ?_) | (guard_target = wpListIn _ _ _ _ _ (Oper.mk (some 25) _ _ _ _ _ :: _) _ _; refine build_recIn (fun _ => trivial) (.tmp 24) rfl t rfl ?_; rw [hU1.out]) | (guard_target = wpListIn _ _ _ _ _ (Oper.mk (some 26) _ _ _ _ _ :: _) _ _; refine append_recIn rfl (fun _ => trivial) rfl _ _ rfl W4.heap.size h a' c' ts rfl o1 U.heap.size 0 1 t rfl R1.out l u t1 (by omega) (by omega) hll (by omega) ?_) | fail)
        intro a2 c2 U2 o2 g2
        have hw2 : Within W4.heap.size h U1 U2 := Within.of_grown g2 (fun j hj => ⟨(OwnRs.row o1).lt j hj |>.1, OwnRs.blk o1 j hj⟩)
        have hs2 := hw2.size
        have L2 := (hw2.block _ (Array.getElem?_eq_some_iff.1 L1).1 (by omega)).trans L1
        have k2 := k1.within hw2 (by omega)
        have f2 := f1.within hw2 (by omega)
        have v2 := v1.within hw2 (by omega)
        have u2 := u1.within hw2 (by omega)
        have d2 := (hw2.block _ (Array.getElem?_eq_some_iff.1 d1).1 (by omega)).trans d1
        have B2 : Below w.heap.size w U2 := B1.trans (hw2.below (by omega) (by omega))
        clear hw2 g2 L1 LU k1 kU f1 fU v1 yU u1 uU o1 oU t1 tU d1 dU B1 BU R1 HRX e0 hb1 hU1 y1 zU
        have m0 := k2.cell 0 _ rfl
        have mf0 := k2.frozen 0
        obtain ⟨U3, hU3, k3, hw3, hs3⟩ := box_set k2 0 (.slice a2 (ts.length + 1) c2)
        simp only [List.set] at k3
        have hs3a := Nat.le_of_eq hs3
        have hs3b := Nat.le_of_eq hs3.symm
        clear hs3
        have L3 := (hw3.block _ (Array.getElem?_eq_some_iff.1 L2).1 (by omega)).trans L2
        have f3 := f2.within hw3 (by omega)
        have v3 := v2.within hw3 (by omega)
        have u3 := u2.within hw3 (by omega)
        have d3 := (hw3.block _ (Array.getElem?_eq_some_iff.1 d2).1 (by omega)).trans d2
        have B3 : Below w.heap.size w U3 := B2.trans (hw3.below (by omega) (by omega))
        have o3 := o2.within hw3 (.inr (by omega))
        clear hw3 L2 k2 f2 v2 u2 d2 B2 o2
        gi_upto_region 8 with fail
        rw [hU3.out]
        clear hU3 m0 mf0
        have m0 := f3.cell 0 _ rfl
        have mf0 := f3.frozen 0
        obtain ⟨U4, hU4, f4, hw4, hs4⟩ := box_set f3 0 (.int .i64 q)
        simp only [List.set] at f4
        have hs4a := Nat.le_of_eq hs4
        have hs4b := Nat.le_of_eq hs4.symm
        clear hs4
        have L4 := (hw4.block _ (Array.getElem?_eq_some_iff.1 L3).1 (by omega)).trans L3
        have k4 := k3.within hw4 (by omega)
        have v4 := v3.within hw4 (by omega)
        have u4 := u3.within hw4 (by omega)
        have d4 := (hw4.block _ (Array.getElem?_eq_some_iff.1 d3).1 (by omega)).trans d3
        have B4 : Below w.heap.size w U4 := B3.trans (hw4.below (by omega) (by omega))
        have o4 := o3.within hw4 (.inr (by omega))
        clear hw4 L3 k3 f3 v3 u3 d3 B3 o3
        gi_wp2_with fail
        rw [hU4.out]
        clear hU4 m0 mf0
        obtain ⟨Y, hrun, hYL, hYw, hYs⟩ := end_go (P := Tryz.prog) (V := U4) (r := r) HST.out HPD.out L4
        have HLN : Hid ((ts ++ [t]).length = ts.length + 1) := by simp [Hid]
        refine ⟨_, Y, hrun, .inl ⟨rfl, HGO'.out.1, hlt, ⟨a2, c2, by rw [HLN.out]; exact k4.within hYw (by omega), (o4.within hYw (.inr (by omega))).widen (Nat.le_refl _) (by omega) (Nat.le_refl _)⟩, f4.within hYw (by omega), v4.within hYw (by omega), u4.within hYw (by omega), hYL, (hYw.block _ (Array.getElem?_eq_some_iff.1 d4).1 (by omega)).trans d4, B4.trans (hYw.below (by omega) (by omega)), by omega, Nat.le_refl _, by rw [HLN.out]; omega, by rw [HLN.out, List.map_append]; exact HGO'.out.2⟩⟩
     ·skip
      go_simp
      refine hK _ _ ?_
      clear hK K
      refine wpAnyIn_ready (rs := [4, 8]) (by kernel_rfl) (by simp) ?_
      refine AllReadyIn.cons rfl (fun K hK => ?_) (AllReadyIn.cons rfl (fun K hK => ?_) AllReadyIn.nil)
      ·skip
       go_simp
       refine hK _ _ ?_
       clear hK K
       refine wpAnyIn_ready (rs := [5, 8]) (by kernel_rfl) (by simp) ?_
       refine AllReadyIn.cons rfl (fun K hK => ?_) (AllReadyIn.cons rfl (fun K hK => ?_) AllReadyIn.nil)
       ·skip
        go_simp
        refine hK _ _ ?_
        clear hK K
        refine wpAnyIn_ready (rs := [8]) (by kernel_rfl) (by simp) ?_
        refine AllReadyIn.cons rfl (fun K hK => ?_) AllReadyIn.nil
        go_simp
        refine ⟨trivial, ?_⟩
        refine (CallsIn.inRound _ (callsIn_wide.2 (lsnAt_any (ts.length : Int) _ (by omega)))).mono ?_
        rintro e w' ⟨rfl, rfl⟩
        refine hK _ _ ?_
        clear hK K
        refine wpAnyIn_ready (rs := [9]) (by kernel_rfl) (by simp) ?_
        refine AllReadyIn.cons rfl (fun K hK => ?_) AllReadyIn.nil
        go_simp
        refine hK _ _ ?_
        clear hK K
        refine wpAnyIn_ready (rs := [10]) (by kernel_rfl) (by simp) ?_
        refine AllReadyIn.cons rfl (fun K hK => ?_) AllReadyIn.nil
        go_simp
        refine hK _ _ ?_
        clear hK K
        refine wpAnyIn_done (by kernel_rfl) ?_ _
        gi_upto_region 7 with fail
        obtain ⟨U, hU⟩ : ∃ U, Hid (V.drew = U) := ⟨_, rfl⟩
        have ND : Below V.heap.size V U := by rw [← hU.out]; exact (Below.refl _ _).drew
        have hUa : V.heap.size ≤ U.heap.size := ND.size
        have hUb : U.heap.size ≤ V.heap.size := by rw [← hU.out]; exact Nat.le_refl _
        rw [hU.out]
        clear hU
        have LU := (ND.block _ (Array.getElem?_eq_some_iff.1 hVL).1).trans hVL
        have kU := kV.below ND kV.lt
        have zU := zV.below ND zV.lt
        have fU := fV.below ND fV.lt
        have yU := yV.below ND yV.lt
        have uU := uV.below ND uV.lt
        have oU := oV.below ND
        have tU := tV.below ND
        have dU := (ND.block _ (Array.getElem?_eq_some_iff.1 dV).1).trans dV
        have BU := BV.trans (ND.mono BV.size)
        clear x0 z0 hVL kV zV fV yV uV oV tV dV BV ND
        have e0 := kU.cell 0 _ rfl
        have HRX : Hid (U.rangeAt X.heap.size 0 t.cells) := Box.range [] t.cells [] (by simpa using zU)
        obtain ⟨U1, hU1, y1, hb1, hs1⟩ := boxes1 U t.cells 42
        have hs1' := hb1.size
        have hs1'' := Nat.le_of_eq hs1
        clear hs1
        have R1 : Hid (U1.rangeAt U.heap.size 0 t.cells) := Box.range [] t.cells [] (by simpa using y1)
        have L1 := (hb1.block _ (Array.getElem?_eq_some_iff.1 LU).1).trans LU
        have k1 := kU.below hb1 kU.lt
        have f1 := fU.below hb1 fU.lt
        have v1 := yU.below hb1 yU.lt
        have u1 := uU.below hb1 uU.lt
        have o1 := oU.below hb1
        have t1 := tU.below hb1
        have d1 := (hb1.block _ (Array.getElem?_eq_some_iff.1 dU).1).trans dU
        have B1 := BU.trans (hb1.mono BU.size)
        have hll : ts.length + 1 ≤ 68719476736 := by omega
        have hBs := B1.size
        gi_wp2_with (first | (guard_target = wpListIn _ _ _ _ _ (Oper.mk (some 24) _ _ _ _ _ :: _) _ _; refine loadIn_mid rfl (fun _ => trivial) rfl 42 (.tmp 6) rfl X.heap.size 0 rfl t.cells _ HRX.out Tryz.underlying42 rfl HI.out ?_) | (guard_target = wpListIn _ _ _ _ _ (Oper.mk (some 25) _ _ _ _ _ :: _) _ _; refine build_recIn (fun _ => trivial) (.tmp 24) rfl t rfl ?_; rw [hU1.out]) | (guard_target = wpListIn _ _ _ _ _ (Oper.mk (some 26) _ _ _ _ _ :: _) _ _; refine append_recIn rfl (fun _ => trivial) rfl _ _ rfl W4.heap.size h a' c' ts rfl o1 U.heap.size 0 1 t rfl R1.out l u t1 (by omega) (by omega) hll (by omega) ?_) | fail)
        intro a2 c2 U2 o2 g2
        have hw2 : Within W4.heap.size h U1 U2 := Within.of_grown g2 (fun j hj => ⟨(OwnRs.row o1).lt j hj |>.1, OwnRs.blk o1 j hj⟩)
        have hs2 := hw2.size
        have L2 := (hw2.block _ (Array.getElem?_eq_some_iff.1 L1).1 (by omega)).trans L1
        have k2 := k1.within hw2 (by omega)
        have f2 := f1.within hw2 (by omega)
        have v2 := v1.within hw2 (by omega)
        have u2 := u1.within hw2 (by omega)
        have d2 := (hw2.block _ (Array.getElem?_eq_some_iff.1 d1).1 (by omega)).trans d1
        have B2 : Below w.heap.size w U2 := B1.trans (hw2.below (by omega) (by omega))
        clear hw2 g2 L1 LU k1 kU f1 fU v1 yU u1 uU o1 oU t1 tU d1 dU B1 BU R1 HRX e0 hb1 hU1 y1 zU
        have m0 := k2.cell 0 _ rfl
        have mf0 := k2.frozen 0
        obtain ⟨U3, hU3, k3, hw3, hs3⟩ := box_set k2 0 (.slice a2 (ts.length + 1) c2)
        simp only [List.set] at k3
        have hs3a := Nat.le_of_eq hs3
        have hs3b := Nat.le_of_eq hs3.symm
        clear hs3
        have L3 := (hw3.block _ (Array.getElem?_eq_some_iff.1 L2).1 (by omega)).trans L2
        have f3 := f2.within hw3 (by omega)
        have v3 := v2.within hw3 (by omega)
        have u3 := u2.within hw3 (by omega)
        have d3 := (hw3.block _ (Array.getElem?_eq_some_iff.1 d2).1 (by omega)).trans d2
        have B3 : Below w.heap.size w U3 := B2.trans (hw3.below (by omega) (by omega))
        have o3 := o2.within hw3 (.inr (by omega))
        clear hw3 L2 k2 f2 v2 u2 d2 B2 o2
        gi_upto_region 8 with fail
        rw [hU3.out]
        clear hU3 m0 mf0
        have m0 := f3.cell 0 _ rfl
        have mf0 := f3.frozen 0
        obtain ⟨U4, hU4, f4, hw4, hs4⟩ := box_set f3 0 (.int .i64 q)
        simp only [List.set] at f4
        have hs4a := Nat.le_of_eq hs4
        have hs4b := Nat.le_of_eq hs4.symm
        clear hs4
        have L4 := (hw4.block _ (Array.getElem?_eq_some_iff.1 L3).1 (by omega)).trans L3
        have k4 := k3.within hw4 (by omega)
        have v4 := v3.within hw4 (by omega)
        have u4 := u3.within hw4 (by omega)
        have d4 := (hw4.block _ (Array.getElem?_eq_some_iff.1 d3).1 (by omega)).trans d3
        have B4 : Below w.heap.size w U4 := B3.trans (hw4.below (by omega) (by omega))
        have o4 := o3.within hw4 (.inr (by omega))
        clear hw4 L3 k3 f3 v3 u3 d3 B3 o3
        gi_wp2_with fail
        rw [hU4.out]
        clear hU4 m0 mf0
        obtain ⟨Y, hrun, hYL, hYw, hYs⟩ := end_go (P := Tryz.prog) (V := U4) (r := r) HST.out HPD.out L4
        have HLN : Hid ((ts ++ [t]).length = ts.length + 1) := by simp [Hid]
        refine ⟨_, Y, hrun, .inl ⟨rfl, HGO'.out.1, hlt, ⟨a2, c2, by rw [HLN.out]; exact k4.within hYw (by omega), (o4.within hYw (.inr (by omega))).widen (Nat.le_refl _) (by omega) (Nat.le_refl _)⟩, f4.within hYw (by omega), v4.within hYw (by omega), u4.within hYw (by omega), hYL, (hYw.block _ (Array.getElem?_eq_some_iff.1 d4).1 (by omega)).trans d4, B4.trans (hYw.below (by omega) (by omega)), by omega, Nat.le_refl _, by rw [HLN.out]; omega, by rw [HLN.out, List.map_append]; exact HGO'.out.2⟩⟩
       ·skip
        go_simp
        refine ⟨trivial, ?_⟩
        refine (CallsIn.inRound _ (callsIn_wide.2 (lsnAt_any (ts.length : Int) _ (by omega)))).mono ?_
        rintro e w' ⟨rfl, rfl⟩
        refine hK _ _ ?_
        clear hK K
        refine wpAnyIn_ready (rs := [5]) (by kernel_rfl) (by simp) ?_
        refine AllReadyIn.cons rfl (fun K hK => ?_) AllReadyIn.nil
        go_simp
        refine hK _ _ ?_
        clear hK K
        refine wpAnyIn_ready (rs := [9]) (by kernel_rfl) (by simp) ?_
        refine AllReadyIn.cons rfl (fun K hK => ?_) AllReadyIn.nil
        go_simp
        refine hK _ _ ?_
        clear hK K
        refine wpAnyIn_ready (rs := [10]) (by kernel_rfl) (by simp) ?_
        refine AllReadyIn.cons rfl (fun K hK => ?_) AllReadyIn.nil
        go_simp
        refine hK _ _ ?_
        clear hK K
        refine wpAnyIn_done (by kernel_rfl) ?_ _
        gi_upto_region 7 with fail
        obtain ⟨U, hU⟩ : ∃ U, Hid (V.drew = U) := ⟨_, rfl⟩
        have ND : Below V.heap.size V U := by rw [← hU.out]; exact (Below.refl _ _).drew
        have hUa : V.heap.size ≤ U.heap.size := ND.size
        have hUb : U.heap.size ≤ V.heap.size := by rw [← hU.out]; exact Nat.le_refl _
        rw [hU.out]
        clear hU
        have LU := (ND.block _ (Array.getElem?_eq_some_iff.1 hVL).1).trans hVL
        have kU := kV.below ND kV.lt
        have zU := zV.below ND zV.lt
        have fU := fV.below ND fV.lt
        have yU := yV.below ND yV.lt
        have uU := uV.below ND uV.lt
        have oU := oV.below ND
        have tU := tV.below ND
        have dU := (ND.block _ (Array.getElem?_eq_some_iff.1 dV).1).trans dV
        have BU := BV.trans (ND.mono BV.size)
        clear x0 z0 hVL kV zV fV yV uV oV tV dV BV ND
        have e0 := kU.cell 0 _ rfl
        have HRX : Hid (U.rangeAt X.heap.size 0 t.cells) := Box.range [] t.cells [] (by simpa using zU)
        obtain ⟨U1, hU1, y1, hb1, hs1⟩ := boxes1 U t.cells 42
        have hs1' := hb1.size
        have hs1'' := Nat.le_of_eq hs1
        clear hs1
        have R1 : Hid (U1.rangeAt U.heap.size 0 t.cells) := Box.range [] t.cells [] (by simpa using y1)
        have L1 := (hb1.block _ (Array.getElem?_eq_some_iff.1 LU).1).trans LU
        have k1 := kU.below hb1 kU.lt
        have f1 := fU.below hb1 fU.lt
        have v1 := yU.below hb1 yU.lt
        have u1 := uU.below hb1 uU.lt
        have o1 := oU.below hb1
        have t1 := tU.below hb1
        have d1 := (hb1.block _ (Array.getElem?_eq_some_iff.1 dU).1).trans dU
        have B1 := BU.trans (hb1.mono BU.size)
        have hll : ts.length + 1 ≤ 68719476736 := by omega
        have hBs := B1.size
        gi_wp2_with (first | (guard_target = wpListIn _ _ _ _ _ (Oper.mk (some 24) _ _ _ _ _ :: _) _ _; refine loadIn_mid rfl (fun _ => trivial) rfl 42 (.tmp 6) rfl X.heap.size 0 rfl t.cells _ HRX.out Tryz.underlying42 rfl HI.out ?_) | (guard_target = wpListIn _ _ _ _ _ (Oper.mk (some 25) _ _ _ _ _ :: _) _ _; refine build_recIn (fun _ => trivial) (.tmp 24) rfl t rfl ?_; rw [hU1.out]) | (guard_target = wpListIn _ _ _ _ _ (Oper.mk (some 26) _ _ _ _ _ :: _) _ _; refine append_recIn rfl (fun _ => trivial) rfl _ _ rfl W4.heap.size h a' c' ts rfl o1 U.heap.size 0 1 t rfl R1.out l u t1 (by omega) (by omega) hll (by omega) ?_) | fail)
        intro a2 c2 U2 o2 g2
        have hw2 : Within W4.heap.size h U1 U2 := Within.of_grown g2 (fun j hj => ⟨(OwnRs.row o1).lt j hj |>.1, OwnRs.blk o1 j hj⟩)
        have hs2 := hw2.size
        have L2 := (hw2.block _ (Array.getElem?_eq_some_iff.1 L1).1 (by omega)).trans L1
        have k2 := k1.within hw2 (by omega)
        have f2 := f1.within hw2 (by omega)
        have v2 := v1.within hw2 (by omega)
        have u2 := u1.within hw2 (by omega)
        have d2 := (hw2.block _ (Array.getElem?_eq_some_iff.1 d1).1 (by omega)).trans d1
        have B2 : Below w.heap.size w U2 := B1.trans (hw2.below (by omega) (by omega))
        clear hw2 g2 L1 LU k1 kU f1 fU v1 yU u1 uU o1 oU t1 tU d1 dU B1 BU R1 HRX e0 hb1 hU1 y1 zU
        have m0 := k2.cell 0 _ rfl
        have mf0 := k2.frozen 0
        obtain ⟨U3, hU3, k3, hw3, hs3⟩ := box_set k2 0 (.slice a2 (ts.length + 1) c2)
        simp only [List.set] at k3
        have hs3a := Nat.le_of_eq hs3
        have hs3b := Nat.le_of_eq hs3.symm
        clear hs3
        have L3 := (hw3.block _ (Array.getElem?_eq_some_iff.1 L2).1 (by omega)).trans L2
        have f3 := f2.within hw3 (by omega)
        have v3 := v2.within hw3 (by omega)
        have u3 := u2.within hw3 (by omega)
        have d3 := (hw3.block _ (Array.getElem?_eq_some_iff.1 d2).1 (by omega)).trans d2
        have B3 : Below w.heap.size w U3 := B2.trans (hw3.below (by omega) (by omega))
        have o3 := o2.within hw3 (.inr (by omega))
        clear hw3 L2 k2 f2 v2 u2 d2 B2 o2
        gi_upto_region 8 with fail
        rw [hU3.out]
        clear hU3 m0 mf0
        have m0 := f3.cell 0 _ rfl
        have mf0 := f3.frozen 0
        obtain ⟨U4, hU4, f4, hw4, hs4⟩ := box_set f3 0 (.int .i64 q)
        simp only [List.set] at f4
        have hs4a := Nat.le_of_eq hs4
        have hs4b := Nat.le_of_eq hs4.symm
        clear hs4
        have L4 := (hw4.block _ (Array.getElem?_eq_some_iff.1 L3).1 (by omega)).trans L3
        have k4 := k3.within hw4 (by omega)
        have v4 := v3.within hw4 (by omega)
        have u4 := u3.within hw4 (by omega)
        have d4 := (hw4.block _ (Array.getElem?_eq_some_iff.1 d3).1 (by omega)).trans d3
        have B4 : Below w.heap.size w U4 := B3.trans (hw4.below (by omega) (by omega))
        have o4 := o3.within hw4 (.inr (by omega))
        clear hw4 L3 k3 f3 v3 u3 d3 B3 o3
        gi_wp2_with fail
        rw [hU4.out]
        clear hU4 m0 mf0
        obtain ⟨Y, hrun, hYL, hYw, hYs⟩ := end_go (P := Tryz.prog) (V := U4) (r := r) HST.out HPD.out L4
        have HLN : Hid ((ts ++ [t]).length = ts.length + 1) := by simp [Hid]
        refine ⟨_, Y, hrun, .inl ⟨rfl, HGO'.out.1, hlt, ⟨a2, c2, by rw [HLN.out]; exact k4.within hYw (by omega), (o4.within hYw (.inr (by omega))).widen (Nat.le_refl _) (by omega) (Nat.le_refl _)⟩, f4.within hYw (by omega), v4.within hYw (by omega), u4.within hYw (by omega), hYL, (hYw.block _ (Array.getElem?_eq_some_iff.1 d4).1 (by omega)).trans d4, B4.trans (hYw.below (by omega) (by omega)), by omega, Nat.le_refl _, by rw [HLN.out]; omega, by rw [HLN.out, List.map_append]; exact HGO'.out.2⟩⟩
      ·skip
       go_simp
       refine ⟨trivial, ?_⟩
       refine (CallsIn.inRound _ (callsIn_wide.2 (lsnAt_any (ts.length : Int) _ (by omega)))).mono ?_
       rintro e w' ⟨rfl, rfl⟩
       refine hK _ _ ?_
       clear hK K
       refine wpAnyIn_ready (rs := [4]) (by kernel_rfl) (by simp) ?_
       refine AllReadyIn.cons rfl (fun K hK => ?_) AllReadyIn.nil
       go_simp
       refine hK _ _ ?_
       clear hK K
       refine wpAnyIn_ready (rs := [5]) (by kernel_rfl) (by simp) ?_
       refine AllReadyIn.cons rfl (fun K hK => ?_) AllReadyIn.nil
       go_simp
       refine hK _ _ ?_
       clear hK K
       refine wpAnyIn_ready (rs := [9]) (by kernel_rfl) (by simp) ?_
       refine AllReadyIn.cons rfl (fun K hK => ?_) AllReadyIn.nil
       go_simp
       refine hK _ _ ?_
       clear hK K
       refine wpAnyIn_ready (rs := [10]) (by kernel_rfl) (by simp) ?_
       refine AllReadyIn.cons rfl (fun K hK => ?_) AllReadyIn.nil
       go_simp
       refine hK _ _ ?_
       clear hK K
       refine wpAnyIn_done (by kernel_rfl) ?_ _
       gi_upto_region 7 with fail
       obtain ⟨U, hU⟩ : ∃ U, Hid (V.drew = U) := ⟨_, rfl⟩
       have ND : Below V.heap.size V U := by rw [← hU.out]; exact (Below.refl _ _).drew
       have hUa : V.heap.size ≤ U.heap.size := ND.size
       have hUb : U.heap.size ≤ V.heap.size := by rw [← hU.out]; exact Nat.le_refl _
       rw [hU.out]
       clear hU
       have LU := (ND.block _ (Array.getElem?_eq_some_iff.1 hVL).1).trans hVL
       have kU := kV.below ND kV.lt
       have zU := zV.below ND zV.lt
       have fU := fV.below ND fV.lt
       have yU := yV.below ND yV.lt
       have uU := uV.below ND uV.lt
       have oU := oV.below ND
       have tU := tV.below ND
       have dU := (ND.block _ (Array.getElem?_eq_some_iff.1 dV).1).trans dV
       have BU := BV.trans (ND.mono BV.size)
       clear x0 z0 hVL kV zV fV yV uV oV tV dV BV ND
       have e0 := kU.cell 0 _ rfl
       have HRX : Hid (U.rangeAt X.heap.size 0 t.cells) := Box.range [] t.cells [] (by simpa using zU)
       obtain ⟨U1, hU1, y1, hb1, hs1⟩ := boxes1 U t.cells 42
       have hs1' := hb1.size
       have hs1'' := Nat.le_of_eq hs1
       clear hs1
       have R1 : Hid (U1.rangeAt U.heap.size 0 t.cells) := Box.range [] t.cells [] (by simpa using y1)
       have L1 := (hb1.block _ (Array.getElem?_eq_some_iff.1 LU).1).trans LU
       have k1 := kU.below hb1 kU.lt
       have f1 := fU.below hb1 fU.lt
       have v1 := yU.below hb1 yU.lt
       have u1 := uU.below hb1 uU.lt
       have o1 := oU.below hb1
       have t1 := tU.below hb1
       have d1 := (hb1.block _ (Array.getElem?_eq_some_iff.1 dU).1).trans dU
       have B1 := BU.trans (hb1.mono BU.size)
       have hll : ts.length + 1 ≤ 68719476736 := by omega
       have hBs := B1.size
       gi_wp2_with (first | (guard_target = wpListIn _ _ _ _ _ (Oper.mk (some 24) _ _ _ _ _ :: _) _ _; refine loadIn_mid rfl (fun _ => trivial) rfl 42 (.tmp 6) rfl X.heap.size 0 rfl t.cells _ HRX.out Tryz.underlying42 rfl HI.out ?_) | (guard_target = wpListIn _ _ _ _ _ (Oper.mk (some 25) _ _ _ _ _ :: _) _ _; refine build_recIn (fun _ => trivial) (.tmp 24) rfl t rfl ?_; rw [hU1.out]) | (guard_target = wpListIn _ _ _ _ _ (Oper.mk (some 26) _ _ _ _ _ :: _) _ _; refine append_recIn rfl (fun _ => trivial) rfl _ _ rfl W4.heap.size h a' c' ts rfl o1 U.heap.size 0 1 t rfl R1.out l u t1 (by omega) (by omega) hll (by omega) ?_) | fail)
       intro a2 c2 U2 o2 g2
       have hw2 : Within W4.heap.size h U1 U2 := Within.of_grown g2 (fun j hj => ⟨(OwnRs.row o1).lt j hj |>.1, OwnRs.blk o1 j hj⟩)
       have hs2 := hw2.size
       have L2 := (hw2.block _ (Array.getElem?_eq_some_iff.1 L1).1 (by omega)).trans L1
       have k2 := k1.within hw2 (by omega)
       have f2 := f1.within hw2 (by omega)
       have v2 := v1.within hw2 (by omega)
       have u2 := u1.within hw2 (by omega)
       have d2 := (hw2.block _ (Array.getElem?_eq_some_iff.1 d1).1 (by omega)).trans d1
       have B2 : Below w.heap.size w U2 := B1.trans (hw2.below (by omega) (by omega))
       clear hw2 g2 L1 LU k1 kU f1 fU v1 yU u1 uU o1 oU t1 tU d1 dU B1 BU R1 HRX e0 hb1 hU1 y1 zU
       have m0 := k2.cell 0 _ rfl
       have mf0 := k2.frozen 0
       obtain ⟨U3, hU3, k3, hw3, hs3⟩ := box_set k2 0 (.slice a2 (ts.length + 1) c2)
       simp only [List.set] at k3
       have hs3a := Nat.le_of_eq hs3
       have hs3b := Nat.le_of_eq hs3.symm
       clear hs3
       have L3 := (hw3.block _ (Array.getElem?_eq_some_iff.1 L2).1 (by omega)).trans L2
       have f3 := f2.within hw3 (by omega)
       have v3 := v2.within hw3 (by omega)
       have u3 := u2.within hw3 (by omega)
       have d3 := (hw3.block _ (Array.getElem?_eq_some_iff.1 d2).1 (by omega)).trans d2
       have B3 : Below w.heap.size w U3 := B2.trans (hw3.below (by omega) (by omega))
       have o3 := o2.within hw3 (.inr (by omega))
       clear hw3 L2 k2 f2 v2 u2 d2 B2 o2
       gi_upto_region 8 with fail
       rw [hU3.out]
       clear hU3 m0 mf0
       have m0 := f3.cell 0 _ rfl
       have mf0 := f3.frozen 0
       obtain ⟨U4, hU4, f4, hw4, hs4⟩ := box_set f3 0 (.int .i64 q)
       simp only [List.set] at f4
       have hs4a := Nat.le_of_eq hs4
       have hs4b := Nat.le_of_eq hs4.symm
       clear hs4
       have L4 := (hw4.block _ (Array.getElem?_eq_some_iff.1 L3).1 (by omega)).trans L3
       have k4 := k3.within hw4 (by omega)
       have v4 := v3.within hw4 (by omega)
       have u4 := u3.within hw4 (by omega)
       have d4 := (hw4.block _ (Array.getElem?_eq_some_iff.1 d3).1 (by omega)).trans d3
       have B4 : Below w.heap.size w U4 := B3.trans (hw4.below (by omega) (by omega))
       have o4 := o3.within hw4 (.inr (by omega))
       clear hw4 L3 k3 f3 v3 u3 d3 B3 o3
       gi_wp2_with fail
       rw [hU4.out]
       clear hU4 m0 mf0
       obtain ⟨Y, hrun, hYL, hYw, hYs⟩ := end_go (P := Tryz.prog) (V := U4) (r := r) HST.out HPD.out L4
       have HLN : Hid ((ts ++ [t]).length = ts.length + 1) := by simp [Hid]
       refine ⟨_, Y, hrun, .inl ⟨rfl, HGO'.out.1, hlt, ⟨a2, c2, by rw [HLN.out]; exact k4.within hYw (by omega), (o4.within hYw (.inr (by omega))).widen (Nat.le_refl _) (by omega) (Nat.le_refl _)⟩, f4.within hYw (by omega), v4.within hYw (by omega), u4.within hYw (by omega), hYL, (hYw.block _ (Array.getElem?_eq_some_iff.1 d4).1 (by omega)).trans d4, B4.trans (hYw.below (by omega) (by omega)), by omega, Nat.le_refl _, by rw [HLN.out]; omega, by rw [HLN.out, List.map_append]; exact HGO'.out.2⟩⟩
 ·rintro e W5 ⟨⟨v, rfl⟩, ts, p, a', c', h, k5, o5, f5, u5, L5, D5, B5, hlo5, HE5⟩
  have HE : Hid (readLogOf zs = (ts.map RecA.v, p)) := HE5
  clear HE5
  obtain ⟨W6, hW6⟩ : ∃ W6, Hid (W5.putObj (w.heap.size + 1 + 1 + 1 + 1 + 1) (.loop { r with state := .exhausted, pending := some (.exit 0) }) = W6) := ⟨_, rfl⟩
  have hw6 : Within (w.heap.size + 1 + 1 + 1 + 1 + 1) (w.heap.size + 1 + 1 + 1 + 1 + 1 + 1) W5 W6 := by rw [← hW6.out]; exact (within_putObj _ _ _).1
  have hs6 := hw6.size
  have hs5 := B5.size
  have hrun6 : (Instr.endLoop (w.heap.size + 1 + 1 + 1 + 1 + 1)).run Tryz.prog W5 = .ok (some (.exit 0)) W6 := by rw [← hW6.out]; exact run_endLoop L5 (by simp)
  refine ⟨some (.exit 0), W6, hrun6, ?_⟩
  clear hrun6 hW6 L5
  have k6 := k5.within hw6 (by omega)
  have f6 := f5.within hw6 (by omega)
  have u6 := u5.within hw6 (by omega)
  have o6 := o5.within hw6 (.inr (by omega))
  have d6 := (hw6.block _ (Array.getElem?_eq_some_iff.1 D5).1 (by omega)).trans D5
  have B6 : Below w.heap.size w W6 := B5.trans (hw6.below (by omega) (by omega))
  clear k5 o5 f5 u5 D5 B5 hw6
  show (Code.exit 0).wpIn _ _ _ _ _ _
  gi_wp2_with fail
  have x6 := k6.cell 0 _ rfl
  have y6 := f6.cell 0 _ rfl
  have hlo7 := hlo6
  refine wpIn_region_any (by kernel_rfl) ?_
  refine wpAnyIn_ready (rs := [0, 2]) (by kernel_rfl) (by simp) ?_
  refine AllReadyIn.cons rfl (fun K hK => ?_) (AllReadyIn.cons rfl (fun K hK => ?_) AllReadyIn.nil)
  ·skip
   go_simp
   refine hK _ _ ?_
   clear hK K
   refine wpAnyIn_ready (rs := [1, 2]) (by kernel_rfl) (by simp) ?_
   refine AllReadyIn.cons rfl (fun K hK => ?_) (AllReadyIn.cons rfl (fun K hK => ?_) AllReadyIn.nil)
   ·skip
    go_simp
    refine ⟨trivial, ?_⟩
    refine (callsIn_wide.2 (sureLog_any a' c' ts.length _)).mono ?_
    rintro e w7 ⟨rfl, hb7⟩
    have ND : Below W6.heap.size W6 w7 := ((Below.refl _ _).drew).trans hb7
    have hs7 := ND.size
    have f7 := f6.below ND f6.lt
    have u7 := u6.below ND u6.lt
    have o7 := o6.below ND
    have d7 := (ND.block _ (Array.getElem?_eq_some_iff.1 d6).1).trans d6
    have B7 := B6.trans (ND.mono B6.size)
    have y7 := f7.cell 0 _ rfl
    clear x6 y6 k6 f6 u6 o6 d6 B6 hb7 ND
    refine hK _ _ ?_
    clear hK K
    refine wpAnyIn_ready (rs := [2, 3]) (by kernel_rfl) (by simp) ?_
    refine AllReadyIn.cons rfl (fun K hK => ?_) (AllReadyIn.cons rfl (fun K hK => ?_) AllReadyIn.nil)
    ·skip
     go_simp
     refine hK _ _ ?_
     clear hK K
     refine wpAnyIn_ready (rs := [3]) (by kernel_rfl) (by simp) ?_
     refine AllReadyIn.cons rfl (fun K hK => ?_) AllReadyIn.nil
     have m0 := u7.cell 0 _ rfl
     have m1 := u7.cell 1 _ rfl
     have mf0 := u7.frozen 0
     have mf1 := u7.frozen 1
     obtain ⟨WF, hWF, bF, hwF, hsF⟩ := box2_fill u7 (.slice a' ts.length c') (.int .i64 ts.length)
     have q0 := bF.cell 0 _ rfl
     have q1 := bF.cell 1 _ rfl
     have hsa := Nat.le_of_eq hsF
     have hsb := Nat.le_of_eq hsF.symm
     clear hsF
     have f8 := f7.within hwF (by omega)
     have o8 := o7.within hwF (.inr (by omega))
     have d8 := (hwF.block _ (Array.getElem?_eq_some_iff.1 d7).1 (by omega)).trans d7
     have B8 : Below w.heap.size w WF := B7.trans (hwF.below (by omega) (by omega))
     clear f7 u7 o7 d7 B7 hwF
     go_simp
     rw [hWF.out]
     clear hWF m0 m1 mf0 mf1 y7
     have y8 := f8.cell 0 _ rfl
     refine hK _ _ ?_
     clear hK K
     refine wpAnyIn_ready (rs := [4]) (by kernel_rfl) (by simp) ?_
     refine AllReadyIn.cons rfl (fun K hK => ?_) AllReadyIn.nil
     go_simp
     refine hK _ _ ?_
     clear hK K
     refine wpAnyIn_done (by kernel_rfl) ?_ _
     gi_wp2_with fail
     obtain ⟨Y, hY⟩ : ∃ Y, Hid (WF.putObj (w.heap.size + 1 + 1 + 1 + 1) (.deferred none) = Y) := ⟨_, rfl⟩
     have hYw : Within (w.heap.size + 1 + 1 + 1 + 1) (w.heap.size + 1 + 1 + 1 + 1 + 1) WF Y := by rw [← hY.out]; exact (within_putObj _ _ _).1
     have hYs := hYw.size
     have bY := bF.within hYw (by omega)
     have r0 := bY.cell 0 _ rfl
     have r1 := bY.cell 1 _ rfl
     have oY := (o8.within hYw (.inr (by omega))).widen (show w.heap.size ≤ W4.heap.size by omega) (show h ≤ Y.heap.size by have := o8.top; omega) (Nat.le_refl _)
     have BY : Below w.heap.size w Y := B8.trans (hYw.below (by omega) (by have := B8.size; omega))
     have HG : Hid (LogGot w Y zs (.returned (.tuple #[.agg (LogA.cells ⟨ts, (ts.length : Int), a', c'⟩).toArray, .int .i64 p]))) := ⟨⟨ts, (ts.length : Int), a', c'⟩, by rw [HE.out], by rw [Hid, HE.out]; simp [LogA.v], oY, BY⟩
     refine ⟨by simp, .inl ⟨_, _, rfl, run_takeDeferred d8, ?_⟩⟩
     rw [hY.out]
     exact ⟨.tuple #[.agg #[.slice a' ts.length c', .int .i64 ts.length], .int .i64 p], by simp [results, Tryz.results11, go_sem, r0, r1], HG.out⟩
    ·skip
     have m0 := u7.cell 0 _ rfl
     have m1 := u7.cell 1 _ rfl
     have mf0 := u7.frozen 0
     have mf1 := u7.frozen 1
     obtain ⟨WF, hWF, bF, hwF, hsF⟩ := box2_fill u7 (.slice a' ts.length c') (.int .i64 ts.length)
     have q0 := bF.cell 0 _ rfl
     have q1 := bF.cell 1 _ rfl
     have hsa := Nat.le_of_eq hsF
     have hsb := Nat.le_of_eq hsF.symm
     clear hsF
     have f8 := f7.within hwF (by omega)
     have o8 := o7.within hwF (.inr (by omega))
     have d8 := (hwF.block _ (Array.getElem?_eq_some_iff.1 d7).1 (by omega)).trans d7
     have B8 : Below w.heap.size w WF := B7.trans (hwF.below (by omega) (by omega))
     clear f7 u7 o7 d7 B7 hwF
     go_simp
     rw [hWF.out]
     clear hWF m0 m1 mf0 mf1 y7
     have y8 := f8.cell 0 _ rfl
     refine hK _ _ ?_
     clear hK K
     refine wpAnyIn_ready (rs := [2]) (by kernel_rfl) (by simp) ?_
     refine AllReadyIn.cons rfl (fun K hK => ?_) AllReadyIn.nil
     go_simp
     refine hK _ _ ?_
     clear hK K
     refine wpAnyIn_ready (rs := [4]) (by kernel_rfl) (by simp) ?_
     refine AllReadyIn.cons rfl (fun K hK => ?_) AllReadyIn.nil
     go_simp
     refine hK _ _ ?_
     clear hK K
     refine wpAnyIn_done (by kernel_rfl) ?_ _
     gi_wp2_with fail
     obtain ⟨Y, hY⟩ : ∃ Y, Hid (WF.putObj (w.heap.size + 1 + 1 + 1 + 1) (.deferred none) = Y) := ⟨_, rfl⟩
     have hYw : Within (w.heap.size + 1 + 1 + 1 + 1) (w.heap.size + 1 + 1 + 1 + 1 + 1) WF Y := by rw [← hY.out]; exact (within_putObj _ _ _).1
     have hYs := hYw.size
     have bY := bF.within hYw (by omega)
     have r0 := bY.cell 0 _ rfl
     have r1 := bY.cell 1 _ rfl
     have oY := (o8.within hYw (.inr (by omega))).widen (show w.heap.size ≤ W4.heap.size by omega) (show h ≤ Y.heap.size by have := o8.top; omega) (Nat.le_refl _)
     have BY : Below w.heap.size w Y := B8.trans (hYw.below (by omega) (by have := B8.size; omega))
     have HG : Hid (LogGot w Y zs (.returned (.tuple #[.agg (LogA.cells ⟨ts, (ts.length : Int), a', c'⟩).toArray, .int .i64 p]))) := ⟨⟨ts, (ts.length : Int), a', c'⟩, by rw [HE.out], by rw [Hid, HE.out]; simp [LogA.v], oY, BY⟩
     refine ⟨by simp, .inl ⟨_, _, rfl, run_takeDeferred d8, ?_⟩⟩
     rw [hY.out]
     exact ⟨.tuple #[.agg #[.slice a' ts.length c', .int .i64 ts.length], .int .i64 p], by simp [results, Tryz.results11, go_sem, r0, r1], HG.out⟩
   ·skip
    go_simp
    refine hK _ _ ?_
    clear hK K
    refine wpAnyIn_ready (rs := [1]) (by kernel_rfl) (by simp) ?_
    refine AllReadyIn.cons rfl (fun K hK => ?_) AllReadyIn.nil
    go_simp
    refine ⟨trivial, ?_⟩
    refine (callsIn_wide.2 (sureLog_any a' c' ts.length _)).mono ?_
    rintro e w7 ⟨rfl, hb7⟩
    have ND : Below W6.heap.size W6 w7 := ((Below.refl _ _).drew).trans hb7
    have hs7 := ND.size
    have f7 := f6.below ND f6.lt
    have u7 := u6.below ND u6.lt
    have o7 := o6.below ND
    have d7 := (ND.block _ (Array.getElem?_eq_some_iff.1 d6).1).trans d6
    have B7 := B6.trans (ND.mono B6.size)
    have y7 := f7.cell 0 _ rfl
    clear x6 y6 k6 f6 u6 o6 d6 B6 hb7 ND
    refine hK _ _ ?_
    clear hK K
    refine wpAnyIn_ready (rs := [3]) (by kernel_rfl) (by simp) ?_
    refine AllReadyIn.cons rfl (fun K hK => ?_) AllReadyIn.nil
    have m0 := u7.cell 0 _ rfl
    have m1 := u7.cell 1 _ rfl
    have mf0 := u7.frozen 0
    have mf1 := u7.frozen 1
    obtain ⟨WF, hWF, bF, hwF, hsF⟩ := box2_fill u7 (.slice a' ts.length c') (.int .i64 ts.length)
    have q0 := bF.cell 0 _ rfl
    have q1 := bF.cell 1 _ rfl
    have hsa := Nat.le_of_eq hsF
    have hsb := Nat.le_of_eq hsF.symm
    clear hsF
    have f8 := f7.within hwF (by omega)
    have o8 := o7.within hwF (.inr (by omega))
    have d8 := (hwF.block _ (Array.getElem?_eq_some_iff.1 d7).1 (by omega)).trans d7
    have B8 : Below w.heap.size w WF := B7.trans (hwF.below (by omega) (by omega))
    clear f7 u7 o7 d7 B7 hwF
    go_simp
    rw [hWF.out]
    clear hWF m0 m1 mf0 mf1 y7
    have y8 := f8.cell 0 _ rfl
    refine hK _ _ ?_
    clear hK K
    refine wpAnyIn_ready (rs := [4]) (by kernel_rfl) (by simp) ?_
    refine AllReadyIn.cons rfl (fun K hK => ?_) AllReadyIn.nil
    go_simp
    refine hK _ _ ?_
    clear hK K
    refine wpAnyIn_done (by kernel_rfl) ?_ _
    gi_wp2_with fail
    obtain ⟨Y, hY⟩ : ∃ Y, Hid (WF.putObj (w.heap.size + 1 + 1 + 1 + 1) (.deferred none) = Y) := ⟨_, rfl⟩
    have hYw : Within (w.heap.size + 1 + 1 + 1 + 1) (w.heap.size + 1 + 1 + 1 + 1 + 1) WF Y := by rw [← hY.out]; exact (within_putObj _ _ _).1
    have hYs := hYw.size
    have bY := bF.within hYw (by omega)
    have r0 := bY.cell 0 _ rfl
    have r1 := bY.cell 1 _ rfl
    have oY := (o8.within hYw (.inr (by omega))).widen (show w.heap.size ≤ W4.heap.size by omega) (show h ≤ Y.heap.size by have := o8.top; omega) (Nat.le_refl _)
    have BY : Below w.heap.size w Y := B8.trans (hYw.below (by omega) (by have := B8.size; omega))
    have HG : Hid (LogGot w Y zs (.returned (.tuple #[.agg (LogA.cells ⟨ts, (ts.length : Int), a', c'⟩).toArray, .int .i64 p]))) := ⟨⟨ts, (ts.length : Int), a', c'⟩, by rw [HE.out], by rw [Hid, HE.out]; simp [LogA.v], oY, BY⟩
    refine ⟨by simp, .inl ⟨_, _, rfl, run_takeDeferred d8, ?_⟩⟩
    rw [hY.out]
    exact ⟨.tuple #[.agg #[.slice a' ts.length c', .int .i64 ts.length], .int .i64 p], by simp [results, Tryz.results11, go_sem, r0, r1], HG.out⟩
  ·skip
   go_simp
   refine hK _ _ ?_
   clear hK K
   refine wpAnyIn_ready (rs := [0]) (by kernel_rfl) (by simp) ?_
   refine AllReadyIn.cons rfl (fun K hK => ?_) AllReadyIn.nil
   go_simp
   refine hK _ _ ?_
   clear hK K
   refine wpAnyIn_ready (rs := [1]) (by kernel_rfl) (by simp) ?_
   refine AllReadyIn.cons rfl (fun K hK => ?_) AllReadyIn.nil
   go_simp
   refine ⟨trivial, ?_⟩
   refine (callsIn_wide.2 (sureLog_any a' c' ts.length _)).mono ?_
   rintro e w7 ⟨rfl, hb7⟩
   have ND : Below W6.heap.size W6 w7 := ((Below.refl _ _).drew).trans hb7
   have hs7 := ND.size
   have f7 := f6.below ND f6.lt
   have u7 := u6.below ND u6.lt
   have o7 := o6.below ND
   have d7 := (ND.block _ (Array.getElem?_eq_some_iff.1 d6).1).trans d6
   have B7 := B6.trans (ND.mono B6.size)
   have y7 := f7.cell 0 _ rfl
   clear x6 y6 k6 f6 u6 o6 d6 B6 hb7 ND
   refine hK _ _ ?_
   clear hK K
   refine wpAnyIn_ready (rs := [3]) (by kernel_rfl) (by simp) ?_
   refine AllReadyIn.cons rfl (fun K hK => ?_) AllReadyIn.nil
   have m0 := u7.cell 0 _ rfl
   have m1 := u7.cell 1 _ rfl
   have mf0 := u7.frozen 0
   have mf1 := u7.frozen 1
   obtain ⟨WF, hWF, bF, hwF, hsF⟩ := box2_fill u7 (.slice a' ts.length c') (.int .i64 ts.length)
   have q0 := bF.cell 0 _ rfl
   have q1 := bF.cell 1 _ rfl
   have hsa := Nat.le_of_eq hsF
   have hsb := Nat.le_of_eq hsF.symm
   clear hsF
   have f8 := f7.within hwF (by omega)
   have o8 := o7.within hwF (.inr (by omega))
   have d8 := (hwF.block _ (Array.getElem?_eq_some_iff.1 d7).1 (by omega)).trans d7
   have B8 : Below w.heap.size w WF := B7.trans (hwF.below (by omega) (by omega))
   clear f7 u7 o7 d7 B7 hwF
   go_simp
   rw [hWF.out]
   clear hWF m0 m1 mf0 mf1 y7
   have y8 := f8.cell 0 _ rfl
   refine hK _ _ ?_
   clear hK K
   refine wpAnyIn_ready (rs := [4]) (by kernel_rfl) (by simp) ?_
   refine AllReadyIn.cons rfl (fun K hK => ?_) AllReadyIn.nil
   go_simp
   refine hK _ _ ?_
   clear hK K
   refine wpAnyIn_done (by kernel_rfl) ?_ _
   gi_wp2_with fail
   obtain ⟨Y, hY⟩ : ∃ Y, Hid (WF.putObj (w.heap.size + 1 + 1 + 1 + 1) (.deferred none) = Y) := ⟨_, rfl⟩
   have hYw : Within (w.heap.size + 1 + 1 + 1 + 1) (w.heap.size + 1 + 1 + 1 + 1 + 1) WF Y := by rw [← hY.out]; exact (within_putObj _ _ _).1
   have hYs := hYw.size
   have bY := bF.within hYw (by omega)
   have r0 := bY.cell 0 _ rfl
   have r1 := bY.cell 1 _ rfl
   have oY := (o8.within hYw (.inr (by omega))).widen (show w.heap.size ≤ W4.heap.size by omega) (show h ≤ Y.heap.size by have := o8.top; omega) (Nat.le_refl _)
   have BY : Below w.heap.size w Y := B8.trans (hYw.below (by omega) (by have := B8.size; omega))
   have HG : Hid (LogGot w Y zs (.returned (.tuple #[.agg (LogA.cells ⟨ts, (ts.length : Int), a', c'⟩).toArray, .int .i64 p]))) := ⟨⟨ts, (ts.length : Int), a', c'⟩, by rw [HE.out], by rw [Hid, HE.out]; simp [LogA.v], oY, BY⟩
   refine ⟨by simp, .inl ⟨_, _, rfl, run_takeDeferred d8, ?_⟩⟩
   rw [hY.out]
   exact ⟨.tuple #[.agg #[.slice a' ts.length c', .int .i64 ts.length], .int .i64 p], by simp [results, Tryz.results11, go_sem, r0, r1], HG.out⟩
end Go.Proofs.YtickiokdcbeefaaGreatDoor