/- Several texts in one, in their order. -/
import Derived.Test.YtgnkplbefclpgaaPSchedNewx15
import Derived.Test.YtgnkplbefclpgaaPSchedNewx4
import Derived.Test.YtgnkplbefclpgaaPSchedNewx10
import Derived.Deep.QuietTactic
import Derived.Test.YtgnkplbefclpgaaPSchedNewx1
set_option maxHeartbeats 8000000
set_option maxRecDepth 100000
namespace Go.Proofs.Ytgnkplbefclpgaa
open Go.RowKit
theorem l10Op_any (o : OpV) (w : World) :
  Calls Try.prog 33 #[.agg #[.int .i64 o.kd, .int .i64 o.oid, .int .i64 o.num]] w fun e w' => e = .returned (.bool (opB o)) ∧ Below w.heap.size w w' := by
 obtain ⟨x, y, z⟩ := o
 obtain ⟨W, hW, b0, hbW, hsW⟩ := boxes1 w [.int .i64 x, .int .i64 y, .int .i64 z] 73
 obtain ⟨q0, q1, q2, _⟩ := b0.three
 have C1 := l1In_any x 1 3 W
 have C2 := l1In_any y 1 31 W
 have C3 := l1In_any z (-1000) 1000 W
 have HB : Hid (opB ⟨x, y, z⟩ = if x = 4 then (y == 0 && z == 0) else (inB x 1 3 && (inB y 1 31 && inB z (-1000) 1000))) := rfl
 generalize opB ⟨x, y, z⟩ = R at *
 simp only
 clear b0 hsW
 by_cases h4 : x = 4
 ·have hR : R = (y == 0 && z == 0) := by rw [HB.out, if_pos h4]
  clear HB C1 C2 C3
  subst h4
  by_cases hy : y = 0
  ·subst hy
   by_cases hz : z = 0
   ·subst hz
    go_enter Try.func33, Try.ntmps33
    go_wp2
    rw [hW.out]
    go_ret
    exact ⟨ret_bool (by rw [hR]; rfl), hbW⟩
   ·have kz : (z == 0) = false := by simpa using hz
    have HR : Hid (R = false) := by rw [Hid, hR, kz]; rfl
    clear hR
    go_enter Try.func33, Try.ntmps33
    go_wp2
    rw [hW.out]
    go_ret
    exact ⟨ret_bool HR.out.symm, hbW⟩
  ·have ky : (y == 0) = false := by simpa using hy
   have HR : Hid (R = false) := by rw [Hid, hR, ky]; rfl
   clear hR
   go_enter Try.func33, Try.ntmps33
   go_wp2
   rw [hW.out]
   go_ret
   exact ⟨ret_bool HR.out.symm, hbW⟩
 have hR : R = (inB x 1 3 && (inB y 1 31 && inB z (-1000) 1000)) := by rw [HB.out, if_neg h4]
 have e4 : (x == 4) = false := by simpa using h4
 clear HB h4
 generalize inB x 1 3 = x1 at *
 generalize inB y 1 31 = x2 at *
 generalize inB z (-1000) 1000 = x3 at *
 cases x1
 ·go_enter Try.func33, Try.ntmps33
  go_wp2_with fail
  rw [hW.out]
  refine C1.mono ?_
  rintro e w' ⟨rfl, rfl⟩
  go_wp2
  go_ret
  exact ⟨ret_bool (by rw [hR]; rfl), hbW⟩
 cases x2
 ·go_enter Try.func33, Try.ntmps33
  go_wp2_with fail
  rw [hW.out]
  refine C1.mono ?_
  rintro e w' ⟨rfl, rfl⟩
  go_wp2_with fail
  refine C2.mono ?_
  rintro e w' ⟨rfl, rfl⟩
  go_wp2
  go_ret
  exact ⟨ret_bool (by rw [hR]; rfl), hbW⟩
 ·go_enter Try.func33, Try.ntmps33
  go_wp2_with fail
  rw [hW.out]
  refine C1.mono ?_
  rintro e w' ⟨rfl, rfl⟩
  go_wp2_with fail
  refine C2.mono ?_
  rintro e w' ⟨rfl, rfl⟩
  go_wp2_with fail
  refine C3.mono ?_
  rintro e w' ⟨rfl, rfl⟩
  go_wp2
  go_ret
  exact ⟨ret_bool (by rw [hR]; rfl), hbW⟩
theorem specJobsOk_any (a : Option Addr) (c : Nat) (js : List JobA) (w : World) (hr : ReadsJ w a js) (hl : JobsShort js 1099511627776) :
  Calls Try.prog 14 #[.slice a js.length c] w fun e w' => e = .returned (.bool (jobsB (opsJ js))) ∧ Below w.heap.size w w' := by
 obtain ⟨hl1, hl2⟩ := hl
 have HC : Hid (∀ u, Below w.heap.size w u → ∀ k, k < js.length → ∃ b off, a = some ⟨b, off, none⟩ ∧ u.cell? ⟨b, off + k, none⟩ = some (js.getD k zeroJ).cell ∧ ReadsQ u (js.getD k zeroJ).a (js.getD k zeroJ).ops ∧ (js.getD k zeroJ).ops.length ≤ 1099511627776) := fun u hu k hk => by
  obtain ⟨b, off, ha, hc⟩ := (hr.below hu) (by intro e; rw [e] at hk; simp at hk)
  exact ⟨b, off, ha, (hc k hk).1, (hc k hk).2, hl2 _ (jobD_mem js k hk)⟩
 have HL : (opsJ js).length = js.length := opsJ_len js
 have HLONG : Hid (¬ js.length ≤ 4 → jobsB (opsJ js) = false) := fun h => jobsB_long (by omega)
 have HHIT : Hid (∀ k, k < js.length → opsB (js.getD k zeroJ).ops = false → jobsB (opsJ js) = false) := fun k hk h => jobsB_hit (k := k) (by omega) (by rw [opsJ_at]; exact h)
 have HSTEP : Hid (∀ k, k < js.length → ((opsJ js).take k).all opsB = true → opsB (js.getD k zeroJ).ops = true → ((opsJ js).take (k + 1)).all opsB = true) := fun k hk h h1 => all_step (z := []) (by omega) h (by rw [opsJ_at]; exact h1)
 have HEND : Hid (∀ k, ¬ k < js.length → ((opsJ js).take k).all opsB = true → js.length ≤ 4 → jobsB (opsJ js) = true) := fun k hk h h4 => jobsB_end (k := k) (by omega) h (by omega)
 clear hr hl2 HL
 generalize jobsB (opsJ js) = R at *
 generalize opsJ js = L at *
 by_cases h4 : js.length ≤ 4
 case neg =>
  have HR : Hid (R = false) := HLONG.out h4
  clear HC HHIT HSTEP HEND HLONG
  go_enter Try.func14, Try.ntmps14
  go_wp2
  go_ret
  exact ⟨ret_bool HR.out.symm, Below.refl _ _⟩
 clear HLONG
 have H4 : Hid (js.length ≤ 4) := h4
 go_enter Try.func14, Try.ntmps14
 go_wp2
 clear h4
 go_loopw [3] (fun i wr => ∃ k : Nat, k ≤ js.length ∧ i = .int .i64 k ∧ Hid ((L.take k).all opsB = true) ∧ Below w.heap.size w wr) (fun i _ => js.length - (intOf i).toNat)
 case atStart => exact ⟨0, Nat.zero_le _, rfl, (show (L.take 0).all opsB = true by simp), Below.refl _ _⟩
 case round =>
  obtain ⟨k, hk, rfl, hall, hbl⟩ := hrel
  by_cases hlt : k < js.length
  ·obtain ⟨b, off, rfl, c0, hrz, hlz⟩ := HC.out wr hbl k hlt
   have HH1 : Hid (opsB (js.getD k zeroJ).ops = false → R = false) := fun h => HHIT.out k hlt h
   have HH2 : Hid (opsB (js.getD k zeroJ).ops = true → (L.take (k + 1)).all opsB = true) := fun h => HSTEP.out k hlt hall.out h
   have HCZ : Hid (∀ u, Below w.heap.size w u → u.cell? ⟨b, off + k, none⟩ = some (js.getD k zeroJ).cell ∧ ReadsQ u (js.getD k zeroJ).a (js.getD k zeroJ).ops) := fun u hu => by
    obtain ⟨b', off', ha, h1, h2, _⟩ := HC.out u hu k hlt
    cases ha
    exact ⟨h1, h2⟩
   clear HC HHIT HSTEP HEND hall hrz
   generalize js.getD k zeroJ = z at *
   simp only [JobA.cell] at c0 HCZ
   by_cases h6 : z.ops.length ≤ 6
   case neg =>
    have HR : Hid (R = false) := HH1.out (opsB_long h6)
    clear HH1 HH2 HCZ
    go_wp2
    go_ret
    exact ⟨ret_bool HR.out.symm, hbl⟩
   have HQ1 : Hid (∀ m, m < z.ops.length → opB (z.ops.getD m zeroQ) = false → R = false) := fun m hm h => HH1.out (opsB_hit hm h)
   have HQ2 : Hid (∀ m, m < z.ops.length → (z.ops.take m).all opB = true → opB (z.ops.getD m zeroQ) = true → (z.ops.take (m + 1)).all opB = true) := fun m hm h h1 => all_step hm h h1
   have HQ3 : Hid (∀ m, ¬ m < z.ops.length → (z.ops.take m).all opB = true → (L.take (k + 1)).all opsB = true) := fun m hm h => HH2.out (opsB_end hm h h6)
   have HQC : Hid (∀ u, Below w.heap.size w u → ∀ m, m < z.ops.length → ∃ b2 o2, z.a = some ⟨b2, o2, none⟩ ∧ u.cell? ⟨b2, o2 + m * 3, none⟩ = some (.int .i64 (z.ops.getD m zeroQ).kd) ∧ u.cell? ⟨b2, o2 + m * 3 + 1, none⟩ = some (.int .i64 (z.ops.getD m zeroQ).oid) ∧ u.cell? ⟨b2, o2 + m * 3 + 2, none⟩ = some (.int .i64 (z.ops.getD m zeroQ).num)) := fun u hu m hm => by
    obtain ⟨b2, o2, ha, hc⟩ := (HCZ.out u hu).2 (by intro e; rw [e] at hm; simp at hm)
    exact ⟨b2, o2, ha, hc m hm⟩
   have HCC : Hid (∀ u, Below w.heap.size w u → u.cell? ⟨b, off + k, none⟩ = some (.slice z.a z.ops.length z.c)) := fun u hu => (HCZ.out u hu).1
   clear HH1 HH2 HCZ
   go_wp2_with fail
   go_loopw [4] (fun i wq => ∃ m : Nat, m ≤ z.ops.length ∧ i = .int .i64 m ∧ Hid ((z.ops.take m).all opB = true) ∧ Below w.heap.size w wq) (fun i _ => z.ops.length - (intOf i).toNat)
   case atStart => exact ⟨0, Nat.zero_le _, rfl, (show (z.ops.take 0).all opB = true by simp), hbl⟩
   case round =>
    obtain ⟨m, hm, rfl, hallm, hbm⟩ := hrel
    have cc := HCC.out _ hbm
    by_cases hltm : m < z.ops.length
    ·obtain ⟨b2, o2, ha, d0, d1, d2⟩ := HQC.out _ hbm m hltm
     have HH1 : Hid (opB (z.ops.getD m zeroQ) = false → R = false) := fun h => HQ1.out m hltm h
     have HH2 : Hid (opB (z.ops.getD m zeroQ) = true → (z.ops.take (m + 1)).all opB = true) := fun h => HQ2.out m hltm hallm.out h
     rw [ha] at cc
     clear ha HQC HQ1 HQ2 HQ3 hallm c0 HCC
     generalize z.ops.getD m zeroQ = y at *
     have C := l10Op_any y wr
     generalize opB y = yb at *
     cases yb with
     | false =>
      have HR : Hid (R = false) := HH1.out rfl
      clear HH1 HH2
      go_wp2_with fail
      refine C.mono ?_
      rintro e w1 ⟨rfl, hb1⟩
      go_wp2
      go_ret
      exact ⟨ret_bool HR.out.symm, hbm.trans (hb1.mono hbm.size)⟩
     | true =>
      have HN : Hid ((z.ops.take (m + 1)).all opB = true) := HH2.out rfl
      clear HH1 HH2
      go_wp2_with fail
      refine C.mono ?_
      rintro e w1 ⟨rfl, hb1⟩
      have hB1 : Below w.heap.size w w1 := hbm.trans (hb1.mono hbm.size)
      clear C hb1 hbm d0 d1 d2 cc
      go_wp2_with fail
      go_roundw
      case rel => exact ⟨m + 1, by omega, by go_num, HN, hB1⟩
      case measure => simp [intOf]; omega
    ·have HN : Hid ((L.take (k + 1)).all opsB = true) := HQ3.out m hltm hallm.out
     clear HQC HQ1 HQ2 HQ3 hallm c0 HCC
     go_wp2_with fail
     go_roundw
     case rel => exact ⟨k + 1, by omega, by go_num, HN, hbm⟩
     case measure => simp [intOf]; omega
  ·have HR : Hid (R = true) := HEND.out k hlt hall.out H4.out
   clear HC HHIT HSTEP HEND hall
   go_wp2
   go_ret
   exact ⟨ret_bool HR.out.symm, hbl⟩
theorem specSchedNew_any (a : Option Addr) (cap : Nat) (js : List JobA) (w : World) (hr : ReadsJ w a js) (hs : JobsShort js 1048576) (hcp : ∀ j ∈ js, j.a = none → j.c = 0) :
  Calls Try.prog 5 #[.slice a js.length cap] w fun e w' => ∃ s : SchA, e = .returned (.agg s.cells.toArray) ∧ s.e = (if jobsB (opsJ js) = true then newE else zeroE) ∧ Hid (opsJ s.js = if jobsB (opsJ js) = true then opsJ js else []) ∧ s.n = (if jobsB (opsJ js) = true then js.length else 0) ∧ s.own w' w.heap.size w'.heap.size ∧ Below w.heap.size w w' := by
 obtain ⟨W, hW, b0, hbW, hsW⟩ := boxes1 w zeroSch.cells 48
 have hrW := hr.below hbW
 have CO := specJobsOk_any a cap js W hrW ⟨Nat.le_trans hs.len (by decide), fun j hj => Nat.le_trans (hs.each j hj) (by decide)⟩
 have CE : Hid (∀ u : World, Calls Try.prog 15 #[] u fun r u' => r = .returned (.agg newE.cells.toArray) ∧ Below u.heap.size u u') := fun u => engineNew_any u
 have CC : Hid (∀ u, Below W.heap.size W u → Calls Try.prog 16 #[.slice a js.length cap] u fun e u' => ∃ a' c' ks, e = .returned (.slice a' ks.length c') ∧ Hid (opsJ ks = opsJ js) ∧ OwnJ u' u.heap.size u'.heap.size a' c' ks ∧ Below u.heap.size u u') := fun u hu => specJobs_any a cap js u (hrW.below hu) hs.len hs.each hcp
 have hlt : w.heap.size < W.heap.size := by omega
 obtain ⟨z, hz⟩ : ∃ z, Hid (zeroSch = z) := ⟨_, rfl⟩
 rw [hz.out] at hW b0
 clear hsW hr hrW hcp
 go_enter Try.func5, Try.ntmps5
 go_wp2_with (first | (guard_target = wpList _ _ _ (Oper.mk (some 2) _ _ _ _ _ :: _) _ _; refine alloc_sch ?_; rw [hz.out, hW.out]) | fail)
 refine CO.mono ?_
 rintro r W1 ⟨rfl, hb1⟩
 have b1 := b0.below hb1 b0.lt
 have N1 : Below w.heap.size w W1 := hbW.trans (hb1.mono hbW.size)
 have hs1 := hb1.size
 clear CO b0 hW
 obtain ⟨B, hBB⟩ : ∃ B, Hid (jobsB (opsJ js) = B) := ⟨_, rfl⟩
 rw [hBB.out]
 cases B with
 | false =>
  have hif : ¬ jobsB (opsJ js) = true := by rw [hBB.out]; decide
  have HIF : Hid (¬ jobsB (opsJ js) = true) := hif
  clear hif
  obtain ⟨W2, hW2, hw2, hs2, HT2, b2⟩ := sch_out (q := z) (by rw [← hz.out]; exact zeroE_shape) (by rw [← hz.out]; exact zeroE_shape) b1
  have HLD : Hid ((loadVar 48 ⟨w.heap.size, 0, none⟩).run Try.prog W2 = .ok (.agg z.cells.toArray) W2) := sch_load (by rw [← hz.out]; exact zeroE_shape) b2
  have HI : Hid ((Try.prog.info? 48).map (·.size) = some z.cells.toArray.size) := sch_info (by rw [← hz.out]; exact zeroE_shape)
  have HC := all_oneCell_toArray (oneSch z)
  have N2 : Below w.heap.size w W2 := N1.trans (hw2.below (Nat.le_refl _) (by omega))
  have hzz := hz.out
  clear CE CC hb1 b1 b2 hw2 N1
  go_wp2_with (first | (guard_target = wpList _ _ _ (Oper.mk (some 7) _ _ _ _ _ :: _) _ _; refine build_zeroS ?_; rw [hz.out]) | (guard_target = wpList _ _ _ (Oper.mk none (Op.store _ (Operand.tmp 2) _) _ _ _ _ :: _) _ _; refine wpList_store_mid rfl 48 (.tmp 2) (.tmp 7) rfl w.heap.size 0 z.cells.toArray rfl rfl HT2.out HI.out HC ?_; rw [hW2.out]) | fail)
  exact bodyPost_ret (v := .agg z.cells.toArray) (results_one Try.results5 rfl HLD.out) rfl ⟨z, rfl, by rw [← hzz]; first | rfl | (rw [if_neg HIF.out]; rfl) | (show _ = _; rw [if_neg HIF.out]; rfl), by rw [← hzz]; first | rfl | (rw [if_neg HIF.out]; rfl) | (show _ = _; rw [if_neg HIF.out]; rfl), by rw [← hzz]; first | rfl | (rw [if_neg HIF.out]; rfl) | (show _ = _; rw [if_neg HIF.out]; rfl), by rw [← hzz]; exact ⟨⟨ownJ_nil _ _ _ (Nat.le_refl _), ownI_nil _ _ _ (Nat.le_refl _), ownI_nil _ _ _ (Nat.le_refl _), ownI_nil _ _ _ (Nat.le_refl _), ownI_nil _ _ _ (Nat.le_refl _)⟩, List.nodup_nil⟩, N2⟩
 | true =>
  have h4 : js.length ≤ 4 := by
   have := hBB.out
   simp only [jobsB, Bool.and_eq_true, decide_eq_true_eq, opsJ_len] at this
   exact this.1
  have D0 : Below W.heap.size W W1.drew := hb1.drew
  have hds : W1.drew.heap.size = W1.heap.size := rfl
  have bD : Box W1.drew w.heap.size z.cells 48 := b1.below ((Below.refl _ _).drew) b1.lt
  go_upto_region 4 with fail
  refine wp_region_held_drew (S := fun _ => True) (by kernel_rfl) trivial (fun hHeld => ?_)
  obtain ⟨d0, hd0⟩ : ∃ d0, Hid (W1.drew = d0) := ⟨_, rfl⟩
  rw [hd0.out] at D0 hds bD ⊢
  refine tk 1 (v := .slice a js.length cap) rfl (Or.inl ⟨by rfl, ?_⟩) hHeld ?_
  ·intro w' hSw
   go_simp <;> rfl
  try simp only [Act.put, zA, zB, zC, zD, zE, zF]
  refine tk 3 (v := .int .i64 (js.length : Int)) rfl (Or.inl ⟨by rfl, ?_⟩) hHeld ?_
  ·intro w' hSw
   go_simp <;> rfl
  try simp only [Act.put, zA, zB, zC, zD, zE, zF]
  refine tk 5 (v := .int .i64 (js.length : Int)) rfl (Or.inl ⟨by rfl, ?_⟩) hHeld ?_
  ·intro w' hSw
   go_simp <;> rfl
  try simp only [Act.put, zA, zB, zC, zD, zE, zF]
  refine tk 7 (v := .int .i64 (js.length : Int)) rfl (Or.inl ⟨by rfl, ?_⟩) hHeld ?_
  ·intro w' hSw
   go_simp <;> rfl
  try simp only [Act.put, zA, zB, zC, zD, zE, zF]
  refine tk 9 (v := .int .i64 (js.length : Int)) rfl (Or.inl ⟨by rfl, ?_⟩) hHeld ?_
  ·intro w' hSw
   go_simp <;> rfl
  try simp only [Act.put, zA, zB, zC, zD, zE, zF]
  clear hHeld
  refine wpAnyH_inv (I := fun l ac u => ∃ (c0 c2 c4 c6 c8 c10 : Bool) (X0 X2 X4 X6 X8 X10 : Value) (A4 A6 A8 A10 : Nat) (ks : List JobA) (aJ : Option Addr) (cJ : Nat),
  l = #[c0, true, c2, true, c4, true, c6, true, c8, true, c10, false, false] ∧ ac = ⟨([.slice a js.length cap, undef, .pointer (some ⟨w.heap.size, 0, none⟩), .int .i64 (js.length : Int), .slice a js.length cap, .bool true, .bool false, undef, .slice a js.length cap, .int .i64 (js.length : Int), X0, .slice a js.length cap, X2, .int .i64 (js.length : Int), X4, .int .i64 (js.length : Int), X6, .int .i64 (js.length : Int), X8, .int .i64 (js.length : Int), X10, undef] : List Value).toArray, []⟩ ∧ Below d0.heap.size d0 u ∧ (c0 = true → X0 = .agg newE.cells.toArray) ∧ (c2 = true → c0 = true) ∧ Job1 d0 u js c2 X2 ks aJ cJ ∧
  Row1 d0 u js.length c4 X4 A4 ∧ Row1 d0 u js.length c6 X6 A6 ∧ Row1 d0 u js.length c8 X8 A8 ∧ Row1 d0 u js.length c10 X10 A10 ∧ Ne2 c4 c6 A4 A6 ∧ Ne2 c4 c8 A4 A8 ∧ Ne2 c4 c10 A4 A10 ∧ Ne2 c6 c8 A6 A8 ∧ Ne2 c6 c10 A6 A10 ∧ Ne2 c8 c10 A8 A10)
   (stop := fun l => l.getD 2 false && (l.getD 4 false && (l.getD 6 false && (l.getD 8 false && l.getD 10 false)))) ?_ ?_ _ _ _ _ (by kernel_rfl) ?_
  rotate_right
  ·exact ⟨false, false, false, false, false, false, undef, undef, undef, undef, undef, undef, 0, 0, 0, 0, [], none, 0, by kernel_rfl, rfl, Below.refl _ _, nofun, nofun, nofun, nofun, nofun, nofun, nofun, nofun, nofun, nofun, nofun, nofun, nofun⟩
  ·rintro l a' u ⟨c0, c2, c4, c6, c8, c10, X0, X2, X4, X6, X8, X10, A4, A6, A8, A10, ks, aJ, cJ, rfl, rfl, hB, hX0, h20, hJ, h4, h6, h8, h10, n46, n48, n410, n68, n610, n810⟩ hst
   refine inv_step (fun j => (j == 0 && !c0) || ((j == 2 && (!c2 && c0)) || ((j == 4 && !c4) || ((j == 6 && !c6) || ((j == 8 && !c8) || (j == 10 && !c10)))))) ?_ ?_
   ·clear hX0 hJ h4 h6 h8 h10 n46 n48 n410 n68 n610 n810 hB
    revert hst h20
    cases c0 <;> cases c2 <;> cases c4 <;> cases c6 <;> cases c8 <;> cases c10 <;> first | exact (fun h _ => absurd h (by decide)) | exact (fun _ h => absurd h (by decide)) | (intro _ _; show _ = true; kernel_rfl)
   clear hst
   intro j hj
   simp only [Bool.or_eq_true, Bool.and_eq_true, beq_iff_eq, Bool.not_eq_true'] at hj
   rcases hj with (⟨rfl, rfl⟩ | ⟨rfl, rfl, rfl⟩ | ⟨rfl, rfl⟩ | ⟨rfl, rfl⟩ | ⟨rfl, rfl⟩ | ⟨rfl, rfl⟩)
   ·refine wpOp_inv rfl (fun K hK => ?_)
    go_simp
    refine (CE.out u).mono ?_
    rintro r u' ⟨rfl, hb⟩
    exact hK.out _ _ ⟨trivial, true, c2, c4, c6, c8, c10, _, X2, X4, X6, X8, X10, A4, A6, A8, A10, ks, aJ, cJ, by kernel_rfl, rfl, hB.trans (hb.mono hB.size), fun _ => rfl, fun _ => rfl, hJ.on hb, h4.on hb, h6.on hb, h8.on hb, h10.on hb, n46, n48, n410, n68, n610, n810⟩
   ·refine wpOp_inv rfl (fun K hK => ?_)
    obtain rfl := hX0 rfl
    go_simp
    refine (CC.out u (D0.trans (hB.mono D0.size))).mono ?_
    rintro r u' ⟨a', c', ks', rfl, hv, ho, hb⟩
    exact hK.out _ _ ⟨trivial, true, true, c4, c6, c8, c10, _, _, X4, X6, X8, X10, A4, A6, A8, A10, ks', a', c', by kernel_rfl, rfl, hB.trans (hb.mono hB.size), fun _ => rfl, fun _ => rfl, fun _ => ⟨rfl, hv, ho.widen hB.size (Nat.le_refl _) (Nat.le_refl _)⟩, h4.on hb, h6.on hb, h8.on hb, h10.on hb, n46, n48, n410, n68, n610, n810⟩
   ·refine wpOp_inv rfl (fun K hK => ?_)
    rw [if_pos (by rfl)]
    have hb : Below u.heap.size u (u.alloc (.cells ((zerosI js.length).map (Value.int .i64)).toArray 3)) := (Below.refl _ _).alloc (Nat.le_refl _) _
    refine wp_make_zeros js.length (by omega) _ _ rfl rfl rfl ?_
    exact hK.out _ _ ⟨trivial, c0, c2, true, c6, c8, c10, X0, X2, _, X6, X8, X10, u.heap.size, A6, A8, A10, ks, aJ, cJ, by kernel_rfl, rfl, hB.trans (hb.mono hB.size), hX0, h20, hJ.on hb, row1_new d0 u js.length (by omega) hB.size, h6.on hb, h8.on hb, h10.on hb, h6.ne.flip, h8.ne.flip, h10.ne.flip, n68, n610, n810⟩
   ·refine wpOp_inv rfl (fun K hK => ?_)
    rw [if_pos (by rfl)]
    have hb : Below u.heap.size u (u.alloc (.cells ((zerosI js.length).map (Value.int .i64)).toArray 3)) := (Below.refl _ _).alloc (Nat.le_refl _) _
    refine wp_make_zeros js.length (by omega) _ _ rfl rfl rfl ?_
    exact hK.out _ _ ⟨trivial, c0, c2, c4, true, c8, c10, X0, X2, X4, _, X8, X10, A4, u.heap.size, A8, A10, ks, aJ, cJ, by kernel_rfl, rfl, hB.trans (hb.mono hB.size), hX0, h20, hJ.on hb, h4.on hb, row1_new d0 u js.length (by omega) hB.size, h8.on hb, h10.on hb, h4.ne, n48, n410, h8.ne.flip, h10.ne.flip, n810⟩
   ·refine wpOp_inv rfl (fun K hK => ?_)
    rw [if_pos (by rfl)]
    have hb : Below u.heap.size u (u.alloc (.cells ((zerosI js.length).map (Value.int .i64)).toArray 3)) := (Below.refl _ _).alloc (Nat.le_refl _) _
    refine wp_make_zeros js.length (by omega) _ _ rfl rfl rfl ?_
    exact hK.out _ _ ⟨trivial, c0, c2, c4, c6, true, c10, X0, X2, X4, X6, _, X10, A4, A6, u.heap.size, A10, ks, aJ, cJ, by kernel_rfl, rfl, hB.trans (hb.mono hB.size), hX0, h20, hJ.on hb, h4.on hb, h6.on hb, row1_new d0 u js.length (by omega) hB.size, h10.on hb, n46, h4.ne, n410, h6.ne, n610, h10.ne.flip⟩
   ·refine wpOp_inv rfl (fun K hK => ?_)
    rw [if_pos (by rfl)]
    have hb : Below u.heap.size u (u.alloc (.cells ((zerosI js.length).map (Value.int .i64)).toArray 3)) := (Below.refl _ _).alloc (Nat.le_refl _) _
    refine wp_make_zeros js.length (by omega) _ _ rfl rfl rfl ?_
    exact hK.out _ _ ⟨trivial, c0, c2, c4, c6, c8, true, X0, X2, X4, X6, X8, _, A4, A6, A8, u.heap.size, ks, aJ, cJ, by kernel_rfl, rfl, hB.trans (hb.mono hB.size), hX0, h20, hJ.on hb, h4.on hb, h6.on hb, h8.on hb, row1_new d0 u js.length (by omega) hB.size, n46, n48, h4.ne, n68, h6.ne, h8.ne⟩
  rintro l a' u ⟨c0, c2, c4, c6, c8, c10, X0, X2, X4, X6, X8, X10, A4, A6, A8, A10, ks, aJ, cJ, rfl, rfl, hB, hX0, h20, hJ, h4, h6, h8, h10, n46, n48, n410, n68, n610, n810⟩ hst
  obtain ⟨rfl, rfl, rfl, rfl, rfl⟩ : c2 = true ∧ c4 = true ∧ c6 = true ∧ c8 = true ∧ c10 = true := by simpa using hst
  obtain rfl := h20 rfl
  obtain rfl := hX0 rfl
  have hJI := hJ rfl
  have OWN := sch_own hJI h4 h6 h8 h10 (n46 rfl rfl) (n48 rfl rfl) (n410 rfl rfl) (n68 rfl rfl) (n610 rfl rfl) (n810 rfl rfl)
  have hkl : ks.length = js.length := by
   have := congrArg List.length hJI.ops.out
   rwa [opsJ_len, opsJ_len] at this
  obtain rfl := hJI.val
  obtain rfl := (h4 rfl).1
  obtain rfl := (h6 rfl).1
  obtain rfl := (h8 rfl).1
  obtain rfl := (h10 rfl).1
  have hops := hJI.ops
  obtain ⟨q, hq⟩ : ∃ q : SchA, Hid ((⟨newE, ks, aJ, cJ, js.length, some ⟨A4, 0, none⟩, js.length, some ⟨A6, 0, none⟩, js.length, some ⟨A8, 0, none⟩, js.length, some ⟨A10, 0, none⟩, js.length⟩ : SchA) = q) := ⟨_, rfl⟩
  have bU := bD.below hB bD.lt
  have hbs := bD.lt
  have hus := hB.size
  obtain ⟨W2, hW2, hw2, hs2, HT2, b2⟩ := sch_out (q := q) (by rw [← hq.out]; exact newE_shape) (by rw [← hz.out]; exact zeroE_shape) bU
  have HLD : Hid ((loadVar 48 ⟨w.heap.size, 0, none⟩).run Try.prog W2 = .ok (.agg q.cells.toArray) W2) := sch_load (by rw [← hq.out]; exact newE_shape) b2
  have HI : Hid ((Try.prog.info? 48).map (·.size) = some q.cells.toArray.size) := sch_info (by rw [← hq.out]; exact newE_shape)
  have HC := all_oneCell_toArray (oneSch q)
  have N2 : Below w.heap.size w W2 := (hbW.trans ((D0.trans (hB.mono D0.size)).mono hbW.size)).trans (hw2.below (Nat.le_refl _) (by omega))
  have HEND : Hid (q.e = newE ∧ Hid (opsJ q.js = opsJ js) ∧ q.n = js.length ∧ q.own W2 w.heap.size W2.heap.size) := by
   rw [← hq.out]
   refine ⟨rfl, hops, rfl, ⟨⟨?_, ?_, ?_, ?_, ?_⟩, OWN.apart⟩⟩
   ·exact (OWN.lists.js.within hw2 (.inr (by omega))).widen (by omega) (by omega) (Nat.le_refl _)
   ·exact (OWN.lists.r3.within hw2 (.inr (by omega))).widen (by omega) (by omega) (Nat.le_refl _)
   ·exact (OWN.lists.r4.within hw2 (.inr (by omega))).widen (by omega) (by omega) (Nat.le_refl _)
   ·exact (OWN.lists.r5.within hw2 (.inr (by omega))).widen (by omega) (by omega) (Nat.le_refl _)
   ·exact (OWN.lists.r6.within hw2 (.inr (by omega))).widen (by omega) (by omega) (Nat.le_refl _)
  have HW2 : Hid (u.setCells w.heap.size 0 q.cells.toArray.toList = W2) := hW2
  clear hst hX0 hJ hJI h4 h6 h8 h10 n46 n48 n410 n68 n610 n810 OWN hops b2 bU bD hw2 hs2 D0 hbW hB hb1 b1 N1 CE CC hW2
  have hHeld : True := trivial
  refine wpAnyH_ready (rs := [11]) (by kernel_rfl) (by simp) ?_
  refine AllReadyH.cons rfl (fun K hK => ?_) AllReadyH.nil
  rw [if_pos (by rfl)]
  refine wp_buildS rfl q (by rw [← hq.out]) rfl (by rw [← hq.out]; rfl) (by rw [← hq.out]; rfl) (by rw [← hq.out]; rfl) (by rw [← hq.out]; rfl) (by rw [← hq.out]; rfl) ?_
  refine hK.out _ _ trivial (fun hHeld => ?_)
  clear hK K
  try simp only [Act.put, zA, zB, zC, zD, zE, zF]
  refine wpAnyH_ready (rs := [12]) (by kernel_rfl) (by simp) ?_
  refine AllReadyH.cons rfl (fun K hK => ?_) AllReadyH.nil
  rw [if_pos (by rfl)]
  refine wp_store_mid 48 (.tmp 2) (.tmp 21) rfl w.heap.size 0 q.cells.toArray rfl rfl HT2.out HI.out HC ?_
  rw [HW2.out]
  refine hK.out _ _ trivial (fun hHeld => ?_)
  clear hK K
  try simp only [Act.put, zA, zB, zC]
  refine wpAnyH_done (by kernel_rfl) ?_ _
  clear hHeld HT2 HW2 HI HC
  go_wp2_with fail
  exact bodyPost_ret (v := .agg q.cells.toArray) (results_one Try.results5 rfl HLD.out) rfl ⟨q, rfl, by first | exact HEND.out.1 | (rw [if_pos hBB.out]; exact HEND.out.1) | (show _ = _; rw [if_pos hBB.out]; exact HEND.out.1), by first | exact HEND.out.2.1 | (rw [if_pos hBB.out]; exact HEND.out.2.1) | (show _ = _; rw [if_pos hBB.out]; exact HEND.out.2.1), by first | exact HEND.out.2.2.1 | (rw [if_pos hBB.out]; exact HEND.out.2.2.1) | (show _ = _; rw [if_pos hBB.out]; exact HEND.out.2.2.1), HEND.out.2.2.2, N2⟩
theorem oidOk_job (x : Int) (w : World) : Calls Try.prog 70 #[.int .i64 x] w fun e w' => e = .returned (.bool (inB x 1 31)) ∧ w' = w := by
 by_cases h1 : 1 ≤ x
 ·by_cases h2 : x ≤ 31
  ·have HB : Hid (inB x 1 31 = true) := by simp [Hid, inB]; omega
   go_enter Try.func70, Try.ntmps70
   go_wp2
   go_ret
   exact ⟨ret_bool HB.out.symm, rfl⟩
  ·have HB : Hid (inB x 1 31 = false) := by simp [Hid, inB]; omega
   go_enter Try.func70, Try.ntmps70
   go_wp2
   go_ret
   exact ⟨ret_bool HB.out.symm, rfl⟩
 ·have HB : Hid (inB x 1 31 = false) := by simp [Hid, inB]; omega
  go_enter Try.func70, Try.ntmps70
  go_wp2
  go_ret
  exact ⟨ret_bool HB.out.symm, rfl⟩
theorem implOpOk_any (o : OpV) (w : World) :
  Calls Try.prog 57 #[.agg #[.int .i64 o.kd, .int .i64 o.oid, .int .i64 o.num]] w fun e w' => e = .returned (.bool (opB o)) ∧ Below w.heap.size w w' := by
 obtain ⟨x, y, z⟩ := o
 obtain ⟨W, hW, b0, hbW, hsW⟩ := boxes1 w [.int .i64 x, .int .i64 y, .int .i64 z] 73
 obtain ⟨q0, q1, q2, _⟩ := b0.three
 have C := oidOk_job y W
 have HB : Hid (opB ⟨x, y, z⟩ = if x = 4 then (y == 0 && z == 0) else (inB x 1 3 && (inB y 1 31 && inB z (-1000) 1000))) := rfl
 generalize opB ⟨x, y, z⟩ = R at *
 simp only
 clear b0 hsW
 by_cases h4 : x = 4
 ·have hR : R = (y == 0 && z == 0) := by rw [HB.out, if_pos h4]
  clear HB C
  subst h4
  by_cases hy : y = 0
  ·subst hy
   by_cases hz : z = 0
   ·subst hz
    go_enter Try.func57, Try.ntmps57
    go_wp2
    rw [hW.out]
    go_ret
    exact ⟨ret_bool (by rw [hR]; rfl), hbW⟩
   ·have kz : (z == 0) = false := by simpa using hz
    have HR : Hid (R = false) := by rw [Hid, hR, kz]; rfl
    clear hR
    go_enter Try.func57, Try.ntmps57
    go_wp2
    rw [hW.out]
    go_ret
    exact ⟨ret_bool HR.out.symm, hbW⟩
  ·have ky : (y == 0) = false := by simpa using hy
   have HR : Hid (R = false) := by rw [Hid, hR, ky]; rfl
   clear hR
   go_enter Try.func57, Try.ntmps57
   go_wp2
   rw [hW.out]
   go_ret
   exact ⟨ret_bool HR.out.symm, hbW⟩
 have hR : R = (inB x 1 3 && (inB y 1 31 && inB z (-1000) 1000)) := by rw [HB.out, if_neg h4]
 clear HB
 by_cases h : 1 ≤ x ∧ x ≤ 3
 ·have kx : inB x 1 3 = true := by simp [inB, h.1, h.2]
  rw [kx, Bool.true_and] at hR
  clear kx h4
  generalize inB y 1 31 = yb at *
  obtain ⟨n1, n2⟩ := h
  have hx : x = 1 ∨ x = 2 ∨ x = 3 := by omega
  clear n1 n2
  cases yb with
  | false =>
   have HR : Hid (R = false) := hR
   clear hR
   rcases hx with rfl | rfl | rfl
   all_goals
    go_enter Try.func57, Try.ntmps57
    go_wp2_with fail
    rw [hW.out]
    refine C.mono ?_
    rintro e w' ⟨rfl, rfl⟩
    go_wp2
    go_ret
    exact ⟨ret_bool HR.out.symm, hbW⟩
  | true =>
   rw [Bool.true_and] at hR
   by_cases z1 : -1000 ≤ z
   ·by_cases z2 : z ≤ 1000
    ·have HR : Hid (R = true) := by rw [Hid, hR]; simp [inB, z1, z2]
     clear hR
     rcases hx with rfl | rfl | rfl
     all_goals
      go_enter Try.func57, Try.ntmps57
      go_wp2_with fail
      rw [hW.out]
      refine C.mono ?_
      rintro e w' ⟨rfl, rfl⟩
      go_wp2
      go_ret
      exact ⟨ret_bool HR.out.symm, hbW⟩
    ·have HR : Hid (R = false) := by rw [Hid, hR]; simp [inB, z2]
     clear hR
     rcases hx with rfl | rfl | rfl
     all_goals
      go_enter Try.func57, Try.ntmps57
      go_wp2_with fail
      rw [hW.out]
      refine C.mono ?_
      rintro e w' ⟨rfl, rfl⟩
      go_wp2
      go_ret
      exact ⟨ret_bool ((decide_eq_false (by omega)).trans HR.out.symm), hbW⟩
   ·have HR : Hid (R = false) := by rw [Hid, hR]; simp [inB, z1]
    clear hR
    rcases hx with rfl | rfl | rfl
    all_goals
     go_enter Try.func57, Try.ntmps57
     go_wp2_with fail
     rw [hW.out]
     refine C.mono ?_
     rintro e w' ⟨rfl, rfl⟩
     go_wp2
     go_ret
     exact ⟨ret_bool HR.out.symm, hbW⟩
 ·have HR : Hid (R = false) := by
   have : inB x 1 3 = false := by
    cases e : inB x 1 3
    ·rfl
    ·exact absurd (by simpa [inB] using e) h
   rw [Hid, hR, this]; rfl
  have e1 : (x == 1) = false := by rw [beq_eq_false_iff_ne]; omega
  have e2 : (x == 2) = false := by rw [beq_eq_false_iff_ne]; omega
  have e3 : (x == 3) = false := by rw [beq_eq_false_iff_ne]; omega
  have e4 : (x == 4) = false := by rw [beq_eq_false_iff_ne]; omega
  clear hR h h4 C
  go_enter Try.func57, Try.ntmps57
  go_wp2
  rw [hW.out]
  go_ret
  exact ⟨ret_bool HR.out.symm, hbW⟩
theorem implOpsOk_any (a : Option Addr) (c : Nat) (ls : List OpV) (w : World) (hr : ReadsQ w a ls) (hl : ls.length ≤ 1099511627776) :
  Calls Try.prog 35 #[.slice a ls.length c] w fun e w' => e = .returned (.bool (opsB ls)) ∧ Below w.heap.size w w' := by
 have HC : Hid (∀ u, Below w.heap.size w u → ∀ k, k < ls.length → ∃ b off, a = some ⟨b, off, none⟩ ∧ u.cell? ⟨b, off + k * 3, none⟩ = some (.int .i64 (ls.getD k zeroQ).kd) ∧ u.cell? ⟨b, off + k * 3 + 1, none⟩ = some (.int .i64 (ls.getD k zeroQ).oid) ∧ u.cell? ⟨b, off + k * 3 + 2, none⟩ = some (.int .i64 (ls.getD k zeroQ).num)) := fun u hu k hk => by
  obtain ⟨b, off, ha, hc⟩ := (hr.below hu) (by intro e; rw [e] at hk; simp at hk)
  exact ⟨b, off, ha, hc k hk⟩
 have HHIT : Hid (∀ k, k < ls.length → opB (ls.getD k zeroQ) = false → opsB ls = false) := fun k hk h => opsB_hit hk h
 have HSTEP : Hid (∀ k, k < ls.length → (ls.take k).all opB = true → opB (ls.getD k zeroQ) = true → (ls.take (k + 1)).all opB = true) := fun k hk h h1 => all_step hk h h1
 have HEND : Hid (∀ k, ¬ k < ls.length → (ls.take k).all opB = true → opsB ls = decide (ls.length ≤ 6)) := fun k hk h => by rw [opsB, all_end hk h, Bool.and_true]
 clear hr
 generalize opsB ls = R at *
 go_enter Try.func35, Try.ntmps35
 go_wp2
 go_loopw [7] (fun i wr => ∃ k : Nat, k ≤ ls.length ∧ i = .int .i64 k ∧ Hid ((ls.take k).all opB = true) ∧ Below w.heap.size w wr) (fun i _ => ls.length - (intOf i).toNat)
 case atStart => exact ⟨0, Nat.zero_le _, rfl, (show (ls.take 0).all opB = true by simp), Below.refl _ _⟩
 case round =>
  obtain ⟨k, hk, rfl, hall, hbl⟩ := hrel
  by_cases hlt : k < ls.length
  ·obtain ⟨b, off, rfl, c0, c1, c2⟩ := HC.out wr hbl k hlt
   have HH1 : Hid (opB (ls.getD k zeroQ) = false → R = false) := fun h => HHIT.out k hlt h
   have HH2 : Hid (opB (ls.getD k zeroQ) = true → (ls.take (k + 1)).all opB = true) := fun h => HSTEP.out k hlt hall.out h
   clear HC HHIT HSTEP HEND hall
   generalize ls.getD k zeroQ = z at *
   obtain ⟨V, hV, bz, hbV, hsV⟩ := boxes1 wr [.int .i64 z.kd, .int .i64 z.oid, .int .i64 z.num] 73
   obtain ⟨q0, q1, q2, _⟩ := bz.three
   have C := implOpOk_any z V
   have hB : Below w.heap.size w V := hbl.trans (hbV.mono hbl.size)
   generalize opB z = zb at *
   clear bz hsV hbV
   cases zb with
   | false =>
    have HR : Hid (R = false) := HH1.out rfl
    clear HH1 HH2
    go_wp2_with fail
    rw [hV.out]
    go_wp2_with fail
    refine C.mono ?_
    rintro e w1 ⟨rfl, hb1⟩
    go_wp2
    go_ret
    exact ⟨ret_bool HR.out.symm, hB.trans (hb1.mono hB.size)⟩
   | true =>
    have HN : Hid ((ls.take (k + 1)).all opB = true) := HH2.out rfl
    clear HH1 HH2
    go_wp2_with fail
    rw [hV.out]
    go_wp2_with fail
    refine C.mono ?_
    rintro e w1 ⟨rfl, hb1⟩
    have hB1 : Below w.heap.size w w1 := hB.trans (hb1.mono hB.size)
    clear C hV hb1 hB
    go_wp2_with fail
    go_roundw
    case rel => exact ⟨k + 1, by omega, by go_num, HN, hB1⟩
    case measure => simp [intOf]; omega
  ·have HR : Hid (R = decide (ls.length ≤ 6)) := HEND.out k hlt hall.out
   clear HC HHIT HSTEP HEND hall
   have HT : Hid (decide ((ls.length : Int) ≤ 6) = R) := by rw [Hid, HR.out]; exact decide_eq_decide.2 (by omega)
   go_wp2
   go_ret
   exact ⟨ret_bool HT.out, hbl⟩
theorem implJobsOk_any (a : Option Addr) (c : Nat) (js : List JobA) (w : World) (hr : ReadsJ w a js) (hl : JobsShort js 1099511627776) :
  Calls Try.prog 18 #[.slice a js.length c] w fun e w' => e = .returned (.bool (jobsB (opsJ js))) ∧ Below w.heap.size w w' := by
 obtain ⟨hl1, hl2⟩ := hl
 have HC : Hid (∀ u, Below w.heap.size w u → ∀ k, k < js.length → ∃ b off, a = some ⟨b, off, none⟩ ∧ u.cell? ⟨b, off + k, none⟩ = some (js.getD k zeroJ).cell ∧ ReadsQ u (js.getD k zeroJ).a (js.getD k zeroJ).ops ∧ (js.getD k zeroJ).ops.length ≤ 1099511627776) := fun u hu k hk => by
  obtain ⟨b, off, ha, hc⟩ := (hr.below hu) (by intro e; rw [e] at hk; simp at hk)
  exact ⟨b, off, ha, (hc k hk).1, (hc k hk).2, hl2 _ (jobD_mem js k hk)⟩
 have HL : (opsJ js).length = js.length := opsJ_len js
 have HHIT : Hid (∀ k, k < js.length → opsB (js.getD k zeroJ).ops = false → jobsB (opsJ js) = false) := fun k hk h => jobsB_hit (k := k) (by omega) (by rw [opsJ_at]; exact h)
 have HSTEP : Hid (∀ k, k < js.length → ((opsJ js).take k).all opsB = true → opsB (js.getD k zeroJ).ops = true → ((opsJ js).take (k + 1)).all opsB = true) := fun k hk h h1 => all_step (z := []) (by omega) h (by rw [opsJ_at]; exact h1)
 have HEND : Hid (∀ k, ¬ k < js.length → ((opsJ js).take k).all opsB = true → jobsB (opsJ js) = decide (js.length ≤ 4)) := fun k hk h => by rw [jobsB, all_end (by omega) h, Bool.and_true, HL]
 clear hr hl2 HL
 generalize jobsB (opsJ js) = R at *
 generalize opsJ js = L at *
 go_enter Try.func18, Try.ntmps18
 go_wp2
 go_loopw [7] (fun i wr => ∃ k : Nat, k ≤ js.length ∧ i = .int .i64 k ∧ Hid ((L.take k).all opsB = true) ∧ Below w.heap.size w wr) (fun i _ => js.length - (intOf i).toNat)
 case atStart => exact ⟨0, Nat.zero_le _, rfl, (show (L.take 0).all opsB = true by simp), Below.refl _ _⟩
 case round =>
  obtain ⟨k, hk, rfl, hall, hbl⟩ := hrel
  by_cases hlt : k < js.length
  ·obtain ⟨b, off, rfl, c0, hrz, hlz⟩ := HC.out wr hbl k hlt
   have HH1 : Hid (opsB (js.getD k zeroJ).ops = false → R = false) := fun h => HHIT.out k hlt h
   have HH2 : Hid (opsB (js.getD k zeroJ).ops = true → (L.take (k + 1)).all opsB = true) := fun h => HSTEP.out k hlt hall.out h
   clear HC HHIT HSTEP HEND hall
   generalize js.getD k zeroJ = z at *
   simp only [JobA.cell] at c0
   have C := implOpsOk_any z.a z.c z.ops wr hrz hlz
   generalize opsB z.ops = zb at *
   cases zb with
   | false =>
    have HR : Hid (R = false) := HH1.out rfl
    clear HH1 HH2
    go_wp2_with fail
    refine C.mono ?_
    rintro e w1 ⟨rfl, hb1⟩
    go_wp2
    go_ret
    exact ⟨ret_bool HR.out.symm, hbl.trans (hb1.mono hbl.size)⟩
   | true =>
    have HN : Hid ((L.take (k + 1)).all opsB = true) := HH2.out rfl
    clear HH1 HH2
    go_wp2_with fail
    refine C.mono ?_
    rintro e w1 ⟨rfl, hb1⟩
    have hB1 : Below w.heap.size w w1 := hbl.trans (hb1.mono hbl.size)
    clear C hb1 hbl c0
    go_wp2_with fail
    go_roundw
    case rel => exact ⟨k + 1, by omega, by go_num, HN, hB1⟩
    case measure => simp [intOf]; omega
  ·have HR : Hid (R = decide (js.length ≤ 4)) := HEND.out k hlt hall.out
   clear HC HHIT HSTEP HEND hall
   have HT : Hid (decide ((js.length : Int) ≤ 4) = R) := by rw [Hid, HR.out]; exact decide_eq_decide.2 (by omega)
   go_wp2
   go_ret
   exact ⟨ret_bool HT.out, hbl⟩
theorem implSchedNew_any (a : Option Addr) (cap : Nat) (js : List JobA) (w : World) (hr : ReadsJ w a js) (hs : JobsShort js 1048576) (hcp : ∀ j ∈ js, j.a = none → j.c = 0) :
  Calls Try.prog 7 #[.slice a js.length cap] w fun e w' => ∃ s : SchA, e = .returned (.agg s.cells.toArray) ∧ s.e = (if jobsB (opsJ js) = true then newE else zeroE) ∧ Hid (opsJ s.js = if jobsB (opsJ js) = true then opsJ js else []) ∧ s.n = (if jobsB (opsJ js) = true then js.length else 0) ∧ s.own w' w.heap.size w'.heap.size ∧ Below w.heap.size w w' := by
 obtain ⟨W, hW, b0, hbW, hsW⟩ := boxes1 w zeroSch.cells 48
 have hrW := hr.below hbW
 have CO := implJobsOk_any a cap js W hrW ⟨Nat.le_trans hs.len (by decide), fun j hj => Nat.le_trans (hs.each j hj) (by decide)⟩
 have CE : Hid (∀ u : World, Calls Try.prog 19 #[] u fun r u' => r = .returned (.agg newE.cells.toArray) ∧ Below u.heap.size u u') := fun u => implEngineNew_any u
 have CC : Hid (∀ u, Below W.heap.size W u → Calls Try.prog 20 #[.slice a js.length cap] u fun e u' => ∃ a' c' ks, e = .returned (.slice a' ks.length c') ∧ Hid (opsJ ks = opsJ js) ∧ OwnJ u' u.heap.size u'.heap.size a' c' ks ∧ Below u.heap.size u u') := fun u hu => copyJobs_any a cap js u (hrW.below hu) hs.len hs.each hcp
 have hlt : w.heap.size < W.heap.size := by omega
 obtain ⟨z, hz⟩ : ∃ z, Hid (zeroSch = z) := ⟨_, rfl⟩
 rw [hz.out] at hW b0
 clear hsW hr hrW hcp
 go_enter Try.func7, Try.ntmps7
 go_wp2_with (first | (guard_target = wpList _ _ _ (Oper.mk (some 2) _ _ _ _ _ :: _) _ _; refine alloc_sch ?_; rw [hz.out, hW.out]) | fail)
 refine CO.mono ?_
 rintro r W1 ⟨rfl, hb1⟩
 have b1 := b0.below hb1 b0.lt
 have N1 : Below w.heap.size w W1 := hbW.trans (hb1.mono hbW.size)
 have hs1 := hb1.size
 clear CO b0 hW
 obtain ⟨B, hBB⟩ : ∃ B, Hid (jobsB (opsJ js) = B) := ⟨_, rfl⟩
 rw [hBB.out]
 cases B with
 | false =>
  have hif : ¬ jobsB (opsJ js) = true := by rw [hBB.out]; decide
  have HIF : Hid (¬ jobsB (opsJ js) = true) := hif
  clear hif
  obtain ⟨W2, hW2, hw2, hs2, HT2, b2⟩ := sch_out (q := z) (by rw [← hz.out]; exact zeroE_shape) (by rw [← hz.out]; exact zeroE_shape) b1
  have HLD : Hid ((loadVar 48 ⟨w.heap.size, 0, none⟩).run Try.prog W2 = .ok (.agg z.cells.toArray) W2) := sch_load (by rw [← hz.out]; exact zeroE_shape) b2
  have HI : Hid ((Try.prog.info? 48).map (·.size) = some z.cells.toArray.size) := sch_info (by rw [← hz.out]; exact zeroE_shape)
  have HC := all_oneCell_toArray (oneSch z)
  have N2 : Below w.heap.size w W2 := N1.trans (hw2.below (Nat.le_refl _) (by omega))
  have hzz := hz.out
  clear CE CC hb1 b1 b2 hw2 N1
  go_wp2_with (first | (guard_target = wpList _ _ _ (Oper.mk (some 7) _ _ _ _ _ :: _) _ _; refine build_zeroS ?_; rw [hz.out]) | (guard_target = wpList _ _ _ (Oper.mk none (Op.store _ (Operand.tmp 2) _) _ _ _ _ :: _) _ _; refine wpList_store_mid rfl 48 (.tmp 2) (.tmp 7) rfl w.heap.size 0 z.cells.toArray rfl rfl HT2.out HI.out HC ?_; rw [hW2.out]) | fail)
  exact bodyPost_ret (v := .agg z.cells.toArray) (results_one Try.results7 rfl HLD.out) rfl ⟨z, rfl, by rw [← hzz]; first | rfl | (rw [if_neg HIF.out]; rfl) | (show _ = _; rw [if_neg HIF.out]; rfl), by rw [← hzz]; first | rfl | (rw [if_neg HIF.out]; rfl) | (show _ = _; rw [if_neg HIF.out]; rfl), by rw [← hzz]; first | rfl | (rw [if_neg HIF.out]; rfl) | (show _ = _; rw [if_neg HIF.out]; rfl), by rw [← hzz]; exact ⟨⟨ownJ_nil _ _ _ (Nat.le_refl _), ownI_nil _ _ _ (Nat.le_refl _), ownI_nil _ _ _ (Nat.le_refl _), ownI_nil _ _ _ (Nat.le_refl _), ownI_nil _ _ _ (Nat.le_refl _)⟩, List.nodup_nil⟩, N2⟩
 | true =>
  have h4 : js.length ≤ 4 := by
   have := hBB.out
   simp only [jobsB, Bool.and_eq_true, decide_eq_true_eq, opsJ_len] at this
   exact this.1
  have D0 : Below W.heap.size W W1.drew := hb1.drew
  have hds : W1.drew.heap.size = W1.heap.size := rfl
  have bD : Box W1.drew w.heap.size z.cells 48 := b1.below ((Below.refl _ _).drew) b1.lt
  go_upto_region 4 with fail
  refine wp_region_held_drew (S := fun _ => True) (by kernel_rfl) trivial (fun hHeld => ?_)
  obtain ⟨d0, hd0⟩ : ∃ d0, Hid (W1.drew = d0) := ⟨_, rfl⟩
  rw [hd0.out] at D0 hds bD ⊢
  refine tk 1 (v := .slice a js.length cap) rfl (Or.inl ⟨by rfl, ?_⟩) hHeld ?_
  ·intro w' hSw
   go_simp <;> rfl
  try simp only [Act.put, zA, zB, zC, zD, zE, zF]
  refine tk 3 (v := .int .i64 (js.length : Int)) rfl (Or.inl ⟨by rfl, ?_⟩) hHeld ?_
  ·intro w' hSw
   go_simp <;> rfl
  try simp only [Act.put, zA, zB, zC, zD, zE, zF]
  refine tk 5 (v := .int .i64 (js.length : Int)) rfl (Or.inl ⟨by rfl, ?_⟩) hHeld ?_
  ·intro w' hSw
   go_simp <;> rfl
  try simp only [Act.put, zA, zB, zC, zD, zE, zF]
  refine tk 7 (v := .int .i64 (js.length : Int)) rfl (Or.inl ⟨by rfl, ?_⟩) hHeld ?_
  ·intro w' hSw
   go_simp <;> rfl
  try simp only [Act.put, zA, zB, zC, zD, zE, zF]
  refine tk 9 (v := .int .i64 (js.length : Int)) rfl (Or.inl ⟨by rfl, ?_⟩) hHeld ?_
  ·intro w' hSw
   go_simp <;> rfl
  try simp only [Act.put, zA, zB, zC, zD, zE, zF]
  clear hHeld
  refine wpAnyH_inv (I := fun l ac u => ∃ (c0 c2 c4 c6 c8 c10 : Bool) (X0 X2 X4 X6 X8 X10 : Value) (A4 A6 A8 A10 : Nat) (ks : List JobA) (aJ : Option Addr) (cJ : Nat),
  l = #[c0, true, c2, true, c4, true, c6, true, c8, true, c10, false, false] ∧ ac = ⟨([.slice a js.length cap, undef, .pointer (some ⟨w.heap.size, 0, none⟩), .int .i64 (js.length : Int), .slice a js.length cap, .bool true, .bool false, undef, .slice a js.length cap, .int .i64 (js.length : Int), X0, .slice a js.length cap, X2, .int .i64 (js.length : Int), X4, .int .i64 (js.length : Int), X6, .int .i64 (js.length : Int), X8, .int .i64 (js.length : Int), X10, undef] : List Value).toArray, []⟩ ∧ Below d0.heap.size d0 u ∧ (c0 = true → X0 = .agg newE.cells.toArray) ∧ (c2 = true → c0 = true) ∧ Job1 d0 u js c2 X2 ks aJ cJ ∧
  Row1 d0 u js.length c4 X4 A4 ∧ Row1 d0 u js.length c6 X6 A6 ∧ Row1 d0 u js.length c8 X8 A8 ∧ Row1 d0 u js.length c10 X10 A10 ∧ Ne2 c4 c6 A4 A6 ∧ Ne2 c4 c8 A4 A8 ∧ Ne2 c4 c10 A4 A10 ∧ Ne2 c6 c8 A6 A8 ∧ Ne2 c6 c10 A6 A10 ∧ Ne2 c8 c10 A8 A10)
   (stop := fun l => l.getD 2 false && (l.getD 4 false && (l.getD 6 false && (l.getD 8 false && l.getD 10 false)))) ?_ ?_ _ _ _ _ (by kernel_rfl) ?_
  rotate_right
  ·exact ⟨false, false, false, false, false, false, undef, undef, undef, undef, undef, undef, 0, 0, 0, 0, [], none, 0, by kernel_rfl, rfl, Below.refl _ _, nofun, nofun, nofun, nofun, nofun, nofun, nofun, nofun, nofun, nofun, nofun, nofun, nofun⟩
  ·rintro l a' u ⟨c0, c2, c4, c6, c8, c10, X0, X2, X4, X6, X8, X10, A4, A6, A8, A10, ks, aJ, cJ, rfl, rfl, hB, hX0, h20, hJ, h4, h6, h8, h10, n46, n48, n410, n68, n610, n810⟩ hst
   refine inv_step (fun j => (j == 0 && !c0) || ((j == 2 && (!c2 && c0)) || ((j == 4 && !c4) || ((j == 6 && !c6) || ((j == 8 && !c8) || (j == 10 && !c10)))))) ?_ ?_
   ·clear hX0 hJ h4 h6 h8 h10 n46 n48 n410 n68 n610 n810 hB
    revert hst h20
    cases c0 <;> cases c2 <;> cases c4 <;> cases c6 <;> cases c8 <;> cases c10 <;> first | exact (fun h _ => absurd h (by decide)) | exact (fun _ h => absurd h (by decide)) | (intro _ _; show _ = true; kernel_rfl)
   clear hst
   intro j hj
   simp only [Bool.or_eq_true, Bool.and_eq_true, beq_iff_eq, Bool.not_eq_true'] at hj
   rcases hj with (⟨rfl, rfl⟩ | ⟨rfl, rfl, rfl⟩ | ⟨rfl, rfl⟩ | ⟨rfl, rfl⟩ | ⟨rfl, rfl⟩ | ⟨rfl, rfl⟩)
   ·refine wpOp_inv rfl (fun K hK => ?_)
    go_simp
    refine (CE.out u).mono ?_
    rintro r u' ⟨rfl, hb⟩
    exact hK.out _ _ ⟨trivial, true, c2, c4, c6, c8, c10, _, X2, X4, X6, X8, X10, A4, A6, A8, A10, ks, aJ, cJ, by kernel_rfl, rfl, hB.trans (hb.mono hB.size), fun _ => rfl, fun _ => rfl, hJ.on hb, h4.on hb, h6.on hb, h8.on hb, h10.on hb, n46, n48, n410, n68, n610, n810⟩
   ·refine wpOp_inv rfl (fun K hK => ?_)
    obtain rfl := hX0 rfl
    go_simp
    refine (CC.out u (D0.trans (hB.mono D0.size))).mono ?_
    rintro r u' ⟨a', c', ks', rfl, hv, ho, hb⟩
    exact hK.out _ _ ⟨trivial, true, true, c4, c6, c8, c10, _, _, X4, X6, X8, X10, A4, A6, A8, A10, ks', a', c', by kernel_rfl, rfl, hB.trans (hb.mono hB.size), fun _ => rfl, fun _ => rfl, fun _ => ⟨rfl, hv, ho.widen hB.size (Nat.le_refl _) (Nat.le_refl _)⟩, h4.on hb, h6.on hb, h8.on hb, h10.on hb, n46, n48, n410, n68, n610, n810⟩
   ·refine wpOp_inv rfl (fun K hK => ?_)
    rw [if_pos (by rfl)]
    have hb : Below u.heap.size u (u.alloc (.cells ((zerosI js.length).map (Value.int .i64)).toArray 3)) := (Below.refl _ _).alloc (Nat.le_refl _) _
    refine wp_make_zeros js.length (by omega) _ _ rfl rfl rfl ?_
    exact hK.out _ _ ⟨trivial, c0, c2, true, c6, c8, c10, X0, X2, _, X6, X8, X10, u.heap.size, A6, A8, A10, ks, aJ, cJ, by kernel_rfl, rfl, hB.trans (hb.mono hB.size), hX0, h20, hJ.on hb, row1_new d0 u js.length (by omega) hB.size, h6.on hb, h8.on hb, h10.on hb, h6.ne.flip, h8.ne.flip, h10.ne.flip, n68, n610, n810⟩
   ·refine wpOp_inv rfl (fun K hK => ?_)
    rw [if_pos (by rfl)]
    have hb : Below u.heap.size u (u.alloc (.cells ((zerosI js.length).map (Value.int .i64)).toArray 3)) := (Below.refl _ _).alloc (Nat.le_refl _) _
    refine wp_make_zeros js.length (by omega) _ _ rfl rfl rfl ?_
    exact hK.out _ _ ⟨trivial, c0, c2, c4, true, c8, c10, X0, X2, X4, _, X8, X10, A4, u.heap.size, A8, A10, ks, aJ, cJ, by kernel_rfl, rfl, hB.trans (hb.mono hB.size), hX0, h20, hJ.on hb, h4.on hb, row1_new d0 u js.length (by omega) hB.size, h8.on hb, h10.on hb, h4.ne, n48, n410, h8.ne.flip, h10.ne.flip, n810⟩
   ·refine wpOp_inv rfl (fun K hK => ?_)
    rw [if_pos (by rfl)]
    have hb : Below u.heap.size u (u.alloc (.cells ((zerosI js.length).map (Value.int .i64)).toArray 3)) := (Below.refl _ _).alloc (Nat.le_refl _) _
    refine wp_make_zeros js.length (by omega) _ _ rfl rfl rfl ?_
    exact hK.out _ _ ⟨trivial, c0, c2, c4, c6, true, c10, X0, X2, X4, X6, _, X10, A4, A6, u.heap.size, A10, ks, aJ, cJ, by kernel_rfl, rfl, hB.trans (hb.mono hB.size), hX0, h20, hJ.on hb, h4.on hb, h6.on hb, row1_new d0 u js.length (by omega) hB.size, h10.on hb, n46, h4.ne, n410, h6.ne, n610, h10.ne.flip⟩
   ·refine wpOp_inv rfl (fun K hK => ?_)
    rw [if_pos (by rfl)]
    have hb : Below u.heap.size u (u.alloc (.cells ((zerosI js.length).map (Value.int .i64)).toArray 3)) := (Below.refl _ _).alloc (Nat.le_refl _) _
    refine wp_make_zeros js.length (by omega) _ _ rfl rfl rfl ?_
    exact hK.out _ _ ⟨trivial, c0, c2, c4, c6, c8, true, X0, X2, X4, X6, X8, _, A4, A6, A8, u.heap.size, ks, aJ, cJ, by kernel_rfl, rfl, hB.trans (hb.mono hB.size), hX0, h20, hJ.on hb, h4.on hb, h6.on hb, h8.on hb, row1_new d0 u js.length (by omega) hB.size, n46, n48, h4.ne, n68, h6.ne, h8.ne⟩
  rintro l a' u ⟨c0, c2, c4, c6, c8, c10, X0, X2, X4, X6, X8, X10, A4, A6, A8, A10, ks, aJ, cJ, rfl, rfl, hB, hX0, h20, hJ, h4, h6, h8, h10, n46, n48, n410, n68, n610, n810⟩ hst
  obtain ⟨rfl, rfl, rfl, rfl, rfl⟩ : c2 = true ∧ c4 = true ∧ c6 = true ∧ c8 = true ∧ c10 = true := by simpa using hst
  obtain rfl := h20 rfl
  obtain rfl := hX0 rfl
  have hJI := hJ rfl
  have OWN := sch_own hJI h4 h6 h8 h10 (n46 rfl rfl) (n48 rfl rfl) (n410 rfl rfl) (n68 rfl rfl) (n610 rfl rfl) (n810 rfl rfl)
  have hkl : ks.length = js.length := by
   have := congrArg List.length hJI.ops.out
   rwa [opsJ_len, opsJ_len] at this
  obtain rfl := hJI.val
  obtain rfl := (h4 rfl).1
  obtain rfl := (h6 rfl).1
  obtain rfl := (h8 rfl).1
  obtain rfl := (h10 rfl).1
  have hops := hJI.ops
  obtain ⟨q, hq⟩ : ∃ q : SchA, Hid ((⟨newE, ks, aJ, cJ, js.length, some ⟨A4, 0, none⟩, js.length, some ⟨A6, 0, none⟩, js.length, some ⟨A8, 0, none⟩, js.length, some ⟨A10, 0, none⟩, js.length⟩ : SchA) = q) := ⟨_, rfl⟩
  have bU := bD.below hB bD.lt
  have hbs := bD.lt
  have hus := hB.size
  obtain ⟨W2, hW2, hw2, hs2, HT2, b2⟩ := sch_out (q := q) (by rw [← hq.out]; exact newE_shape) (by rw [← hz.out]; exact zeroE_shape) bU
  have HLD : Hid ((loadVar 48 ⟨w.heap.size, 0, none⟩).run Try.prog W2 = .ok (.agg q.cells.toArray) W2) := sch_load (by rw [← hq.out]; exact newE_shape) b2
  have HI : Hid ((Try.prog.info? 48).map (·.size) = some q.cells.toArray.size) := sch_info (by rw [← hq.out]; exact newE_shape)
  have HC := all_oneCell_toArray (oneSch q)
  have N2 : Below w.heap.size w W2 := (hbW.trans ((D0.trans (hB.mono D0.size)).mono hbW.size)).trans (hw2.below (Nat.le_refl _) (by omega))
  have HEND : Hid (q.e = newE ∧ Hid (opsJ q.js = opsJ js) ∧ q.n = js.length ∧ q.own W2 w.heap.size W2.heap.size) := by
   rw [← hq.out]
   refine ⟨rfl, hops, rfl, ⟨⟨?_, ?_, ?_, ?_, ?_⟩, OWN.apart⟩⟩
   ·exact (OWN.lists.js.within hw2 (.inr (by omega))).widen (by omega) (by omega) (Nat.le_refl _)
   ·exact (OWN.lists.r3.within hw2 (.inr (by omega))).widen (by omega) (by omega) (Nat.le_refl _)
   ·exact (OWN.lists.r4.within hw2 (.inr (by omega))).widen (by omega) (by omega) (Nat.le_refl _)
   ·exact (OWN.lists.r5.within hw2 (.inr (by omega))).widen (by omega) (by omega) (Nat.le_refl _)
   ·exact (OWN.lists.r6.within hw2 (.inr (by omega))).widen (by omega) (by omega) (Nat.le_refl _)
  have HW2 : Hid (u.setCells w.heap.size 0 q.cells.toArray.toList = W2) := hW2
  clear hst hX0 hJ hJI h4 h6 h8 h10 n46 n48 n410 n68 n610 n810 OWN hops b2 bU bD hw2 hs2 D0 hbW hB hb1 b1 N1 CE CC hW2
  have hHeld : True := trivial
  refine wpAnyH_ready (rs := [11]) (by kernel_rfl) (by simp) ?_
  refine AllReadyH.cons rfl (fun K hK => ?_) AllReadyH.nil
  rw [if_pos (by rfl)]
  refine wp_buildS rfl q (by rw [← hq.out]) rfl (by rw [← hq.out]; rfl) (by rw [← hq.out]; rfl) (by rw [← hq.out]; rfl) (by rw [← hq.out]; rfl) (by rw [← hq.out]; rfl) ?_
  refine hK.out _ _ trivial (fun hHeld => ?_)
  clear hK K
  try simp only [Act.put, zA, zB, zC, zD, zE, zF]
  refine wpAnyH_ready (rs := [12]) (by kernel_rfl) (by simp) ?_
  refine AllReadyH.cons rfl (fun K hK => ?_) AllReadyH.nil
  rw [if_pos (by rfl)]
  refine wp_store_mid 48 (.tmp 2) (.tmp 21) rfl w.heap.size 0 q.cells.toArray rfl rfl HT2.out HI.out HC ?_
  rw [HW2.out]
  refine hK.out _ _ trivial (fun hHeld => ?_)
  clear hK K
  try simp only [Act.put, zA, zB, zC]
  refine wpAnyH_done (by kernel_rfl) ?_ _
  clear hHeld HT2 HW2 HI HC
  go_wp2_with fail
  exact bodyPost_ret (v := .agg q.cells.toArray) (results_one Try.results7 rfl HLD.out) rfl ⟨q, rfl, by first | exact HEND.out.1 | (rw [if_pos hBB.out]; exact HEND.out.1) | (show _ = _; rw [if_pos hBB.out]; exact HEND.out.1), by first | exact HEND.out.2.1 | (rw [if_pos hBB.out]; exact HEND.out.2.1) | (show _ = _; rw [if_pos hBB.out]; exact HEND.out.2.1), by first | exact HEND.out.2.2.1 | (rw [if_pos hBB.out]; exact HEND.out.2.2.1) | (show _ = _; rw [if_pos hBB.out]; exact HEND.out.2.2.1), HEND.out.2.2.2, N2⟩
end Go.Proofs.Ytgnkplbefclpgaa
namespace Go.Proofs.Ytgnkplbefclpgaa
open Go.RowKit
theorem SchA.own.within {w w' : World} {lo hi l r : Nat} {s : SchA} (h : s.own w lo hi) (hw : Within l r w w') (hd : hi ≤ l ∨ r ≤ lo) : s.own w' lo hi := ⟨⟨h.lists.js.within hw hd, h.lists.r3.within hw hd, h.lists.r4.within hw hd, h.lists.r5.within hw hd, h.lists.r6.within hw hd⟩, h.apart⟩
theorem countJ_ops (js : List JobA) : countJ js = ((opsJ js).map (fun l => 3 * l.length)).sum := by simp [countJ, opsJ, Function.comp_def]
theorem sum_le_six (L : List (List OpV)) (h : ∀ l ∈ L, l.length ≤ 6) : (L.map (fun l => 3 * l.length)).sum ≤ 18 * L.length := by
 induction L with
 | nil => simp
 | cons a r ih =>
  have := ih (fun l hl => h l (by simp [hl]))
  have := h a (by simp)
  simp only [List.map_cons, List.sum_cons, List.length_cons]
  omega
theorem load_ifS {ops : Array Oper} {rest : List Oper} {op : Oper} {a : Act} {w : World} {Q : Exit → Act → World → Prop} {P : Program} (hw : Region.wanted op (yielded ops a.tmps) = true) (ty : TypeId) (x : Operand) (ho : op.op = .load ty x)
  (b o : Nat) (hx : a.eval x = .pointer (some ⟨b, o, none⟩)) (cs : List Value) (d : TypeDesc) (hc : w.rangeAt b o cs)
  (hu : P.underlying ty = some d) (hd : d.isRow = true) (hi : (P.info? ty).map (·.size) = some cs.length)
  (h : wpList P ops Q rest (a.put op.dst (.agg cs.toArray)) w) : wpList P ops Q (op :: rest) a w :=
 wpList_step fun _ hK => by
  simp only [hw, if_true]
  exact wp_load_mid ty x ho b o hx cs d hc hu hd hi (hK _ _ h)
structure NewOf (L : List (List OpV)) (s : SchA) : Prop where
 e : s.e = (if jobsB L = true then newE else zeroE)
 ops : Hid (opsJ s.js = if jobsB L = true then L else [])
 n : s.n = (if jobsB L = true then L.length else 0)
theorem NewOf.bare {L : List (List OpV)} {s : SchA} (h : NewOf L s) : Bare s.e := by
 rw [h.e]
 split
 ·exact newE_bare
 ·exact zeroE_bare
theorem NewOf.small {L : List (List OpV)} {s : SchA} (h : NewOf L s) : s.n ≤ 1000 ∧ countJ s.js ≤ 1000 ∧ s.js.length ≤ 1000 ∧ JobsShort s.js 1099511627776 := by
 have h1 := h.ops.out
 have h2 := h.n
 by_cases hB : jobsB L = true
 ·rw [if_pos hB] at h1 h2
  have hB' := hB
  simp only [jobsB, Bool.and_eq_true, decide_eq_true_eq, List.all_eq_true] at hB'
  obtain ⟨h4, hall⟩ := hB'
  have h6 : ∀ l ∈ L, l.length ≤ 6 := fun l hl => by
   have := hall l hl
   simp only [opsB, Bool.and_eq_true, decide_eq_true_eq] at this
   exact this.1
  have hl : s.js.length = L.length := by rw [← opsJ_len, h1]
  have hc := sum_le_six L h6
  refine ⟨by omega, by rw [countJ_ops, h1]; omega, by omega, by omega, fun j hj => ?_⟩
  have := h6 j.ops (by rw [← h1]; exact List.mem_map_of_mem hj)
  omega
 ·rw [if_neg hB] at h1 h2
  have h0 : s.js.length = 0 := by rw [← opsJ_len, h1]; rfl
  have h00 : s.js = [] := List.length_eq_zero_iff.1 h0
  refine ⟨by omega, by rw [h00]; decide, by omega, by omega, fun j hj => by rw [h00] at hj; cases hj⟩
theorem countJ_million {js : List JobA} (h : JobsShort js 1048576) : countJ js ≤ 3298534883328 := by
 have : ∀ l : List JobA, (∀ j ∈ l, j.ops.length ≤ 1048576) → countJ l ≤ 3145728 * l.length := by
  intro l
  induction l with
  | nil => intro _; simp [countJ]
  | cons a r ih =>
   intro h
   have h1 := ih (fun j hj => h j (by simp [hj]))
   have h2 := h a (by simp)
   rw [countJ_cons, List.length_cons]
   omega
 have h1 := this js h.each
 have := h.len
 omega
theorem specNew (a : Option Addr) (cap : Nat) (js : List JobA) (w : World) (lo hi : Nat) (hr : OwnJ w lo hi a cap js) (hs : JobsShort js 1048576) :
  Calls Try.prog 5 #[.slice a js.length cap] w fun e w' => ∃ s : SchA, e = .returned (.agg s.cells.toArray) ∧ NewOf (opsJ js) s ∧ s.own w' w.heap.size w'.heap.size ∧ Below w.heap.size w w' := by
 refine (specSchedNew_any a cap js w hr.reads hs (fun j hj => (hr.each j hj).nocap)).mono ?_
 rintro e w' ⟨s, rfl, h1, h2, h3, h4, h5⟩
 exact ⟨s, rfl, ⟨h1, h2, by rw [opsJ_len]; exact h3⟩, h4, h5⟩
theorem implNew (a : Option Addr) (cap : Nat) (js : List JobA) (w : World) (lo hi : Nat) (hr : OwnJ w lo hi a cap js) (hs : JobsShort js 1048576) :
  Calls Try.prog 7 #[.slice a js.length cap] w fun e w' => ∃ s : SchA, e = .returned (.agg s.cells.toArray) ∧ NewOf (opsJ js) s ∧ s.own w' w.heap.size w'.heap.size ∧ Below w.heap.size w w' := by
 refine (implSchedNew_any a cap js w hr.reads hs (fun j hj => (hr.each j hj).nocap)).mono ?_
 rintro e w' ⟨s, rfl, h1, h2, h3, h4, h5⟩
 exact ⟨s, rfl, ⟨h1, h2, by rw [opsJ_len]; exact h3⟩, h4, h5⟩
theorem NewOf.eq {L : List (List OpV)} {s t : SchA} (h : NewOf L s) (g : NewOf L t) : t.e = s.e ∧ t.n = s.n ∧ Hid (opsJ t.js = opsJ s.js) := ⟨by rw [h.e, g.e], by rw [h.n, g.n], by rw [Hid, h.ops.out, g.ops.out]⟩
theorem short_of_ops {js ks : List JobA} {n : Nat} (h : JobsShort js n) (e : opsJ ks = opsJ js) : JobsShort ks n := h.of_ops e
theorem newMade {L : List (List OpV)} {s t : SchA} (hs : NewOf L s) (ht : NewOf L t) (w : World) {a b c d : Nat} (os : s.own w a b) (ot : t.own w c d) :
  Calls Try.prog 8 #[.agg s.cells.toArray, .agg t.cells.toArray] w fun r w' => r = .returned (.bool true) ∧ Below w.heap.size w w' :=
 eqSched_same s t (hs.eq ht).1 hs.bare (hs.eq ht).2.1 (hs.eq ht).2.2 w (os.reads hs.bare) (ot.reads ht.bare) hs.small.2.2.2 hs.small.1
theorem lawSchedNew_walk (a : Option Addr) (c : Nat) (js : List JobA) (w : World) (hr : ReadsJ w a js) (hlen : JobsShort js maxLen) :
  Calls Try.prog 3 #[.slice a js.length c] w fun e w' => e = .returned (.bool true) ∧ Below w.heap.size w w' := by
 have hsz : JobsShort js 9223372036854775807 := hlen.mono (by simp only [maxLen]; omega)
 clear hlen
 go_enter Try.func3, Try.ntmps3
 go_wp2_with fail
 refine (szOpSS_any a c js 1048576 w hr hsz (by omega)).mono ?_
 rintro e w0 ⟨left, rfl, hcase, rfl⟩
 rcases hcase with hs | ⟨hs, _, hsh⟩
 ·go_wp2
  go_ret
  exact ⟨rfl, Below.refl _ _⟩
 have hs2 : JobsShort js 1099511627776 := hsh.mono (by decide)
 clear hsz
 obtain ⟨Z, hZ⟩ : ∃ Z, Hid (zeroSch = Z) := ⟨_, rfl⟩
 have sZ : Z.e.shape := by rw [← hZ.out]; exact zeroE_shape
 have HR : Hid (∀ u, Below w0.heap.size w0 u → ReadsJ u a js) := fun u hu => hr.below hu
 have N : Below w0.heap.size w0 w0 := Below.refl _ _
 clear hr
 go_wp2_with fail
 refine (toOpSS_any a c js w0 (HR.out _ N) hs2).mono ?_
 rintro e w1 ⟨a1, c1, j1, rfl, he1, ho1, hb⟩
 have s1 := hb.size
 replace N := N.trans (hb.mono N.size)
 clear hb
 go_wp2_with fail
 refine (specNew a1 c1 j1 w1 _ _ ho1 (short_of_ops hsh he1.out)).mono ?_
 rintro e w2 ⟨p, rfl, hnp, op, hb⟩
 rw [he1.out] at hnp
 have s2 := hb.size
 have HIp : Hid ((Try.prog.info? 48).map (·.size) = some p.cells.length) := sch_info hnp.bare.shape
 have HCp := all_oneCell_toArray (oneSch p)
 replace ho1 := ho1.below hb
 replace N := N.trans (hb.mono N.size)
 clear hb
 obtain ⟨Z3, hZ3, bZ, hbZ, hsZ⟩ := boxes1 w2 Z.cells 48
 obtain ⟨w3, hS3, hwZ, hzZ, HT3, b4⟩ := sch_out hnp.bare.shape sZ bZ
 have hb : Below w2.heap.size w2 w3 := hbZ.trans (hwZ.below (Nat.le_refl _) (by omega))
 have s3 := hb.size
 have l3 := b4.lt
 clear bZ hbZ hsZ hwZ hzZ
 replace ho1 := ho1.below hb
 replace op := op.below hb
 replace N := N.trans (hb.mono N.size)
 clear hb
 go_wp2_with (first | (guard_target = wpList _ _ _ (Oper.mk (some 4) (Op.alloc _) _ _ _ _ :: _) _ _; refine alloc_sch ?_; rw [hZ.out]) | (guard_target = wpList _ _ _ (Oper.mk none (Op.store _ (Operand.tmp 4) _) _ _ _ _ :: _) _ _; refine wpList_store_mid rfl 48 (.tmp 4) (.tmp 18) rfl w2.heap.size 0 (p.cells).toArray rfl rfl (by rw [hZ3.out]; exact HT3.out) (by rw [List.size_toArray]; exact HIp.out) HCp ?_) | fail)
 rw [hZ3.out, hS3.out]
 clear hZ3 hS3 HT3
 refine (toOpSS_any a c js w3 (HR.out _ N) hs2).mono ?_
 rintro e w4 ⟨a4, c4, j4, rfl, he4, ho4, hb⟩
 have s4 := hb.size
 replace b4 := b4.below hb b4.lt
 replace ho1 := ho1.below hb
 replace op := op.below hb
 replace N := N.trans (hb.mono N.size)
 clear hb
 go_wp2_with fail
 refine (implNew a4 c4 j4 w4 _ _ ho4 (short_of_ops hsh he4.out)).mono ?_
 rintro e w5 ⟨q, rfl, hnq, oq, hb⟩
 rw [he4.out] at hnq
 have s5 := hb.size
 have HIq : Hid ((Try.prog.info? 48).map (·.size) = some q.cells.length) := sch_info hnq.bare.shape
 have HCq := all_oneCell_toArray (oneSch q)
 replace b4 := b4.below hb b4.lt
 replace ho1 := ho1.below hb
 replace op := op.below hb
 replace ho4 := ho4.below hb
 replace N := N.trans (hb.mono N.size)
 clear hb
 obtain ⟨Z6, hZ6, bZ, hbZ, hsZ⟩ := boxes1 w5 Z.cells 48
 obtain ⟨w6, hS6, hwZ, hzZ, HT6, b6⟩ := sch_out hnq.bare.shape sZ bZ
 have hb : Below w5.heap.size w5 w6 := hbZ.trans (hwZ.below (Nat.le_refl _) (by omega))
 have s6 := hb.size
 have l6 := b6.lt
 clear bZ hbZ hsZ hwZ hzZ
 replace b4 := b4.below hb b4.lt
 replace ho1 := ho1.below hb
 replace op := op.below hb
 replace ho4 := ho4.below hb
 replace oq := oq.below hb
 replace N := N.trans (hb.mono N.size)
 clear hb
 go_wp2_with (first | (guard_target = wpList _ _ _ (Oper.mk (some 6) (Op.alloc _) _ _ _ _ :: _) _ _; refine alloc_sch ?_; rw [hZ.out]) | (guard_target = wpList _ _ _ (Oper.mk none (Op.store _ (Operand.tmp 6) _) _ _ _ _ :: _) _ _; refine wpList_store_mid rfl 48 (.tmp 6) (.tmp 22) rfl w5.heap.size 0 (q.cells).toArray rfl rfl (by rw [hZ6.out]; exact HT6.out) (by rw [List.size_toArray]; exact HIq.out) HCq ?_) | (guard_target = wpList _ _ _ (Oper.mk (some 23) _ _ _ _ _ :: _) _ _; refine wpList_load_mid rfl 48 (.tmp 6) rfl w5.heap.size 0 rfl (q.cells) _ (by rw [hZ6.out, hS6.out]; exact (Box.range [] (q.cells) [] (by simpa using b6))) Try.underlying48 rfl HIq.out ?_) | (guard_target = wpList _ _ _ (Oper.mk (some 24) _ _ _ _ _ :: _) _ _; refine wpList_load_mid rfl 48 (.tmp 4) rfl w2.heap.size 0 rfl (p.cells) _ (by rw [hZ6.out, hS6.out]; exact (Box.range [] (p.cells) [] (by simpa using b4))) Try.underlying48 rfl HIp.out ?_) | fail)
 rw [hZ6.out, hS6.out]
 clear hZ6 hS6 HT6
 refine (newMade hnq hnp w6 oq op).mono ?_
 rintro e w7 ⟨rfl, hb⟩
 have s7 := hb.size
 replace b4 := b4.below hb b4.lt
 replace b6 := b6.below hb b6.lt
 replace ho1 := ho1.below hb
 replace op := op.below hb
 replace ho4 := ho4.below hb
 replace oq := oq.below hb
 replace N := N.trans (hb.mono N.size)
 clear hb
 go_wp2_with fail
 refine (toOpSS_any a c js w7 (HR.out _ N) hs2).mono ?_
 rintro e w8 ⟨a8, c8, j8, rfl, he8, ho8, hb⟩
 have s8 := hb.size
 replace b4 := b4.below hb b4.lt
 replace b6 := b6.below hb b6.lt
 replace ho1 := ho1.below hb
 replace op := op.below hb
 replace ho4 := ho4.below hb
 replace oq := oq.below hb
 replace N := N.trans (hb.mono N.size)
 clear hb
 go_wp2_with fail
 refine (eqOpSS_same a4 a8 c4 c8 j4 j8 w8 ho4.reads ho8.reads (he8.out.trans he4.out.symm) (hs2.of_ops he4.out)).mono ?_
 rintro e w9 ⟨rfl, hb⟩
 have s9 := hb.size
 replace b4 := b4.below hb b4.lt
 replace b6 := b6.below hb b6.lt
 replace ho1 := ho1.below hb
 replace op := op.below hb
 replace ho4 := ho4.below hb
 replace oq := oq.below hb
 replace ho8 := ho8.below hb
 replace N := N.trans (hb.mono N.size)
 clear hb
 have hcj : countJ j4 ≤ 3298534883328 := countJ_million (short_of_ops hsh he4.out)
 have hbl4 := ho4.blocks_lt
 clear ho8 he8
 go_wp2_with fail
 refine (markOpSS_touch _ _ a4 c4 1 j4 w9 ho4 (by omega) (by omega)).mono ?_
 rintro e w10 ⟨rfl, _, tj⟩
 have hw := tj.within hbl4
 have s10 := hw.size
 clear tj hbl4 ho4 ho1
 replace b4 := b4.within hw (by omega)
 replace b6 := b6.within hw (by omega)
 replace op := op.within hw (by omega)
 replace oq := oq.within hw (by omega)
 replace N := N.trans (hw.below (by omega) (by omega))
 clear hw
 have hk1 : ¬ (1 + (countJ j4 : Int)) < 0 := by omega
 generalize 1 + (countJ j4 : Int) = k1 at *
 have hkd : decide (k1 < 0) = false := decide_eq_false hk1
 go_wp2_with (first | (guard_target = wpList _ _ _ (Oper.mk (some 38) _ _ _ _ _ :: _) _ _; refine load_ifS (by first | rfl | (simp only [hkd]; rfl) | (rw [hkd]; rfl) | (show Region.wanted _ _ = true; simp only [hkd]; decide)) 48 (.tmp 6) rfl w5.heap.size 0 rfl (q.cells) _ (Box.range [] (q.cells) [] (by simpa using b6)) Try.underlying48 rfl HIq.out ?_) | (guard_target = wpList _ _ _ (Oper.mk (some 39) _ _ _ _ _ :: _) _ _; refine load_ifS (by first | rfl | (simp only [hkd]; rfl) | (rw [hkd]; rfl) | (show Region.wanted _ _ = true; simp only [hkd]; decide)) 48 (.tmp 4) rfl w2.heap.size 0 rfl (p.cells) _ (Box.range [] (p.cells) [] (by simpa using b4)) Try.underlying48 rfl HIp.out ?_) | fail)
 refine (newMade hnq hnp w10 oq op).mono ?_
 rintro e w11 ⟨rfl, hb⟩
 have s11 := hb.size
 replace b4 := b4.below hb b4.lt
 replace b6 := b6.below hb b6.lt
 replace op := op.below hb
 replace oq := oq.below hb
 replace N := N.trans (hb.mono N.size)
 clear hb
 go_wp2_with (first | (guard_target = wpList _ _ _ (Oper.mk (some 43) _ _ _ _ _ :: _) _ _; refine wpList_load_mid rfl 48 (.tmp 6) rfl w5.heap.size 0 rfl (q.cells) _ (Box.range [] (q.cells) [] (by simpa using b6)) Try.underlying48 rfl HIq.out ?_) | fail)
 have hblq := oq.blocks_lt
 refine (markSched_touch q hnq.bare _ _ 1 w11 oq (by omega) (by omega) (by omega) hnq.small.1 hnq.small.2.1).mono ?_
 rintro e w12 ⟨rfl, om, tj⟩
 have hw := tj.within hblq
 have s12 := hw.size
 clear tj hblq oq
 replace b4 := b4.within hw (by omega)
 replace b6 := b6.within hw (by omega)
 replace op := op.within hw (by omega)
 replace N := N.trans (hw.below (by omega) (by omega))
 clear hw
 have hkS : ¬ q.kS 1 < 0 := by unfold SchA.kS SchA.k6 SchA.k5 SchA.k4 SchA.k3; omega
 go_wp2_with (first | (guard_target = wpList _ _ _ (Oper.mk (some 46) _ _ _ _ _ :: _) _ _; refine wpList_load_mid rfl 48 (.tmp 6) rfl w5.heap.size 0 rfl (q.cells) _ (Box.range [] (q.cells) [] (by simpa using b6)) Try.underlying48 rfl HIq.out ?_) | fail)
 refine (heldSched_any q hnq.bare _ _ 1 w12 om (by omega) (by omega) hnq.small.1 hnq.small.2.1 hnq.small.2.2.1).mono ?_
 rintro e w13 ⟨rfl, hb⟩
 have s13 := hb.size
 replace b4 := b4.below hb b4.lt
 replace b6 := b6.below hb b6.lt
 replace op := op.below hb
 replace om := om.below hb
 replace N := N.trans (hb.mono N.size)
 clear hb
 go_wp2_with fail
 refine (toOpSS_any a c js w13 (HR.out _ N) hs2).mono ?_
 rintro e w14 ⟨a14, c14, j14, rfl, he14, ho14, hb⟩
 have s14 := hb.size
 replace b4 := b4.below hb b4.lt
 replace b6 := b6.below hb b6.lt
 replace op := op.below hb
 replace om := om.below hb
 replace N := N.trans (hb.mono N.size)
 clear hb
 go_wp2_with fail
 refine (implNew a14 c14 j14 w14 _ _ ho14 (short_of_ops hsh he14.out)).mono ?_
 rintro e w15 ⟨t, rfl, hnt, ot, hb⟩
 rw [he14.out] at hnt
 have s15 := hb.size
 have HIt : Hid ((Try.prog.info? 48).map (·.size) = some t.cells.length) := sch_info hnt.bare.shape
 have HCt := all_oneCell_toArray (oneSch t)
 replace b4 := b4.below hb b4.lt
 replace b6 := b6.below hb b6.lt
 replace op := op.below hb
 replace om := om.below hb
 replace ho14 := ho14.below hb
 replace N := N.trans (hb.mono N.size)
 clear hb
 obtain ⟨Z16, hZ16, bZ, hbZ, hsZ⟩ := boxes1 w15 Z.cells 48
 obtain ⟨w16, hS16, hwZ, hzZ, HT16, b10⟩ := sch_out hnt.bare.shape sZ bZ
 have hb : Below w15.heap.size w15 w16 := hbZ.trans (hwZ.below (Nat.le_refl _) (by omega))
 have s16 := hb.size
 have l16 := b10.lt
 clear bZ hbZ hsZ hwZ hzZ
 replace b4 := b4.below hb b4.lt
 replace b6 := b6.below hb b6.lt
 replace op := op.below hb
 replace om := om.below hb
 replace ho14 := ho14.below hb
 replace ot := ot.below hb
 replace N := N.trans (hb.mono N.size)
 clear hb
 go_wp2_with (first | (guard_target = wpList _ _ _ (Oper.mk (some 10) (Op.alloc _) _ _ _ _ :: _) _ _; refine alloc_sch ?_; rw [hZ.out]) | (guard_target = wpList _ _ _ (Oper.mk none (Op.store _ (Operand.tmp 10) _) _ _ _ _ :: _) _ _; refine wpList_store_mid rfl 48 (.tmp 10) (.tmp 56) rfl w15.heap.size 0 (t.cells).toArray rfl rfl (by rw [hZ16.out]; exact HT16.out) (by rw [List.size_toArray]; exact HIt.out) HCt ?_) | (guard_target = wpList _ _ _ (Oper.mk (some 57) _ _ _ _ _ :: _) _ _; refine wpList_load_mid rfl 48 (.tmp 10) rfl w15.heap.size 0 rfl (t.cells) _ (by rw [hZ16.out, hS16.out]; exact (Box.range [] (t.cells) [] (by simpa using b10))) Try.underlying48 rfl HIt.out ?_) | (guard_target = wpList _ _ _ (Oper.mk (some 58) _ _ _ _ _ :: _) _ _; refine wpList_load_mid rfl 48 (.tmp 4) rfl w2.heap.size 0 rfl (p.cells) _ (by rw [hZ16.out, hS16.out]; exact (Box.range [] (p.cells) [] (by simpa using b4))) Try.underlying48 rfl HIp.out ?_) | fail)
 rw [hZ16.out, hS16.out]
 clear hZ16 hS16 HT16
 refine (newMade hnt hnp w16 ot op).mono ?_
 rintro e w17 ⟨rfl, hb⟩
 have s17 := hb.size
 replace b4 := b4.below hb b4.lt
 replace b6 := b6.below hb b6.lt
 replace b10 := b10.below hb b10.lt
 replace op := op.below hb
 replace om := om.below hb
 replace ho14 := ho14.below hb
 replace ot := ot.below hb
 replace N := N.trans (hb.mono N.size)
 clear hb
 go_wp2_with (first | (guard_target = wpList _ _ _ (Oper.mk (some 61) _ _ _ _ _ :: _) _ _; refine wpList_load_mid rfl 48 (.tmp 6) rfl w5.heap.size 0 rfl (q.cells) _ (Box.range [] (q.cells) [] (by simpa using b6)) Try.underlying48 rfl HIq.out ?_) | fail)
 refine (heldSched_any q hnq.bare _ _ 1 w17 om (by omega) (by omega) hnq.small.1 hnq.small.2.1 hnq.small.2.2.1).mono ?_
 rintro e w18 ⟨rfl, hb⟩
 have s18 := hb.size
 replace b4 := b4.below hb b4.lt
 replace b6 := b6.below hb b6.lt
 replace b10 := b10.below hb b10.lt
 replace op := op.below hb
 replace om := om.below hb
 replace ho14 := ho14.below hb
 replace ot := ot.below hb
 replace N := N.trans (hb.mono N.size)
 clear hb
 clear b4 b6 b10 op ot om ho14
 go_wp2
 go_ret
 exact ⟨rfl, N⟩
end Go.Proofs.Ytgnkplbefclpgaa