/- Several texts in one, in their order. -/
import Derived.Test.YtoboickdkednkabDoorPBringx14
import Derived.Test.YtoboickdkednkabDoorPBringx15
import Derived.Test.YtoboickdkednkabDoorPBringx11
import Derived.Deep.CutRange
import Derived.Test.YtoboickdkednkabDoorPBringx1
set_option maxHeartbeats 8000000
set_option maxRecDepth 100000
namespace Go.Proofs.YtoboickdkednkabDoor
open Go.RowKit
theorem seat_rng {w : World} {B : Nat} {t : TypeId} (q : SeatA) (b : Box w B q.cells t) : w.rangeAt B 0 q.cells := Box.range [] q.cells [] (by simpa using b)
def BringLaw (w w' : World) (RO : PoolV) (RG : SeatV) (RK : Bool) (e : Ending) : Prop := ∃ (t : PoolA) (s : SeatA), e = .returned (.tuple #[.agg t.cells.toArray, .agg s.cells.toArray, .bool RK]) ∧ Hid (t.v = RO) ∧ Hid (s.v = RG) ∧ t.own w' w.heap.size w'.heap.size ∧ s.own w' w.heap.size w'.heap.size ∧ Below w.heap.size w w'
theorem lawBring_walk (p : PoolA) (n : Int) (pg : PageA) (h4 : pg.ss.length = 4) (w : World) (hg : ErrT w) (hinP : InPool w p) (hinS : ∀ s ∈ pg.ss, InSlot w s) :
  Calls Tryd.prog 3 #[.agg p.cells.toArray, .int .i64 n, .agg pg.cells.toArray] w fun e w' => e = .returned (.bool true) ∧ Below w.heap.size w w' := by
 obtain ⟨plsn, pss⟩ := pg
 obtain ⟨a0, a1, a2, a3, rfl⟩ := four_slots' (ts := pss) h4
 obtain ⟨r, hrr⟩ : ∃ r : PgA, Hid ((⟨plsn, a0, a1, a2, a3⟩ : PgA) = r) := ⟨_, rfl⟩
 have ec : PageA.cells ⟨plsn, [a0, a1, a2, a3]⟩ = r.cells := by rw [← hrr.out]; rfl
 have hrs : r.short 9223372036854775807 := by
  rw [← hrr.out]
  intro x hx
  have h1 := (hinS x hx).lI
  have h2 := (hinS x hx).lR
  simp only [maxLen] at h1 h2
  omega
 have hrw : r.reads w := by rw [← hrr.out]; exact fun x hx => (hinS x hx).reads
 rw [ec]
 clear hrr ec hinS h4
 obtain ⟨W, hW, bx2, bx3, hbW, hsW⟩ := boxes2 w p.cells r.cells 24 32
 have hsm : p.short 9223372036854775807 := hinP.short
 have hrd : p.reads w := hinP.reads
 have hRp : ∀ u, Below W.heap.size W u → p.reads u := fun u hh => hrd.below (hbW.trans (hh.mono hbW.size))
 have hRd : ∀ u, Below W.heap.size W u → r.reads u := fun u hh => hrw.below (hbW.trans (hh.mono hbW.size))
 have hgB : ∀ u, Below W.heap.size W u → ErrT u := fun u hh => hg.keep (hbW.trans (hh.mono hbW.size))
 have BW : Below W.heap.size W W := Below.refl _ _
 have HSH : Hid (_) := hrs
 have HSP : Hid (∀ (ts : PoolA) (u : PgA) (x : World) {l1 h1 l2 h2 : Nat}, ts.v = p.v → u.v = r.v → ts.own x l1 h1 → ts.short 1048576 → u.own x l2 h2 → u.short 1099511627776 → Calls Tryd.prog 6 #[.agg ts.cells.toArray, .int .i64 n, .agg u.cells.toArray] x fun e x' => BringLaw x x' (bringOf p.v n r.v.lsn r.v.ss).1 (bringOf p.v n r.v.lsn r.v.ss).2.1 (bringOf p.v n r.v.lsn r.v.ss).2.2 e) := fun ts u x {_ _ _ _} h1 h2 a b c d => by
  refine (specBring_any ts n u.page rfl x a.reads b c.reads d).mono ?_
  rintro e x' ⟨t, s, bb, rfl, hv, ho, hs, hb⟩
  have e1 : bringOf p.v n r.v.lsn r.v.ss = (t.v, s.v, bb) := by rw [← h1, ← h2]; exact hv.out
  exact ⟨t, s, by rw [e1], by rw [Hid, e1], by rw [Hid, e1], ho, hs, hb⟩
 have HIM : Hid (∀ (ts : PoolA) (u : PgA) (x : World) {l1 h1 l2 h2 : Nat}, ErrT x → ts.v = p.v → u.v = r.v → ts.own x l1 h1 → ts.short 1048576 → u.own x l2 h2 → u.short 1099511627776 → Calls Tryd.prog 9 #[.agg ts.cells.toArray, .int .i64 n, .agg u.cells.toArray] x fun e x' => BringLaw x x' (bringOf p.v n r.v.lsn r.v.ss).1 (bringOf p.v n r.v.lsn r.v.ss).2.1 (bringOf p.v n r.v.lsn r.v.ss).2.2 e) := fun ts u x {_ _ _ _} g h1 h2 a b c d => by
  refine (implBring_any ts n u.page rfl x g a.reads b c.reads d).mono ?_
  rintro e x' ⟨t, s, bb, rfl, hv, ho, hs, hb⟩
  have e1 : bringOf p.v n r.v.lsn r.v.ss = (t.v, s.v, bb) := by rw [← h1, ← h2]; exact hv.out
  exact ⟨t, s, by rw [e1], by rw [Hid, e1], by rw [Hid, e1], ho, hs, hb⟩
 have HSM : Hid ((r.short 1048576) → p.short 1048576 → (∀ ts : PoolA, ts.v = (bringOf p.v n r.v.lsn r.v.ss).1 → ts.short 1048576) ∧ ∀ s : SeatA, s.v = (bringOf p.v n r.v.lsn r.v.ss).2.1 → s.short 1048576) := fun h1 h2 => ⟨fun ts h3 => bring_short h3 h2 (fun x hx => by obtain ⟨y, hy, rfl⟩ := List.mem_map.1 hx; exact h1 y hy), fun s h3 => bring_gone_short h3 h2 (fun x hx => by obtain ⟨y, hy, rfl⟩ := List.mem_map.1 hx; exact h1 y hy)⟩
 generalize (bringOf p.v n r.v.lsn r.v.ss).1 = RO at *
 generalize (bringOf p.v n r.v.lsn r.v.ss).2.1 = RG at *
 generalize (bringOf p.v n r.v.lsn r.v.ss).2.2 = RK at *
 have hW0 := bx3.lt
 clear hsW hinP hrs hrw
 go_enter Tryd.func3, Tryd.ntmps3
 go_wp2_with (first | (guard_target = wpList _ _ _ (Oper.mk (some 22) _ _ _ _ _ :: _) _ _; refine wpList_load_mid rfl 24 (.tmp 3) rfl w.heap.size 0 rfl p.cells _ (by rw [hW.out]; exact pool_rng p bx2) Tryd.underlying24 rfl (lpool_info p) ?_) | fail)
 rw [hW.out]
 clear hW
 refine (szPool_any p 1048576 W (hRp W BW) hsm (by omega)).mono ?_
 rintro e w1 ⟨z, rfl, hz, hb1⟩
 replace bx2 := bx2.below hb1 bx2.lt
 replace bx3 := bx3.below hb1 bx3.lt
 replace BW := BW.trans (hb1.mono BW.size)
 have s1 := hb1.size
 rcases hz with hneg | ⟨hz0, hzl, hl⟩
 ·go_wp2
  go_ret
  exact ⟨rfl, hbW.trans (BW.mono hbW.size)⟩
 have hzn : ¬ z < 0 := by omega
 go_wp2_with (first | (guard_target = wpList _ _ _ (Oper.mk (some 27) _ _ _ _ _ :: _) _ _; refine wpList_load_mid rfl 32 (.tmp 5) rfl (w.heap.size + 1) 0 rfl r.cells _ (pg_rng r bx3) Tryd.underlying32 rfl (lpg_info _) ?_) | fail)
 refine (szPg_any r z w1 HSH.out (by omega)).mono ?_
 rintro e w2 ⟨z2, rfl, hz2, hb2⟩
 replace bx2 := bx2.below hb2 bx2.lt
 replace bx3 := bx3.below hb2 bx3.lt
 replace BW := BW.trans (hb2.mono BW.size)
 have s2 := hb2.size
 rcases hz2 with hneg | ⟨hz20, _, hlr⟩
 ·go_wp2
  go_ret
  exact ⟨rfl, hbW.trans (BW.mono hbW.size)⟩
 have hzn2 : ¬ z2 < 0 := by omega
 have HU : Hid (_ ∧ _) := ⟨Tryd.underlying24, Tryd.underlying32⟩
 have HRG : Hid (∀ u, Below w2.heap.size w2 u → u.rangeAt w.heap.size 0 p.cells ∧ u.rangeAt (w.heap.size + 1) 0 r.cells) := fun u hu => ⟨pool_rng p (bx2.below hu bx2.lt), pg_rng r (bx3.below hu bx3.lt)⟩
 go_upto_region 8 with fail
 go_cut [8, 9, 10] from 22 (fun a b c wx => ∃ (Bx Gx : Nat) (aw : PoolA) (ag : SeatA), a = .pointer (some ⟨Bx, 0, none⟩) ∧ b = .pointer (some ⟨Gx, 0, none⟩) ∧ c = .bool RK ∧ Hid (aw.v = RO) ∧ Hid (ag.v = RG) ∧ Box wx Bx (PoolA.cells aw) 37 ∧ Box wx Gx (SeatA.cells ag) 45 ∧ PoolA.own wx w2.heap.size wx.heap.size aw ∧ SeatA.own wx w2.heap.size wx.heap.size ag ∧ Below w2.heap.size w2 wx)
 case first =>
  as_aux_lemma =>
  have hu1 := HU.out.1
  have hu2 := HU.out.2
  have hi1 := lpool_info p
  have hi2 := lpg_info r
  have D0 : Below w2.heap.size w2 w2.drew := (Below.refl _ _).drew
  refine wp_region_held_drew (S := fun w' => w'.rangeAt w.heap.size 0 p.cells ∧ w'.rangeAt (w.heap.size + 1) 0 r.cells) (by kernel_rfl) (HRG.out _ D0) (fun hHeld => ?_)
  refine tk 0 rfl (yieldsIf_load_mid (by rfl) _ _ rfl _ _ rfl p.cells _ (fun _ h => h.1) hu1 rfl hi1) hHeld ?_
  go_simp
  refine tk 2 (v := .int .i64 n) rfl (Or.inl ⟨by rfl, fun w' _ => ?_⟩) hHeld ?_
  ·go_simp
  go_simp
  refine tk 3 rfl (yieldsIf_load_mid (by rfl) _ _ rfl _ _ rfl r.cells _ (fun _ h => h.2) hu2 rfl hi2) hHeld ?_
  go_simp
  generalize hD : w2.drew = d0 at *
  refine wpAnyH_ready (rs := [1, 10, 11]) (by kernel_rfl) (by simp) ?_
  refine AllReadyH.cons rfl (fun K hK => ?_) (AllReadyH.cons rfl (fun K hK => ?_) (AllReadyH.cons rfl (fun K hK => ?_) AllReadyH.nil))
  focus
   go_simp
   refine (toPool_any p _ (hRp _ (BW.trans (D0.mono BW.size))) hl).mono ?_
   rintro e x0a ⟨ts, rfl, hvt, hot, hba⟩
   have D0a : Below w2.heap.size w2 x0a := D0.trans (hba.mono D0.size)
   have za := hba.size
   refine hK.out _ _ (HRG.out _ D0a) (fun hHeld => ?_)
   clear hK K hba
   refine wpAnyH_ready (rs := [4, 10, 11]) (by kernel_rfl) (by simp) ?_
   refine AllReadyH.cons rfl (fun K hK => ?_) (AllReadyH.cons rfl (fun K hK => ?_) (AllReadyH.cons rfl (fun K hK => ?_) AllReadyH.nil))
   focus
    go_simp
    refine (toPg_law r _ (hRd _ (BW.trans (D0a.mono BW.size))) hlr).mono ?_
    rintro e x0ab ⟨uu, rfl, hvu, hou, hbb⟩
    have D0ab : Below w2.heap.size w2 x0ab := D0a.trans (hbb.mono D0a.size)
    replace hot := hot.below hbb
    have zb := hbb.size
    refine hK.out _ _ (HRG.out _ D0ab) (fun hHeld => ?_)
    clear hK K hbb
    refine wpAnyH_ready (rs := [5, 10, 11]) (by kernel_rfl) (by simp) ?_
    refine AllReadyH.cons rfl (fun K hK => ?_) (AllReadyH.cons rfl (fun K hK => ?_) (AllReadyH.cons rfl (fun K hK => ?_) AllReadyH.nil))
    focus
     go_simp
     refine (HSP.out ts uu _ hvt.out hvu.out hot (PoolA.short_of hvt.out hl) hou (pg_short_wide (pg_short_of hvu.out hlr))).mono ?_
     rintro e x0abc ⟨aw, ag, rfl, hva, hvg, hoa, hog, hbc⟩
     have D0abc : Below w2.heap.size w2 x0abc := D0ab.trans (hbc.mono D0ab.size)
     have zc := hbc.size
     refine hK.out _ _ (HRG.out _ D0abc) (fun hHeld => ?_)
     clear hK K hbc
     refine tk 6 (v := .tuple #[.agg (PoolA.cells aw).toArray, .agg (SeatA.cells ag).toArray, .bool RK]) rfl (Or.inl ⟨by rfl, fun w' _ => ?_⟩) hHeld ?_
     ·go_simp
     go_simp
     refine tk 7 (v := .agg (PoolA.cells aw).toArray) rfl (Or.inl ⟨by rfl, fun w' _ => ?_⟩) hHeld ?_
     ·go_simp
     go_simp
     refine tk 8 (v := .agg (SeatA.cells ag).toArray) rfl (Or.inl ⟨by rfl, fun w' _ => ?_⟩) hHeld ?_
     ·go_simp
     go_simp
     refine tk 9 (v := .bool RK) rfl (Or.inl ⟨by rfl, fun w' _ => ?_⟩) hHeld ?_
     ·go_simp
     go_simp
     refine wpAnyH_ready (rs := [10, 11]) (by kernel_rfl) (by simp) ?_
     refine AllReadyH.cons rfl (fun K hK => ?_) (AllReadyH.cons rfl (fun K hK => ?_) AllReadyH.nil)
     focus
      go_simp
      obtain ⟨x0abcy, hWA, bA0, hby, zy⟩ := boxes1 x0abc [.slice none 0 0, .int .i64 0] 37
      replace zy : x0abc.heap.size < x0abcy.heap.size := by omega
      rw [hWA.out]
      have bA : Box x0abcy x0abc.heap.size [.slice none 0 0, .int .i64 0] 37 := bA0
      have D0abcy : Below w2.heap.size w2 x0abcy := D0abc.trans (hby.mono D0abc.size)
      replace hoa := hoa.below hby
      replace hog := hog.below hby
      refine hK.out _ _ (HRG.out _ D0abcy) (fun hHeld => ?_)
      clear hK K hWA bA0 hby
      refine wpAnyH_ready (rs := [11]) (by kernel_rfl) (by simp) ?_
      refine AllReadyH.cons rfl (fun K hK => ?_) AllReadyH.nil
      go_simp
      obtain ⟨x0abcyz, hWA, bB0, hbz, zz⟩ := boxes1 x0abcy [.int .i64 0, .int .i64 0, .bool false, .int .i64 0, .slice none 0 0, .slice none 0 0, .bool false, .int .i64 0, .slice none 0 0, .slice none 0 0, .bool false, .int .i64 0, .slice none 0 0, .slice none 0 0, .bool false, .int .i64 0, .slice none 0 0, .slice none 0 0, .bool false, .bool false] 45
      replace zz : x0abcy.heap.size < x0abcyz.heap.size := by omega
      rw [hWA.out]
      have bB : Box x0abcyz x0abcy.heap.size [.int .i64 0, .int .i64 0, .bool false, .int .i64 0, .slice none 0 0, .slice none 0 0, .bool false, .int .i64 0, .slice none 0 0, .slice none 0 0, .bool false, .int .i64 0, .slice none 0 0, .slice none 0 0, .bool false, .int .i64 0, .slice none 0 0, .slice none 0 0, .bool false, .bool false] 45 := bB0
      have D0abcyz : Below w2.heap.size w2 x0abcyz := D0abcy.trans (hbz.mono D0abcy.size)
      replace bA := bA.below hbz bA.lt
      replace hoa := hoa.below hbz
      replace hog := hog.below hbz
      refine hK.out _ _ (HRG.out _ D0abcyz) (fun hHeld => ?_)
      clear hK K hWA bB0 hbz
      obtain ⟨WE, hWE, hwE, hsE, HTE, _, bE⟩ := pool_out aw _ rfl bA
      replace bB := bB.within hwE (by omega)
      obtain ⟨WF, hWF, hwF, hsF, HTF, _, bF⟩ := seat_out ag _ rfl bB
      replace bE := bE.within hwF (by omega)
      have lA := bA.lt
      have lB := bB.lt
      have y1 := D0.size
      have y2 := D0a.size
      have y3 := D0ab.size
      have y4 := D0abc.size
      have y5 := D0abcy.size
      have y6 := D0abcyz.size
      have oF : PoolA.own WF w2.heap.size WF.heap.size aw := ((hoa.within hwE (by omega)).within hwF (by omega)).widen (by omega) (by omega) (Nat.le_refl _)
      have gF : SeatA.own WF w2.heap.size WF.heap.size ag := ((hog.within hwE (by omega)).within hwF (by omega)).widen (by omega) (by omega) (Nat.le_refl _)
      have DE : Below w2.heap.size w2 WE := D0abcyz.trans (hwE.below (by omega) (by omega))
      have DF : Below w2.heap.size w2 WF := DE.trans (hwF.below (by omega) (by omega))
      refine wpAnyH_ready (rs := [12]) (by kernel_rfl) (by simp) ?_
      refine AllReadyH.cons rfl (fun K hK => ?_) AllReadyH.nil
      rw [if_pos (by rfl)]
      refine wp_store_mid 37 (.tmp 8) (.tmp 39) rfl x0abc.heap.size 0 (PoolA.cells aw).toArray rfl rfl HTE.out (by rw [List.size_toArray]; exact pool_info _) (pool_one _) ?_
      have HW : Hid ((x0abcyz).setCells x0abc.heap.size 0 (PoolA.cells aw).toArray.toList = WE) := hWE.out
      rw [HW.out]
      refine hK.out _ _ (HRG.out _ DE) (fun hHeld => ?_)
      clear hK K HW hWE HTE
      simp only [Act.put, zA, zB, zC]
      refine wpAnyH_ready (rs := [13]) (by kernel_rfl) (by simp) ?_
      refine AllReadyH.cons rfl (fun K hK => ?_) AllReadyH.nil
      rw [if_pos (by rfl)]
      refine wp_store_mid 45 (.tmp 9) (.tmp 40) rfl x0abcy.heap.size 0 (SeatA.cells ag).toArray rfl rfl HTF.out (by rw [List.size_toArray]; exact seat_info _) (seat_one _) ?_
      have HW : Hid ((WE).setCells x0abcy.heap.size 0 (SeatA.cells ag).toArray.toList = WF) := hWF.out
      rw [HW.out]
      refine hK.out _ _ (HRG.out _ DF) (fun hHeld => ?_)
      clear hK K HW hWF HTF
      simp only [Act.put, zA, zB, zC]
      refine tk 14 (v := .bool RK) rfl (Or.inl ⟨by rfl, fun w' _ => ?_⟩) hHeld ?_
      ·go_simp
      go_simp
      refine wpAnyH_done (by kernel_rfl) ?_ _
      clear hHeld
      go_wp2_with fail
      go_meet
      case rel => exact ⟨x0abc.heap.size, x0abcy.heap.size, aw, ag, rfl, rfl, rfl, hva, hvg, bE, bF, oF, gF, DF⟩
     focus
      go_simp
      obtain ⟨x0abcz, hWA, bB0, hbz, zz⟩ := boxes1 x0abc [.int .i64 0, .int .i64 0, .bool false, .int .i64 0, .slice none 0 0, .slice none 0 0, .bool false, .int .i64 0, .slice none 0 0, .slice none 0 0, .bool false, .int .i64 0, .slice none 0 0, .slice none 0 0, .bool false, .int .i64 0, .slice none 0 0, .slice none 0 0, .bool false, .bool false] 45
      replace zz : x0abc.heap.size < x0abcz.heap.size := by omega
      rw [hWA.out]
      have bB : Box x0abcz x0abc.heap.size [.int .i64 0, .int .i64 0, .bool false, .int .i64 0, .slice none 0 0, .slice none 0 0, .bool false, .int .i64 0, .slice none 0 0, .slice none 0 0, .bool false, .int .i64 0, .slice none 0 0, .slice none 0 0, .bool false, .int .i64 0, .slice none 0 0, .slice none 0 0, .bool false, .bool false] 45 := bB0
      have D0abcz : Below w2.heap.size w2 x0abcz := D0abc.trans (hbz.mono D0abc.size)
      replace hoa := hoa.below hbz
      replace hog := hog.below hbz
      refine hK.out _ _ (HRG.out _ D0abcz) (fun hHeld => ?_)
      clear hK K hWA bB0 hbz
      refine wpAnyH_ready (rs := [10]) (by kernel_rfl) (by simp) ?_
      refine AllReadyH.cons rfl (fun K hK => ?_) AllReadyH.nil
      go_simp
      obtain ⟨x0abczy, hWA, bA0, hby, zy⟩ := boxes1 x0abcz [.slice none 0 0, .int .i64 0] 37
      replace zy : x0abcz.heap.size < x0abczy.heap.size := by omega
      rw [hWA.out]
      have bA : Box x0abczy x0abcz.heap.size [.slice none 0 0, .int .i64 0] 37 := bA0
      have D0abczy : Below w2.heap.size w2 x0abczy := D0abcz.trans (hby.mono D0abcz.size)
      replace bB := bB.below hby bB.lt
      replace hoa := hoa.below hby
      replace hog := hog.below hby
      refine hK.out _ _ (HRG.out _ D0abczy) (fun hHeld => ?_)
      clear hK K hWA bA0 hby
      obtain ⟨WE, hWE, hwE, hsE, HTE, _, bE⟩ := pool_out aw _ rfl bA
      replace bB := bB.within hwE (by omega)
      obtain ⟨WF, hWF, hwF, hsF, HTF, _, bF⟩ := seat_out ag _ rfl bB
      replace bE := bE.within hwF (by omega)
      have lA := bA.lt
      have lB := bB.lt
      have y1 := D0.size
      have y2 := D0a.size
      have y3 := D0ab.size
      have y4 := D0abc.size
      have y5 := D0abcz.size
      have y6 := D0abczy.size
      have oF : PoolA.own WF w2.heap.size WF.heap.size aw := ((hoa.within hwE (by omega)).within hwF (by omega)).widen (by omega) (by omega) (Nat.le_refl _)
      have gF : SeatA.own WF w2.heap.size WF.heap.size ag := ((hog.within hwE (by omega)).within hwF (by omega)).widen (by omega) (by omega) (Nat.le_refl _)
      have DE : Below w2.heap.size w2 WE := D0abczy.trans (hwE.below (by omega) (by omega))
      have DF : Below w2.heap.size w2 WF := DE.trans (hwF.below (by omega) (by omega))
      refine wpAnyH_ready (rs := [12]) (by kernel_rfl) (by simp) ?_
      refine AllReadyH.cons rfl (fun K hK => ?_) AllReadyH.nil
      rw [if_pos (by rfl)]
      refine wp_store_mid 37 (.tmp 8) (.tmp 39) rfl x0abcz.heap.size 0 (PoolA.cells aw).toArray rfl rfl HTE.out (by rw [List.size_toArray]; exact pool_info _) (pool_one _) ?_
      have HW : Hid ((x0abczy).setCells x0abcz.heap.size 0 (PoolA.cells aw).toArray.toList = WE) := hWE.out
      rw [HW.out]
      refine hK.out _ _ (HRG.out _ DE) (fun hHeld => ?_)
      clear hK K HW hWE HTE
      simp only [Act.put, zA, zB, zC]
      refine wpAnyH_ready (rs := [13]) (by kernel_rfl) (by simp) ?_
      refine AllReadyH.cons rfl (fun K hK => ?_) AllReadyH.nil
      rw [if_pos (by rfl)]
      refine wp_store_mid 45 (.tmp 9) (.tmp 40) rfl x0abc.heap.size 0 (SeatA.cells ag).toArray rfl rfl HTF.out (by rw [List.size_toArray]; exact seat_info _) (seat_one _) ?_
      have HW : Hid ((WE).setCells x0abc.heap.size 0 (SeatA.cells ag).toArray.toList = WF) := hWF.out
      rw [HW.out]
      refine hK.out _ _ (HRG.out _ DF) (fun hHeld => ?_)
      clear hK K HW hWF HTF
      simp only [Act.put, zA, zB, zC]
      refine tk 14 (v := .bool RK) rfl (Or.inl ⟨by rfl, fun w' _ => ?_⟩) hHeld ?_
      ·go_simp
      go_simp
      refine wpAnyH_done (by kernel_rfl) ?_ _
      clear hHeld
      go_wp2_with fail
      go_meet
      case rel => exact ⟨x0abcz.heap.size, x0abc.heap.size, aw, ag, rfl, rfl, rfl, hva, hvg, bE, bF, oF, gF, DF⟩
    focus
     go_simp
     obtain ⟨x0aby, hWA, bA0, hby, zy⟩ := boxes1 x0ab [.slice none 0 0, .int .i64 0] 37
     replace zy : x0ab.heap.size < x0aby.heap.size := by omega
     rw [hWA.out]
     have bA : Box x0aby x0ab.heap.size [.slice none 0 0, .int .i64 0] 37 := bA0
     have D0aby : Below w2.heap.size w2 x0aby := D0ab.trans (hby.mono D0ab.size)
     replace hot := hot.below hby
     replace hou := hou.below hby
     refine hK.out _ _ (HRG.out _ D0aby) (fun hHeld => ?_)
     clear hK K hWA bA0 hby
     refine wpAnyH_ready (rs := [5, 11]) (by kernel_rfl) (by simp) ?_
     refine AllReadyH.cons rfl (fun K hK => ?_) (AllReadyH.cons rfl (fun K hK => ?_) AllReadyH.nil)
     focus
      go_simp
      refine (HSP.out ts uu _ hvt.out hvu.out hot (PoolA.short_of hvt.out hl) hou (pg_short_wide (pg_short_of hvu.out hlr))).mono ?_
      rintro e x0abyc ⟨aw, ag, rfl, hva, hvg, hoa, hog, hbc⟩
      have D0abyc : Below w2.heap.size w2 x0abyc := D0aby.trans (hbc.mono D0aby.size)
      replace bA := bA.below hbc bA.lt
      have zc := hbc.size
      refine hK.out _ _ (HRG.out _ D0abyc) (fun hHeld => ?_)
      clear hK K hbc
      refine tk 6 (v := .tuple #[.agg (PoolA.cells aw).toArray, .agg (SeatA.cells ag).toArray, .bool RK]) rfl (Or.inl ⟨by rfl, fun w' _ => ?_⟩) hHeld ?_
      ·go_simp
      go_simp
      refine tk 7 (v := .agg (PoolA.cells aw).toArray) rfl (Or.inl ⟨by rfl, fun w' _ => ?_⟩) hHeld ?_
      ·go_simp
      go_simp
      refine tk 8 (v := .agg (SeatA.cells ag).toArray) rfl (Or.inl ⟨by rfl, fun w' _ => ?_⟩) hHeld ?_
      ·go_simp
      go_simp
      refine tk 9 (v := .bool RK) rfl (Or.inl ⟨by rfl, fun w' _ => ?_⟩) hHeld ?_
      ·go_simp
      go_simp
      refine wpAnyH_ready (rs := [11]) (by kernel_rfl) (by simp) ?_
      refine AllReadyH.cons rfl (fun K hK => ?_) AllReadyH.nil
      go_simp
      obtain ⟨x0abycz, hWA, bB0, hbz, zz⟩ := boxes1 x0abyc [.int .i64 0, .int .i64 0, .bool false, .int .i64 0, .slice none 0 0, .slice none 0 0, .bool false, .int .i64 0, .slice none 0 0, .slice none 0 0, .bool false, .int .i64 0, .slice none 0 0, .slice none 0 0, .bool false, .int .i64 0, .slice none 0 0, .slice none 0 0, .bool false, .bool false] 45
      replace zz : x0abyc.heap.size < x0abycz.heap.size := by omega
      rw [hWA.out]
      have bB : Box x0abycz x0abyc.heap.size [.int .i64 0, .int .i64 0, .bool false, .int .i64 0, .slice none 0 0, .slice none 0 0, .bool false, .int .i64 0, .slice none 0 0, .slice none 0 0, .bool false, .int .i64 0, .slice none 0 0, .slice none 0 0, .bool false, .int .i64 0, .slice none 0 0, .slice none 0 0, .bool false, .bool false] 45 := bB0
      have D0abycz : Below w2.heap.size w2 x0abycz := D0abyc.trans (hbz.mono D0abyc.size)
      replace bA := bA.below hbz bA.lt
      replace hoa := hoa.below hbz
      replace hog := hog.below hbz
      refine hK.out _ _ (HRG.out _ D0abycz) (fun hHeld => ?_)
      clear hK K hWA bB0 hbz
      obtain ⟨WE, hWE, hwE, hsE, HTE, _, bE⟩ := pool_out aw _ rfl bA
      replace bB := bB.within hwE (by omega)
      obtain ⟨WF, hWF, hwF, hsF, HTF, _, bF⟩ := seat_out ag _ rfl bB
      replace bE := bE.within hwF (by omega)
      have lA := bA.lt
      have lB := bB.lt
      have y1 := D0.size
      have y2 := D0a.size
      have y3 := D0ab.size
      have y4 := D0aby.size
      have y5 := D0abyc.size
      have y6 := D0abycz.size
      have oF : PoolA.own WF w2.heap.size WF.heap.size aw := ((hoa.within hwE (by omega)).within hwF (by omega)).widen (by omega) (by omega) (Nat.le_refl _)
      have gF : SeatA.own WF w2.heap.size WF.heap.size ag := ((hog.within hwE (by omega)).within hwF (by omega)).widen (by omega) (by omega) (Nat.le_refl _)
      have DE : Below w2.heap.size w2 WE := D0abycz.trans (hwE.below (by omega) (by omega))
      have DF : Below w2.heap.size w2 WF := DE.trans (hwF.below (by omega) (by omega))
      refine wpAnyH_ready (rs := [12]) (by kernel_rfl) (by simp) ?_
      refine AllReadyH.cons rfl (fun K hK => ?_) AllReadyH.nil
      rw [if_pos (by rfl)]
      refine wp_store_mid 37 (.tmp 8) (.tmp 39) rfl x0ab.heap.size 0 (PoolA.cells aw).toArray rfl rfl HTE.out (by rw [List.size_toArray]; exact pool_info _) (pool_one _) ?_
      have HW : Hid ((x0abycz).setCells x0ab.heap.size 0 (PoolA.cells aw).toArray.toList = WE) := hWE.out
      rw [HW.out]
      refine hK.out _ _ (HRG.out _ DE) (fun hHeld => ?_)
      clear hK K HW hWE HTE
      simp only [Act.put, zA, zB, zC]
      refine wpAnyH_ready (rs := [13]) (by kernel_rfl) (by simp) ?_
      refine AllReadyH.cons rfl (fun K hK => ?_) AllReadyH.nil
      rw [if_pos (by rfl)]
      refine wp_store_mid 45 (.tmp 9) (.tmp 40) rfl x0abyc.heap.size 0 (SeatA.cells ag).toArray rfl rfl HTF.out (by rw [List.size_toArray]; exact seat_info _) (seat_one _) ?_
      have HW : Hid ((WE).setCells x0abyc.heap.size 0 (SeatA.cells ag).toArray.toList = WF) := hWF.out
      rw [HW.out]
      refine hK.out _ _ (HRG.out _ DF) (fun hHeld => ?_)
      clear hK K HW hWF HTF
      simp only [Act.put, zA, zB, zC]
      refine tk 14 (v := .bool RK) rfl (Or.inl ⟨by rfl, fun w' _ => ?_⟩) hHeld ?_
      ·go_simp
      go_simp
      refine wpAnyH_done (by kernel_rfl) ?_ _
      clear hHeld
      go_wp2_with fail
      go_meet
      case rel => exact ⟨x0ab.heap.size, x0abyc.heap.size, aw, ag, rfl, rfl, rfl, hva, hvg, bE, bF, oF, gF, DF⟩
     focus
      go_simp
      obtain ⟨x0abyz, hWA, bB0, hbz, zz⟩ := boxes1 x0aby [.int .i64 0, .int .i64 0, .bool false, .int .i64 0, .slice none 0 0, .slice none 0 0, .bool false, .int .i64 0, .slice none 0 0, .slice none 0 0, .bool false, .int .i64 0, .slice none 0 0, .slice none 0 0, .bool false, .int .i64 0, .slice none 0 0, .slice none 0 0, .bool false, .bool false] 45
      replace zz : x0aby.heap.size < x0abyz.heap.size := by omega
      rw [hWA.out]
      have bB : Box x0abyz x0aby.heap.size [.int .i64 0, .int .i64 0, .bool false, .int .i64 0, .slice none 0 0, .slice none 0 0, .bool false, .int .i64 0, .slice none 0 0, .slice none 0 0, .bool false, .int .i64 0, .slice none 0 0, .slice none 0 0, .bool false, .int .i64 0, .slice none 0 0, .slice none 0 0, .bool false, .bool false] 45 := bB0
      have D0abyz : Below w2.heap.size w2 x0abyz := D0aby.trans (hbz.mono D0aby.size)
      replace bA := bA.below hbz bA.lt
      replace hot := hot.below hbz
      replace hou := hou.below hbz
      refine hK.out _ _ (HRG.out _ D0abyz) (fun hHeld => ?_)
      clear hK K hWA bB0 hbz
      refine wpAnyH_ready (rs := [5]) (by kernel_rfl) (by simp) ?_
      refine AllReadyH.cons rfl (fun K hK => ?_) AllReadyH.nil
      go_simp
      refine (HSP.out ts uu _ hvt.out hvu.out hot (PoolA.short_of hvt.out hl) hou (pg_short_wide (pg_short_of hvu.out hlr))).mono ?_
      rintro e x0abyzc ⟨aw, ag, rfl, hva, hvg, hoa, hog, hbc⟩
      have D0abyzc : Below w2.heap.size w2 x0abyzc := D0abyz.trans (hbc.mono D0abyz.size)
      replace bA := bA.below hbc bA.lt
      replace bB := bB.below hbc bB.lt
      have zc := hbc.size
      refine hK.out _ _ (HRG.out _ D0abyzc) (fun hHeld => ?_)
      clear hK K hbc
      refine tk 6 (v := .tuple #[.agg (PoolA.cells aw).toArray, .agg (SeatA.cells ag).toArray, .bool RK]) rfl (Or.inl ⟨by rfl, fun w' _ => ?_⟩) hHeld ?_
      ·go_simp
      go_simp
      refine tk 7 (v := .agg (PoolA.cells aw).toArray) rfl (Or.inl ⟨by rfl, fun w' _ => ?_⟩) hHeld ?_
      ·go_simp
      go_simp
      refine tk 8 (v := .agg (SeatA.cells ag).toArray) rfl (Or.inl ⟨by rfl, fun w' _ => ?_⟩) hHeld ?_
      ·go_simp
      go_simp
      refine tk 9 (v := .bool RK) rfl (Or.inl ⟨by rfl, fun w' _ => ?_⟩) hHeld ?_
      ·go_simp
      go_simp
      obtain ⟨WE, hWE, hwE, hsE, HTE, _, bE⟩ := pool_out aw _ rfl bA
      replace bB := bB.within hwE (by omega)
      obtain ⟨WF, hWF, hwF, hsF, HTF, _, bF⟩ := seat_out ag _ rfl bB
      replace bE := bE.within hwF (by omega)
      have lA := bA.lt
      have lB := bB.lt
      have y1 := D0.size
      have y2 := D0a.size
      have y3 := D0ab.size
      have y4 := D0aby.size
      have y5 := D0abyz.size
      have y6 := D0abyzc.size
      have oF : PoolA.own WF w2.heap.size WF.heap.size aw := ((hoa.within hwE (by omega)).within hwF (by omega)).widen (by omega) (by omega) (Nat.le_refl _)
      have gF : SeatA.own WF w2.heap.size WF.heap.size ag := ((hog.within hwE (by omega)).within hwF (by omega)).widen (by omega) (by omega) (Nat.le_refl _)
      have DE : Below w2.heap.size w2 WE := D0abyzc.trans (hwE.below (by omega) (by omega))
      have DF : Below w2.heap.size w2 WF := DE.trans (hwF.below (by omega) (by omega))
      refine wpAnyH_ready (rs := [12]) (by kernel_rfl) (by simp) ?_
      refine AllReadyH.cons rfl (fun K hK => ?_) AllReadyH.nil
      rw [if_pos (by rfl)]
      refine wp_store_mid 37 (.tmp 8) (.tmp 39) rfl x0ab.heap.size 0 (PoolA.cells aw).toArray rfl rfl HTE.out (by rw [List.size_toArray]; exact pool_info _) (pool_one _) ?_
      have HW : Hid ((x0abyzc).setCells x0ab.heap.size 0 (PoolA.cells aw).toArray.toList = WE) := hWE.out
      rw [HW.out]
      refine hK.out _ _ (HRG.out _ DE) (fun hHeld => ?_)
      clear hK K HW hWE HTE
      simp only [Act.put, zA, zB, zC]
      refine wpAnyH_ready (rs := [13]) (by kernel_rfl) (by simp) ?_
      refine AllReadyH.cons rfl (fun K hK => ?_) AllReadyH.nil
      rw [if_pos (by rfl)]
      refine wp_store_mid 45 (.tmp 9) (.tmp 40) rfl x0aby.heap.size 0 (SeatA.cells ag).toArray rfl rfl HTF.out (by rw [List.size_toArray]; exact seat_info _) (seat_one _) ?_
      have HW : Hid ((WE).setCells x0aby.heap.size 0 (SeatA.cells ag).toArray.toList = WF) := hWF.out
      rw [HW.out]
      refine hK.out _ _ (HRG.out _ DF) (fun hHeld => ?_)
      clear hK K HW hWF HTF
      simp only [Act.put, zA, zB, zC]
      refine tk 14 (v := .bool RK) rfl (Or.inl ⟨by rfl, fun w' _ => ?_⟩) hHeld ?_
      ·go_simp
      go_simp
      refine wpAnyH_done (by kernel_rfl) ?_ _
      clear hHeld
      go_wp2_with fail
      go_meet
      case rel => exact ⟨x0ab.heap.size, x0aby.heap.size, aw, ag, rfl, rfl, rfl, hva, hvg, bE, bF, oF, gF, DF⟩
    focus
     go_simp
     obtain ⟨x0abz, hWA, bB0, hbz, zz⟩ := boxes1 x0ab [.int .i64 0, .int .i64 0, .bool false, .int .i64 0, .slice none 0 0, .slice none 0 0, .bool false, .int .i64 0, .slice none 0 0, .slice none 0 0, .bool false, .int .i64 0, .slice none 0 0, .slice none 0 0, .bool false, .int .i64 0, .slice none 0 0, .slice none 0 0, .bool false, .bool false] 45
     replace zz : x0ab.heap.size < x0abz.heap.size := by omega
     rw [hWA.out]
     have bB : Box x0abz x0ab.heap.size [.int .i64 0, .int .i64 0, .bool false, .int .i64 0, .slice none 0 0, .slice none 0 0, .bool false, .int .i64 0, .slice none 0 0, .slice none 0 0, .bool false, .int .i64 0, .slice none 0 0, .slice none 0 0, .bool false, .int .i64 0, .slice none 0 0, .slice none 0 0, .bool false, .bool false] 45 := bB0
     have D0abz : Below w2.heap.size w2 x0abz := D0ab.trans (hbz.mono D0ab.size)
     replace hot := hot.below hbz
     replace hou := hou.below hbz
     refine hK.out _ _ (HRG.out _ D0abz) (fun hHeld => ?_)
     clear hK K hWA bB0 hbz
     refine wpAnyH_ready (rs := [5, 10]) (by kernel_rfl) (by simp) ?_
     refine AllReadyH.cons rfl (fun K hK => ?_) (AllReadyH.cons rfl (fun K hK => ?_) AllReadyH.nil)
     focus
      go_simp
      refine (HSP.out ts uu _ hvt.out hvu.out hot (PoolA.short_of hvt.out hl) hou (pg_short_wide (pg_short_of hvu.out hlr))).mono ?_
      rintro e x0abzc ⟨aw, ag, rfl, hva, hvg, hoa, hog, hbc⟩
      have D0abzc : Below w2.heap.size w2 x0abzc := D0abz.trans (hbc.mono D0abz.size)
      replace bB := bB.below hbc bB.lt
      have zc := hbc.size
      refine hK.out _ _ (HRG.out _ D0abzc) (fun hHeld => ?_)
      clear hK K hbc
      refine tk 6 (v := .tuple #[.agg (PoolA.cells aw).toArray, .agg (SeatA.cells ag).toArray, .bool RK]) rfl (Or.inl ⟨by rfl, fun w' _ => ?_⟩) hHeld ?_
      ·go_simp
      go_simp
      refine tk 7 (v := .agg (PoolA.cells aw).toArray) rfl (Or.inl ⟨by rfl, fun w' _ => ?_⟩) hHeld ?_
      ·go_simp
      go_simp
      refine tk 8 (v := .agg (SeatA.cells ag).toArray) rfl (Or.inl ⟨by rfl, fun w' _ => ?_⟩) hHeld ?_
      ·go_simp
      go_simp
      refine tk 9 (v := .bool RK) rfl (Or.inl ⟨by rfl, fun w' _ => ?_⟩) hHeld ?_
      ·go_simp
      go_simp
      refine wpAnyH_ready (rs := [10]) (by kernel_rfl) (by simp) ?_
      refine AllReadyH.cons rfl (fun K hK => ?_) AllReadyH.nil
      go_simp
      obtain ⟨x0abzcy, hWA, bA0, hby, zy⟩ := boxes1 x0abzc [.slice none 0 0, .int .i64 0] 37
      replace zy : x0abzc.heap.size < x0abzcy.heap.size := by omega
      rw [hWA.out]
      have bA : Box x0abzcy x0abzc.heap.size [.slice none 0 0, .int .i64 0] 37 := bA0
      have D0abzcy : Below w2.heap.size w2 x0abzcy := D0abzc.trans (hby.mono D0abzc.size)
      replace bB := bB.below hby bB.lt
      replace hoa := hoa.below hby
      replace hog := hog.below hby
      refine hK.out _ _ (HRG.out _ D0abzcy) (fun hHeld => ?_)
      clear hK K hWA bA0 hby
      obtain ⟨WE, hWE, hwE, hsE, HTE, _, bE⟩ := pool_out aw _ rfl bA
      replace bB := bB.within hwE (by omega)
      obtain ⟨WF, hWF, hwF, hsF, HTF, _, bF⟩ := seat_out ag _ rfl bB
      replace bE := bE.within hwF (by omega)
      have lA := bA.lt
      have lB := bB.lt
      have y1 := D0.size
      have y2 := D0a.size
      have y3 := D0ab.size
      have y4 := D0abz.size
      have y5 := D0abzc.size
      have y6 := D0abzcy.size
      have oF : PoolA.own WF w2.heap.size WF.heap.size aw := ((hoa.within hwE (by omega)).within hwF (by omega)).widen (by omega) (by omega) (Nat.le_refl _)
      have gF : SeatA.own WF w2.heap.size WF.heap.size ag := ((hog.within hwE (by omega)).within hwF (by omega)).widen (by omega) (by omega) (Nat.le_refl _)
      have DE : Below w2.heap.size w2 WE := D0abzcy.trans (hwE.below (by omega) (by omega))
      have DF : Below w2.heap.size w2 WF := DE.trans (hwF.below (by omega) (by omega))
      refine wpAnyH_ready (rs := [12]) (by kernel_rfl) (by simp) ?_
      refine AllReadyH.cons rfl (fun K hK => ?_) AllReadyH.nil
      rw [if_pos (by rfl)]
      refine wp_store_mid 37 (.tmp 8) (.tmp 39) rfl x0abzc.heap.size 0 (PoolA.cells aw).toArray rfl rfl HTE.out (by rw [List.size_toArray]; exact pool_info _) (pool_one _) ?_
      have HW : Hid ((x0abzcy).setCells x0abzc.heap.size 0 (PoolA.cells aw).toArray.toList = WE) := hWE.out
      rw [HW.out]
      refine hK.out _ _ (HRG.out _ DE) (fun hHeld => ?_)
      clear hK K HW hWE HTE
      simp only [Act.put, zA, zB, zC]
      refine wpAnyH_ready (rs := [13]) (by kernel_rfl) (by simp) ?_
      refine AllReadyH.cons rfl (fun K hK => ?_) AllReadyH.nil
      rw [if_pos (by rfl)]
      refine wp_store_mid 45 (.tmp 9) (.tmp 40) rfl x0ab.heap.size 0 (SeatA.cells ag).toArray rfl rfl HTF.out (by rw [List.size_toArray]; exact seat_info _) (seat_one _) ?_
      have HW : Hid ((WE).setCells x0ab.heap.size 0 (SeatA.cells ag).toArray.toList = WF) := hWF.out
      rw [HW.out]
      refine hK.out _ _ (HRG.out _ DF) (fun hHeld => ?_)
      clear hK K HW hWF HTF
      simp only [Act.put, zA, zB, zC]
      refine tk 14 (v := .bool RK) rfl (Or.inl ⟨by rfl, fun w' _ => ?_⟩) hHeld ?_
      ·go_simp
      go_simp
      refine wpAnyH_done (by kernel_rfl) ?_ _
      clear hHeld
      go_wp2_with fail
      go_meet
      case rel => exact ⟨x0abzc.heap.size, x0ab.heap.size, aw, ag, rfl, rfl, rfl, hva, hvg, bE, bF, oF, gF, DF⟩
     focus
      go_simp
      obtain ⟨x0abzy, hWA, bA0, hby, zy⟩ := boxes1 x0abz [.slice none 0 0, .int .i64 0] 37
      replace zy : x0abz.heap.size < x0abzy.heap.size := by omega
      rw [hWA.out]
      have bA : Box x0abzy x0abz.heap.size [.slice none 0 0, .int .i64 0] 37 := bA0
      have D0abzy : Below w2.heap.size w2 x0abzy := D0abz.trans (hby.mono D0abz.size)
      replace bB := bB.below hby bB.lt
      replace hot := hot.below hby
      replace hou := hou.below hby
      refine hK.out _ _ (HRG.out _ D0abzy) (fun hHeld => ?_)
      clear hK K hWA bA0 hby
      refine wpAnyH_ready (rs := [5]) (by kernel_rfl) (by simp) ?_
      refine AllReadyH.cons rfl (fun K hK => ?_) AllReadyH.nil
      go_simp
      refine (HSP.out ts uu _ hvt.out hvu.out hot (PoolA.short_of hvt.out hl) hou (pg_short_wide (pg_short_of hvu.out hlr))).mono ?_
      rintro e x0abzyc ⟨aw, ag, rfl, hva, hvg, hoa, hog, hbc⟩
      have D0abzyc : Below w2.heap.size w2 x0abzyc := D0abzy.trans (hbc.mono D0abzy.size)
      replace bA := bA.below hbc bA.lt
      replace bB := bB.below hbc bB.lt
      have zc := hbc.size
      refine hK.out _ _ (HRG.out _ D0abzyc) (fun hHeld => ?_)
      clear hK K hbc
      refine tk 6 (v := .tuple #[.agg (PoolA.cells aw).toArray, .agg (SeatA.cells ag).toArray, .bool RK]) rfl (Or.inl ⟨by rfl, fun w' _ => ?_⟩) hHeld ?_
      ·go_simp
      go_simp
      refine tk 7 (v := .agg (PoolA.cells aw).toArray) rfl (Or.inl ⟨by rfl, fun w' _ => ?_⟩) hHeld ?_
      ·go_simp
      go_simp
      refine tk 8 (v := .agg (SeatA.cells ag).toArray) rfl (Or.inl ⟨by rfl, fun w' _ => ?_⟩) hHeld ?_
      ·go_simp
      go_simp
      refine tk 9 (v := .bool RK) rfl (Or.inl ⟨by rfl, fun w' _ => ?_⟩) hHeld ?_
      ·go_simp
      go_simp
      obtain ⟨WE, hWE, hwE, hsE, HTE, _, bE⟩ := pool_out aw _ rfl bA
      replace bB := bB.within hwE (by omega)
      obtain ⟨WF, hWF, hwF, hsF, HTF, _, bF⟩ := seat_out ag _ rfl bB
      replace bE := bE.within hwF (by omega)
      have lA := bA.lt
      have lB := bB.lt
      have y1 := D0.size
      have y2 := D0a.size
      have y3 := D0ab.size
      have y4 := D0abz.size
      have y5 := D0abzy.size
      have y6 := D0abzyc.size
      have oF : PoolA.own WF w2.heap.size WF.heap.size aw := ((hoa.within hwE (by omega)).within hwF (by omega)).widen (by omega) (by omega) (Nat.le_refl _)
      have gF : SeatA.own WF w2.heap.size WF.heap.size ag := ((hog.within hwE (by omega)).within hwF (by omega)).widen (by omega) (by omega) (Nat.le_refl _)
      have DE : Below w2.heap.size w2 WE := D0abzyc.trans (hwE.below (by omega) (by omega))
      have DF : Below w2.heap.size w2 WF := DE.trans (hwF.below (by omega) (by omega))
      refine wpAnyH_ready (rs := [12]) (by kernel_rfl) (by simp) ?_
      refine AllReadyH.cons rfl (fun K hK => ?_) AllReadyH.nil
      rw [if_pos (by rfl)]
      refine wp_store_mid 37 (.tmp 8) (.tmp 39) rfl x0abz.heap.size 0 (PoolA.cells aw).toArray rfl rfl HTE.out (by rw [List.size_toArray]; exact pool_info _) (pool_one _) ?_
      have HW : Hid ((x0abzyc).setCells x0abz.heap.size 0 (PoolA.cells aw).toArray.toList = WE) := hWE.out
      rw [HW.out]
      refine hK.out _ _ (HRG.out _ DE) (fun hHeld => ?_)
      clear hK K HW hWE HTE
      simp only [Act.put, zA, zB, zC]
      refine wpAnyH_ready (rs := [13]) (by kernel_rfl) (by simp) ?_
      refine AllReadyH.cons rfl (fun K hK => ?_) AllReadyH.nil
      rw [if_pos (by rfl)]
      refine wp_store_mid 45 (.tmp 9) (.tmp 40) rfl x0ab.heap.size 0 (SeatA.cells ag).toArray rfl rfl HTF.out (by rw [List.size_toArray]; exact seat_info _) (seat_one _) ?_
      have HW : Hid ((WE).setCells x0ab.heap.size 0 (SeatA.cells ag).toArray.toList = WF) := hWF.out
      rw [HW.out]
      refine hK.out _ _ (HRG.out _ DF) (fun hHeld => ?_)
      clear hK K HW hWF HTF
      simp only [Act.put, zA, zB, zC]
      refine tk 14 (v := .bool RK) rfl (Or.inl ⟨by rfl, fun w' _ => ?_⟩) hHeld ?_
      ·go_simp
      go_simp
      refine wpAnyH_done (by kernel_rfl) ?_ _
      clear hHeld
      go_wp2_with fail
      go_meet
      case rel => exact ⟨x0abz.heap.size, x0ab.heap.size, aw, ag, rfl, rfl, rfl, hva, hvg, bE, bF, oF, gF, DF⟩
   focus
    go_simp
    obtain ⟨x0ay, hWA, bA0, hby, zy⟩ := boxes1 x0a [.slice none 0 0, .int .i64 0] 37
    replace zy : x0a.heap.size < x0ay.heap.size := by omega
    rw [hWA.out]
    have bA : Box x0ay x0a.heap.size [.slice none 0 0, .int .i64 0] 37 := bA0
    have D0ay : Below w2.heap.size w2 x0ay := D0a.trans (hby.mono D0a.size)
    replace hot := hot.below hby
    refine hK.out _ _ (HRG.out _ D0ay) (fun hHeld => ?_)
    clear hK K hWA bA0 hby
    refine wpAnyH_ready (rs := [4, 11]) (by kernel_rfl) (by simp) ?_
    refine AllReadyH.cons rfl (fun K hK => ?_) (AllReadyH.cons rfl (fun K hK => ?_) AllReadyH.nil)
    focus
     go_simp
     refine (toPg_law r _ (hRd _ (BW.trans (D0ay.mono BW.size))) hlr).mono ?_
     rintro e x0ayb ⟨uu, rfl, hvu, hou, hbb⟩
     have D0ayb : Below w2.heap.size w2 x0ayb := D0ay.trans (hbb.mono D0ay.size)
     replace hot := hot.below hbb
     replace bA := bA.below hbb bA.lt
     have zb := hbb.size
     refine hK.out _ _ (HRG.out _ D0ayb) (fun hHeld => ?_)
     clear hK K hbb
     refine wpAnyH_ready (rs := [5, 11]) (by kernel_rfl) (by simp) ?_
     refine AllReadyH.cons rfl (fun K hK => ?_) (AllReadyH.cons rfl (fun K hK => ?_) AllReadyH.nil)
     focus
      go_simp
      refine (HSP.out ts uu _ hvt.out hvu.out hot (PoolA.short_of hvt.out hl) hou (pg_short_wide (pg_short_of hvu.out hlr))).mono ?_
      rintro e x0aybc ⟨aw, ag, rfl, hva, hvg, hoa, hog, hbc⟩
      have D0aybc : Below w2.heap.size w2 x0aybc := D0ayb.trans (hbc.mono D0ayb.size)
      replace bA := bA.below hbc bA.lt
      have zc := hbc.size
      refine hK.out _ _ (HRG.out _ D0aybc) (fun hHeld => ?_)
      clear hK K hbc
      refine tk 6 (v := .tuple #[.agg (PoolA.cells aw).toArray, .agg (SeatA.cells ag).toArray, .bool RK]) rfl (Or.inl ⟨by rfl, fun w' _ => ?_⟩) hHeld ?_
      ·go_simp
      go_simp
      refine tk 7 (v := .agg (PoolA.cells aw).toArray) rfl (Or.inl ⟨by rfl, fun w' _ => ?_⟩) hHeld ?_
      ·go_simp
      go_simp
      refine tk 8 (v := .agg (SeatA.cells ag).toArray) rfl (Or.inl ⟨by rfl, fun w' _ => ?_⟩) hHeld ?_
      ·go_simp
      go_simp
      refine tk 9 (v := .bool RK) rfl (Or.inl ⟨by rfl, fun w' _ => ?_⟩) hHeld ?_
      ·go_simp
      go_simp
      refine wpAnyH_ready (rs := [11]) (by kernel_rfl) (by simp) ?_
      refine AllReadyH.cons rfl (fun K hK => ?_) AllReadyH.nil
      go_simp
      obtain ⟨x0aybcz, hWA, bB0, hbz, zz⟩ := boxes1 x0aybc [.int .i64 0, .int .i64 0, .bool false, .int .i64 0, .slice none 0 0, .slice none 0 0, .bool false, .int .i64 0, .slice none 0 0, .slice none 0 0, .bool false, .int .i64 0, .slice none 0 0, .slice none 0 0, .bool false, .int .i64 0, .slice none 0 0, .slice none 0 0, .bool false, .bool false] 45
      replace zz : x0aybc.heap.size < x0aybcz.heap.size := by omega
      rw [hWA.out]
      have bB : Box x0aybcz x0aybc.heap.size [.int .i64 0, .int .i64 0, .bool false, .int .i64 0, .slice none 0 0, .slice none 0 0, .bool false, .int .i64 0, .slice none 0 0, .slice none 0 0, .bool false, .int .i64 0, .slice none 0 0, .slice none 0 0, .bool false, .int .i64 0, .slice none 0 0, .slice none 0 0, .bool false, .bool false] 45 := bB0
      have D0aybcz : Below w2.heap.size w2 x0aybcz := D0aybc.trans (hbz.mono D0aybc.size)
      replace bA := bA.below hbz bA.lt
      replace hoa := hoa.below hbz
      replace hog := hog.below hbz
      refine hK.out _ _ (HRG.out _ D0aybcz) (fun hHeld => ?_)
      clear hK K hWA bB0 hbz
      obtain ⟨WE, hWE, hwE, hsE, HTE, _, bE⟩ := pool_out aw _ rfl bA
      replace bB := bB.within hwE (by omega)
      obtain ⟨WF, hWF, hwF, hsF, HTF, _, bF⟩ := seat_out ag _ rfl bB
      replace bE := bE.within hwF (by omega)
      have lA := bA.lt
      have lB := bB.lt
      have y1 := D0.size
      have y2 := D0a.size
      have y3 := D0ay.size
      have y4 := D0ayb.size
      have y5 := D0aybc.size
      have y6 := D0aybcz.size
      have oF : PoolA.own WF w2.heap.size WF.heap.size aw := ((hoa.within hwE (by omega)).within hwF (by omega)).widen (by omega) (by omega) (Nat.le_refl _)
      have gF : SeatA.own WF w2.heap.size WF.heap.size ag := ((hog.within hwE (by omega)).within hwF (by omega)).widen (by omega) (by omega) (Nat.le_refl _)
      have DE : Below w2.heap.size w2 WE := D0aybcz.trans (hwE.below (by omega) (by omega))
      have DF : Below w2.heap.size w2 WF := DE.trans (hwF.below (by omega) (by omega))
      refine wpAnyH_ready (rs := [12]) (by kernel_rfl) (by simp) ?_
      refine AllReadyH.cons rfl (fun K hK => ?_) AllReadyH.nil
      rw [if_pos (by rfl)]
      refine wp_store_mid 37 (.tmp 8) (.tmp 39) rfl x0a.heap.size 0 (PoolA.cells aw).toArray rfl rfl HTE.out (by rw [List.size_toArray]; exact pool_info _) (pool_one _) ?_
      have HW : Hid ((x0aybcz).setCells x0a.heap.size 0 (PoolA.cells aw).toArray.toList = WE) := hWE.out
      rw [HW.out]
      refine hK.out _ _ (HRG.out _ DE) (fun hHeld => ?_)
      clear hK K HW hWE HTE
      simp only [Act.put, zA, zB, zC]
      refine wpAnyH_ready (rs := [13]) (by kernel_rfl) (by simp) ?_
      refine AllReadyH.cons rfl (fun K hK => ?_) AllReadyH.nil
      rw [if_pos (by rfl)]
      refine wp_store_mid 45 (.tmp 9) (.tmp 40) rfl x0aybc.heap.size 0 (SeatA.cells ag).toArray rfl rfl HTF.out (by rw [List.size_toArray]; exact seat_info _) (seat_one _) ?_
      have HW : Hid ((WE).setCells x0aybc.heap.size 0 (SeatA.cells ag).toArray.toList = WF) := hWF.out
      rw [HW.out]
      refine hK.out _ _ (HRG.out _ DF) (fun hHeld => ?_)
      clear hK K HW hWF HTF
      simp only [Act.put, zA, zB, zC]
      refine tk 14 (v := .bool RK) rfl (Or.inl ⟨by rfl, fun w' _ => ?_⟩) hHeld ?_
      ·go_simp
      go_simp
      refine wpAnyH_done (by kernel_rfl) ?_ _
      clear hHeld
      go_wp2_with fail
      go_meet
      case rel => exact ⟨x0a.heap.size, x0aybc.heap.size, aw, ag, rfl, rfl, rfl, hva, hvg, bE, bF, oF, gF, DF⟩
     focus
      go_simp
      obtain ⟨x0aybz, hWA, bB0, hbz, zz⟩ := boxes1 x0ayb [.int .i64 0, .int .i64 0, .bool false, .int .i64 0, .slice none 0 0, .slice none 0 0, .bool false, .int .i64 0, .slice none 0 0, .slice none 0 0, .bool false, .int .i64 0, .slice none 0 0, .slice none 0 0, .bool false, .int .i64 0, .slice none 0 0, .slice none 0 0, .bool false, .bool false] 45
      replace zz : x0ayb.heap.size < x0aybz.heap.size := by omega
      rw [hWA.out]
      have bB : Box x0aybz x0ayb.heap.size [.int .i64 0, .int .i64 0, .bool false, .int .i64 0, .slice none 0 0, .slice none 0 0, .bool false, .int .i64 0, .slice none 0 0, .slice none 0 0, .bool false, .int .i64 0, .slice none 0 0, .slice none 0 0, .bool false, .int .i64 0, .slice none 0 0, .slice none 0 0, .bool false, .bool false] 45 := bB0
      have D0aybz : Below w2.heap.size w2 x0aybz := D0ayb.trans (hbz.mono D0ayb.size)
      replace bA := bA.below hbz bA.lt
      replace hot := hot.below hbz
      replace hou := hou.below hbz
      refine hK.out _ _ (HRG.out _ D0aybz) (fun hHeld => ?_)
      clear hK K hWA bB0 hbz
      refine wpAnyH_ready (rs := [5]) (by kernel_rfl) (by simp) ?_
      refine AllReadyH.cons rfl (fun K hK => ?_) AllReadyH.nil
      go_simp
      refine (HSP.out ts uu _ hvt.out hvu.out hot (PoolA.short_of hvt.out hl) hou (pg_short_wide (pg_short_of hvu.out hlr))).mono ?_
      rintro e x0aybzc ⟨aw, ag, rfl, hva, hvg, hoa, hog, hbc⟩
      have D0aybzc : Below w2.heap.size w2 x0aybzc := D0aybz.trans (hbc.mono D0aybz.size)
      replace bA := bA.below hbc bA.lt
      replace bB := bB.below hbc bB.lt
      have zc := hbc.size
      refine hK.out _ _ (HRG.out _ D0aybzc) (fun hHeld => ?_)
      clear hK K hbc
      refine tk 6 (v := .tuple #[.agg (PoolA.cells aw).toArray, .agg (SeatA.cells ag).toArray, .bool RK]) rfl (Or.inl ⟨by rfl, fun w' _ => ?_⟩) hHeld ?_
      ·go_simp
      go_simp
      refine tk 7 (v := .agg (PoolA.cells aw).toArray) rfl (Or.inl ⟨by rfl, fun w' _ => ?_⟩) hHeld ?_
      ·go_simp
      go_simp
      refine tk 8 (v := .agg (SeatA.cells ag).toArray) rfl (Or.inl ⟨by rfl, fun w' _ => ?_⟩) hHeld ?_
      ·go_simp
      go_simp
      refine tk 9 (v := .bool RK) rfl (Or.inl ⟨by rfl, fun w' _ => ?_⟩) hHeld ?_
      ·go_simp
      go_simp
      obtain ⟨WE, hWE, hwE, hsE, HTE, _, bE⟩ := pool_out aw _ rfl bA
      replace bB := bB.within hwE (by omega)
      obtain ⟨WF, hWF, hwF, hsF, HTF, _, bF⟩ := seat_out ag _ rfl bB
      replace bE := bE.within hwF (by omega)
      have lA := bA.lt
      have lB := bB.lt
      have y1 := D0.size
      have y2 := D0a.size
      have y3 := D0ay.size
      have y4 := D0ayb.size
      have y5 := D0aybz.size
      have y6 := D0aybzc.size
      have oF : PoolA.own WF w2.heap.size WF.heap.size aw := ((hoa.within hwE (by omega)).within hwF (by omega)).widen (by omega) (by omega) (Nat.le_refl _)
      have gF : SeatA.own WF w2.heap.size WF.heap.size ag := ((hog.within hwE (by omega)).within hwF (by omega)).widen (by omega) (by omega) (Nat.le_refl _)
      have DE : Below w2.heap.size w2 WE := D0aybzc.trans (hwE.below (by omega) (by omega))
      have DF : Below w2.heap.size w2 WF := DE.trans (hwF.below (by omega) (by omega))
      refine wpAnyH_ready (rs := [12]) (by kernel_rfl) (by simp) ?_
      refine AllReadyH.cons rfl (fun K hK => ?_) AllReadyH.nil
      rw [if_pos (by rfl)]
      refine wp_store_mid 37 (.tmp 8) (.tmp 39) rfl x0a.heap.size 0 (PoolA.cells aw).toArray rfl rfl HTE.out (by rw [List.size_toArray]; exact pool_info _) (pool_one _) ?_
      have HW : Hid ((x0aybzc).setCells x0a.heap.size 0 (PoolA.cells aw).toArray.toList = WE) := hWE.out
      rw [HW.out]
      refine hK.out _ _ (HRG.out _ DE) (fun hHeld => ?_)
      clear hK K HW hWE HTE
      simp only [Act.put, zA, zB, zC]
      refine wpAnyH_ready (rs := [13]) (by kernel_rfl) (by simp) ?_
      refine AllReadyH.cons rfl (fun K hK => ?_) AllReadyH.nil
      rw [if_pos (by rfl)]
      refine wp_store_mid 45 (.tmp 9) (.tmp 40) rfl x0ayb.heap.size 0 (SeatA.cells ag).toArray rfl rfl HTF.out (by rw [List.size_toArray]; exact seat_info _) (seat_one _) ?_
      have HW : Hid ((WE).setCells x0ayb.heap.size 0 (SeatA.cells ag).toArray.toList = WF) := hWF.out
      rw [HW.out]
      refine hK.out _ _ (HRG.out _ DF) (fun hHeld => ?_)
      clear hK K HW hWF HTF
      simp only [Act.put, zA, zB, zC]
      refine tk 14 (v := .bool RK) rfl (Or.inl ⟨by rfl, fun w' _ => ?_⟩) hHeld ?_
      ·go_simp
      go_simp
      refine wpAnyH_done (by kernel_rfl) ?_ _
      clear hHeld
      go_wp2_with fail
      go_meet
      case rel => exact ⟨x0a.heap.size, x0ayb.heap.size, aw, ag, rfl, rfl, rfl, hva, hvg, bE, bF, oF, gF, DF⟩
    focus
     go_simp
     obtain ⟨x0ayz, hWA, bB0, hbz, zz⟩ := boxes1 x0ay [.int .i64 0, .int .i64 0, .bool false, .int .i64 0, .slice none 0 0, .slice none 0 0, .bool false, .int .i64 0, .slice none 0 0, .slice none 0 0, .bool false, .int .i64 0, .slice none 0 0, .slice none 0 0, .bool false, .int .i64 0, .slice none 0 0, .slice none 0 0, .bool false, .bool false] 45
     replace zz : x0ay.heap.size < x0ayz.heap.size := by omega
     rw [hWA.out]
     have bB : Box x0ayz x0ay.heap.size [.int .i64 0, .int .i64 0, .bool false, .int .i64 0, .slice none 0 0, .slice none 0 0, .bool false, .int .i64 0, .slice none 0 0, .slice none 0 0, .bool false, .int .i64 0, .slice none 0 0, .slice none 0 0, .bool false, .int .i64 0, .slice none 0 0, .slice none 0 0, .bool false, .bool false] 45 := bB0
     have D0ayz : Below w2.heap.size w2 x0ayz := D0ay.trans (hbz.mono D0ay.size)
     replace bA := bA.below hbz bA.lt
     replace hot := hot.below hbz
     refine hK.out _ _ (HRG.out _ D0ayz) (fun hHeld => ?_)
     clear hK K hWA bB0 hbz
     refine wpAnyH_ready (rs := [4]) (by kernel_rfl) (by simp) ?_
     refine AllReadyH.cons rfl (fun K hK => ?_) AllReadyH.nil
     go_simp
     refine (toPg_law r _ (hRd _ (BW.trans (D0ayz.mono BW.size))) hlr).mono ?_
     rintro e x0ayzb ⟨uu, rfl, hvu, hou, hbb⟩
     have D0ayzb : Below w2.heap.size w2 x0ayzb := D0ayz.trans (hbb.mono D0ayz.size)
     replace hot := hot.below hbb
     replace bA := bA.below hbb bA.lt
     replace bB := bB.below hbb bB.lt
     have zb := hbb.size
     refine hK.out _ _ (HRG.out _ D0ayzb) (fun hHeld => ?_)
     clear hK K hbb
     refine wpAnyH_ready (rs := [5]) (by kernel_rfl) (by simp) ?_
     refine AllReadyH.cons rfl (fun K hK => ?_) AllReadyH.nil
     go_simp
     refine (HSP.out ts uu _ hvt.out hvu.out hot (PoolA.short_of hvt.out hl) hou (pg_short_wide (pg_short_of hvu.out hlr))).mono ?_
     rintro e x0ayzbc ⟨aw, ag, rfl, hva, hvg, hoa, hog, hbc⟩
     have D0ayzbc : Below w2.heap.size w2 x0ayzbc := D0ayzb.trans (hbc.mono D0ayzb.size)
     replace bA := bA.below hbc bA.lt
     replace bB := bB.below hbc bB.lt
     have zc := hbc.size
     refine hK.out _ _ (HRG.out _ D0ayzbc) (fun hHeld => ?_)
     clear hK K hbc
     refine tk 6 (v := .tuple #[.agg (PoolA.cells aw).toArray, .agg (SeatA.cells ag).toArray, .bool RK]) rfl (Or.inl ⟨by rfl, fun w' _ => ?_⟩) hHeld ?_
     ·go_simp
     go_simp
     refine tk 7 (v := .agg (PoolA.cells aw).toArray) rfl (Or.inl ⟨by rfl, fun w' _ => ?_⟩) hHeld ?_
     ·go_simp
     go_simp
     refine tk 8 (v := .agg (SeatA.cells ag).toArray) rfl (Or.inl ⟨by rfl, fun w' _ => ?_⟩) hHeld ?_
     ·go_simp
     go_simp
     refine tk 9 (v := .bool RK) rfl (Or.inl ⟨by rfl, fun w' _ => ?_⟩) hHeld ?_
     ·go_simp
     go_simp
     obtain ⟨WE, hWE, hwE, hsE, HTE, _, bE⟩ := pool_out aw _ rfl bA
     replace bB := bB.within hwE (by omega)
     obtain ⟨WF, hWF, hwF, hsF, HTF, _, bF⟩ := seat_out ag _ rfl bB
     replace bE := bE.within hwF (by omega)
     have lA := bA.lt
     have lB := bB.lt
     have y1 := D0.size
     have y2 := D0a.size
     have y3 := D0ay.size
     have y4 := D0ayz.size
     have y5 := D0ayzb.size
     have y6 := D0ayzbc.size
     have oF : PoolA.own WF w2.heap.size WF.heap.size aw := ((hoa.within hwE (by omega)).within hwF (by omega)).widen (by omega) (by omega) (Nat.le_refl _)
     have gF : SeatA.own WF w2.heap.size WF.heap.size ag := ((hog.within hwE (by omega)).within hwF (by omega)).widen (by omega) (by omega) (Nat.le_refl _)
     have DE : Below w2.heap.size w2 WE := D0ayzbc.trans (hwE.below (by omega) (by omega))
     have DF : Below w2.heap.size w2 WF := DE.trans (hwF.below (by omega) (by omega))
     refine wpAnyH_ready (rs := [12]) (by kernel_rfl) (by simp) ?_
     refine AllReadyH.cons rfl (fun K hK => ?_) AllReadyH.nil
     rw [if_pos (by rfl)]
     refine wp_store_mid 37 (.tmp 8) (.tmp 39) rfl x0a.heap.size 0 (PoolA.cells aw).toArray rfl rfl HTE.out (by rw [List.size_toArray]; exact pool_info _) (pool_one _) ?_
     have HW : Hid ((x0ayzbc).setCells x0a.heap.size 0 (PoolA.cells aw).toArray.toList = WE) := hWE.out
     rw [HW.out]
     refine hK.out _ _ (HRG.out _ DE) (fun hHeld => ?_)
     clear hK K HW hWE HTE
     simp only [Act.put, zA, zB, zC]
     refine wpAnyH_ready (rs := [13]) (by kernel_rfl) (by simp) ?_
     refine AllReadyH.cons rfl (fun K hK => ?_) AllReadyH.nil
     rw [if_pos (by rfl)]
     refine wp_store_mid 45 (.tmp 9) (.tmp 40) rfl x0ay.heap.size 0 (SeatA.cells ag).toArray rfl rfl HTF.out (by rw [List.size_toArray]; exact seat_info _) (seat_one _) ?_
     have HW : Hid ((WE).setCells x0ay.heap.size 0 (SeatA.cells ag).toArray.toList = WF) := hWF.out
     rw [HW.out]
     refine hK.out _ _ (HRG.out _ DF) (fun hHeld => ?_)
     clear hK K HW hWF HTF
     simp only [Act.put, zA, zB, zC]
     refine tk 14 (v := .bool RK) rfl (Or.inl ⟨by rfl, fun w' _ => ?_⟩) hHeld ?_
     ·go_simp
     go_simp
     refine wpAnyH_done (by kernel_rfl) ?_ _
     clear hHeld
     go_wp2_with fail
     go_meet
     case rel => exact ⟨x0a.heap.size, x0ay.heap.size, aw, ag, rfl, rfl, rfl, hva, hvg, bE, bF, oF, gF, DF⟩
   focus
    go_simp
    obtain ⟨x0az, hWA, bB0, hbz, zz⟩ := boxes1 x0a [.int .i64 0, .int .i64 0, .bool false, .int .i64 0, .slice none 0 0, .slice none 0 0, .bool false, .int .i64 0, .slice none 0 0, .slice none 0 0, .bool false, .int .i64 0, .slice none 0 0, .slice none 0 0, .bool false, .int .i64 0, .slice none 0 0, .slice none 0 0, .bool false, .bool false] 45
    replace zz : x0a.heap.size < x0az.heap.size := by omega
    rw [hWA.out]
    have bB : Box x0az x0a.heap.size [.int .i64 0, .int .i64 0, .bool false, .int .i64 0, .slice none 0 0, .slice none 0 0, .bool false, .int .i64 0, .slice none 0 0, .slice none 0 0, .bool false, .int .i64 0, .slice none 0 0, .slice none 0 0, .bool false, .int .i64 0, .slice none 0 0, .slice none 0 0, .bool false, .bool false] 45 := bB0
    have D0az : Below w2.heap.size w2 x0az := D0a.trans (hbz.mono D0a.size)
    replace hot := hot.below hbz
    refine hK.out _ _ (HRG.out _ D0az) (fun hHeld => ?_)
    clear hK K hWA bB0 hbz
    refine wpAnyH_ready (rs := [4, 10]) (by kernel_rfl) (by simp) ?_
    refine AllReadyH.cons rfl (fun K hK => ?_) (AllReadyH.cons rfl (fun K hK => ?_) AllReadyH.nil)
    focus
     go_simp
     refine (toPg_law r _ (hRd _ (BW.trans (D0az.mono BW.size))) hlr).mono ?_
     rintro e x0azb ⟨uu, rfl, hvu, hou, hbb⟩
     have D0azb : Below w2.heap.size w2 x0azb := D0az.trans (hbb.mono D0az.size)
     replace hot := hot.below hbb
     replace bB := bB.below hbb bB.lt
     have zb := hbb.size
     refine hK.out _ _ (HRG.out _ D0azb) (fun hHeld => ?_)
     clear hK K hbb
     refine wpAnyH_ready (rs := [5, 10]) (by kernel_rfl) (by simp) ?_
     refine AllReadyH.cons rfl (fun K hK => ?_) (AllReadyH.cons rfl (fun K hK => ?_) AllReadyH.nil)
     focus
      go_simp
      refine (HSP.out ts uu _ hvt.out hvu.out hot (PoolA.short_of hvt.out hl) hou (pg_short_wide (pg_short_of hvu.out hlr))).mono ?_
      rintro e x0azbc ⟨aw, ag, rfl, hva, hvg, hoa, hog, hbc⟩
      have D0azbc : Below w2.heap.size w2 x0azbc := D0azb.trans (hbc.mono D0azb.size)
      replace bB := bB.below hbc bB.lt
      have zc := hbc.size
      refine hK.out _ _ (HRG.out _ D0azbc) (fun hHeld => ?_)
      clear hK K hbc
      refine tk 6 (v := .tuple #[.agg (PoolA.cells aw).toArray, .agg (SeatA.cells ag).toArray, .bool RK]) rfl (Or.inl ⟨by rfl, fun w' _ => ?_⟩) hHeld ?_
      ·go_simp
      go_simp
      refine tk 7 (v := .agg (PoolA.cells aw).toArray) rfl (Or.inl ⟨by rfl, fun w' _ => ?_⟩) hHeld ?_
      ·go_simp
      go_simp
      refine tk 8 (v := .agg (SeatA.cells ag).toArray) rfl (Or.inl ⟨by rfl, fun w' _ => ?_⟩) hHeld ?_
      ·go_simp
      go_simp
      refine tk 9 (v := .bool RK) rfl (Or.inl ⟨by rfl, fun w' _ => ?_⟩) hHeld ?_
      ·go_simp
      go_simp
      refine wpAnyH_ready (rs := [10]) (by kernel_rfl) (by simp) ?_
      refine AllReadyH.cons rfl (fun K hK => ?_) AllReadyH.nil
      go_simp
      obtain ⟨x0azbcy, hWA, bA0, hby, zy⟩ := boxes1 x0azbc [.slice none 0 0, .int .i64 0] 37
      replace zy : x0azbc.heap.size < x0azbcy.heap.size := by omega
      rw [hWA.out]
      have bA : Box x0azbcy x0azbc.heap.size [.slice none 0 0, .int .i64 0] 37 := bA0
      have D0azbcy : Below w2.heap.size w2 x0azbcy := D0azbc.trans (hby.mono D0azbc.size)
      replace bB := bB.below hby bB.lt
      replace hoa := hoa.below hby
      replace hog := hog.below hby
      refine hK.out _ _ (HRG.out _ D0azbcy) (fun hHeld => ?_)
      clear hK K hWA bA0 hby
      obtain ⟨WE, hWE, hwE, hsE, HTE, _, bE⟩ := pool_out aw _ rfl bA
      replace bB := bB.within hwE (by omega)
      obtain ⟨WF, hWF, hwF, hsF, HTF, _, bF⟩ := seat_out ag _ rfl bB
      replace bE := bE.within hwF (by omega)
      have lA := bA.lt
      have lB := bB.lt
      have y1 := D0.size
      have y2 := D0a.size
      have y3 := D0az.size
      have y4 := D0azb.size
      have y5 := D0azbc.size
      have y6 := D0azbcy.size
      have oF : PoolA.own WF w2.heap.size WF.heap.size aw := ((hoa.within hwE (by omega)).within hwF (by omega)).widen (by omega) (by omega) (Nat.le_refl _)
      have gF : SeatA.own WF w2.heap.size WF.heap.size ag := ((hog.within hwE (by omega)).within hwF (by omega)).widen (by omega) (by omega) (Nat.le_refl _)
      have DE : Below w2.heap.size w2 WE := D0azbcy.trans (hwE.below (by omega) (by omega))
      have DF : Below w2.heap.size w2 WF := DE.trans (hwF.below (by omega) (by omega))
      refine wpAnyH_ready (rs := [12]) (by kernel_rfl) (by simp) ?_
      refine AllReadyH.cons rfl (fun K hK => ?_) AllReadyH.nil
      rw [if_pos (by rfl)]
      refine wp_store_mid 37 (.tmp 8) (.tmp 39) rfl x0azbc.heap.size 0 (PoolA.cells aw).toArray rfl rfl HTE.out (by rw [List.size_toArray]; exact pool_info _) (pool_one _) ?_
      have HW : Hid ((x0azbcy).setCells x0azbc.heap.size 0 (PoolA.cells aw).toArray.toList = WE) := hWE.out
      rw [HW.out]
      refine hK.out _ _ (HRG.out _ DE) (fun hHeld => ?_)
      clear hK K HW hWE HTE
      simp only [Act.put, zA, zB, zC]
      refine wpAnyH_ready (rs := [13]) (by kernel_rfl) (by simp) ?_
      refine AllReadyH.cons rfl (fun K hK => ?_) AllReadyH.nil
      rw [if_pos (by rfl)]
      refine wp_store_mid 45 (.tmp 9) (.tmp 40) rfl x0a.heap.size 0 (SeatA.cells ag).toArray rfl rfl HTF.out (by rw [List.size_toArray]; exact seat_info _) (seat_one _) ?_
      have HW : Hid ((WE).setCells x0a.heap.size 0 (SeatA.cells ag).toArray.toList = WF) := hWF.out
      rw [HW.out]
      refine hK.out _ _ (HRG.out _ DF) (fun hHeld => ?_)
      clear hK K HW hWF HTF
      simp only [Act.put, zA, zB, zC]
      refine tk 14 (v := .bool RK) rfl (Or.inl ⟨by rfl, fun w' _ => ?_⟩) hHeld ?_
      ·go_simp
      go_simp
      refine wpAnyH_done (by kernel_rfl) ?_ _
      clear hHeld
      go_wp2_with fail
      go_meet
      case rel => exact ⟨x0azbc.heap.size, x0a.heap.size, aw, ag, rfl, rfl, rfl, hva, hvg, bE, bF, oF, gF, DF⟩
     focus
      go_simp
      obtain ⟨x0azby, hWA, bA0, hby, zy⟩ := boxes1 x0azb [.slice none 0 0, .int .i64 0] 37
      replace zy : x0azb.heap.size < x0azby.heap.size := by omega
      rw [hWA.out]
      have bA : Box x0azby x0azb.heap.size [.slice none 0 0, .int .i64 0] 37 := bA0
      have D0azby : Below w2.heap.size w2 x0azby := D0azb.trans (hby.mono D0azb.size)
      replace bB := bB.below hby bB.lt
      replace hot := hot.below hby
      replace hou := hou.below hby
      refine hK.out _ _ (HRG.out _ D0azby) (fun hHeld => ?_)
      clear hK K hWA bA0 hby
      refine wpAnyH_ready (rs := [5]) (by kernel_rfl) (by simp) ?_
      refine AllReadyH.cons rfl (fun K hK => ?_) AllReadyH.nil
      go_simp
      refine (HSP.out ts uu _ hvt.out hvu.out hot (PoolA.short_of hvt.out hl) hou (pg_short_wide (pg_short_of hvu.out hlr))).mono ?_
      rintro e x0azbyc ⟨aw, ag, rfl, hva, hvg, hoa, hog, hbc⟩
      have D0azbyc : Below w2.heap.size w2 x0azbyc := D0azby.trans (hbc.mono D0azby.size)
      replace bA := bA.below hbc bA.lt
      replace bB := bB.below hbc bB.lt
      have zc := hbc.size
      refine hK.out _ _ (HRG.out _ D0azbyc) (fun hHeld => ?_)
      clear hK K hbc
      refine tk 6 (v := .tuple #[.agg (PoolA.cells aw).toArray, .agg (SeatA.cells ag).toArray, .bool RK]) rfl (Or.inl ⟨by rfl, fun w' _ => ?_⟩) hHeld ?_
      ·go_simp
      go_simp
      refine tk 7 (v := .agg (PoolA.cells aw).toArray) rfl (Or.inl ⟨by rfl, fun w' _ => ?_⟩) hHeld ?_
      ·go_simp
      go_simp
      refine tk 8 (v := .agg (SeatA.cells ag).toArray) rfl (Or.inl ⟨by rfl, fun w' _ => ?_⟩) hHeld ?_
      ·go_simp
      go_simp
      refine tk 9 (v := .bool RK) rfl (Or.inl ⟨by rfl, fun w' _ => ?_⟩) hHeld ?_
      ·go_simp
      go_simp
      obtain ⟨WE, hWE, hwE, hsE, HTE, _, bE⟩ := pool_out aw _ rfl bA
      replace bB := bB.within hwE (by omega)
      obtain ⟨WF, hWF, hwF, hsF, HTF, _, bF⟩ := seat_out ag _ rfl bB
      replace bE := bE.within hwF (by omega)
      have lA := bA.lt
      have lB := bB.lt
      have y1 := D0.size
      have y2 := D0a.size
      have y3 := D0az.size
      have y4 := D0azb.size
      have y5 := D0azby.size
      have y6 := D0azbyc.size
      have oF : PoolA.own WF w2.heap.size WF.heap.size aw := ((hoa.within hwE (by omega)).within hwF (by omega)).widen (by omega) (by omega) (Nat.le_refl _)
      have gF : SeatA.own WF w2.heap.size WF.heap.size ag := ((hog.within hwE (by omega)).within hwF (by omega)).widen (by omega) (by omega) (Nat.le_refl _)
      have DE : Below w2.heap.size w2 WE := D0azbyc.trans (hwE.below (by omega) (by omega))
      have DF : Below w2.heap.size w2 WF := DE.trans (hwF.below (by omega) (by omega))
      refine wpAnyH_ready (rs := [12]) (by kernel_rfl) (by simp) ?_
      refine AllReadyH.cons rfl (fun K hK => ?_) AllReadyH.nil
      rw [if_pos (by rfl)]
      refine wp_store_mid 37 (.tmp 8) (.tmp 39) rfl x0azb.heap.size 0 (PoolA.cells aw).toArray rfl rfl HTE.out (by rw [List.size_toArray]; exact pool_info _) (pool_one _) ?_
      have HW : Hid ((x0azbyc).setCells x0azb.heap.size 0 (PoolA.cells aw).toArray.toList = WE) := hWE.out
      rw [HW.out]
      refine hK.out _ _ (HRG.out _ DE) (fun hHeld => ?_)
      clear hK K HW hWE HTE
      simp only [Act.put, zA, zB, zC]
      refine wpAnyH_ready (rs := [13]) (by kernel_rfl) (by simp) ?_
      refine AllReadyH.cons rfl (fun K hK => ?_) AllReadyH.nil
      rw [if_pos (by rfl)]
      refine wp_store_mid 45 (.tmp 9) (.tmp 40) rfl x0a.heap.size 0 (SeatA.cells ag).toArray rfl rfl HTF.out (by rw [List.size_toArray]; exact seat_info _) (seat_one _) ?_
      have HW : Hid ((WE).setCells x0a.heap.size 0 (SeatA.cells ag).toArray.toList = WF) := hWF.out
      rw [HW.out]
      refine hK.out _ _ (HRG.out _ DF) (fun hHeld => ?_)
      clear hK K HW hWF HTF
      simp only [Act.put, zA, zB, zC]
      refine tk 14 (v := .bool RK) rfl (Or.inl ⟨by rfl, fun w' _ => ?_⟩) hHeld ?_
      ·go_simp
      go_simp
      refine wpAnyH_done (by kernel_rfl) ?_ _
      clear hHeld
      go_wp2_with fail
      go_meet
      case rel => exact ⟨x0azb.heap.size, x0a.heap.size, aw, ag, rfl, rfl, rfl, hva, hvg, bE, bF, oF, gF, DF⟩
    focus
     go_simp
     obtain ⟨x0azy, hWA, bA0, hby, zy⟩ := boxes1 x0az [.slice none 0 0, .int .i64 0] 37
     replace zy : x0az.heap.size < x0azy.heap.size := by omega
     rw [hWA.out]
     have bA : Box x0azy x0az.heap.size [.slice none 0 0, .int .i64 0] 37 := bA0
     have D0azy : Below w2.heap.size w2 x0azy := D0az.trans (hby.mono D0az.size)
     replace bB := bB.below hby bB.lt
     replace hot := hot.below hby
     refine hK.out _ _ (HRG.out _ D0azy) (fun hHeld => ?_)
     clear hK K hWA bA0 hby
     refine wpAnyH_ready (rs := [4]) (by kernel_rfl) (by simp) ?_
     refine AllReadyH.cons rfl (fun K hK => ?_) AllReadyH.nil
     go_simp
     refine (toPg_law r _ (hRd _ (BW.trans (D0azy.mono BW.size))) hlr).mono ?_
     rintro e x0azyb ⟨uu, rfl, hvu, hou, hbb⟩
     have D0azyb : Below w2.heap.size w2 x0azyb := D0azy.trans (hbb.mono D0azy.size)
     replace hot := hot.below hbb
     replace bA := bA.below hbb bA.lt
     replace bB := bB.below hbb bB.lt
     have zb := hbb.size
     refine hK.out _ _ (HRG.out _ D0azyb) (fun hHeld => ?_)
     clear hK K hbb
     refine wpAnyH_ready (rs := [5]) (by kernel_rfl) (by simp) ?_
     refine AllReadyH.cons rfl (fun K hK => ?_) AllReadyH.nil
     go_simp
     refine (HSP.out ts uu _ hvt.out hvu.out hot (PoolA.short_of hvt.out hl) hou (pg_short_wide (pg_short_of hvu.out hlr))).mono ?_
     rintro e x0azybc ⟨aw, ag, rfl, hva, hvg, hoa, hog, hbc⟩
     have D0azybc : Below w2.heap.size w2 x0azybc := D0azyb.trans (hbc.mono D0azyb.size)
     replace bA := bA.below hbc bA.lt
     replace bB := bB.below hbc bB.lt
     have zc := hbc.size
     refine hK.out _ _ (HRG.out _ D0azybc) (fun hHeld => ?_)
     clear hK K hbc
     refine tk 6 (v := .tuple #[.agg (PoolA.cells aw).toArray, .agg (SeatA.cells ag).toArray, .bool RK]) rfl (Or.inl ⟨by rfl, fun w' _ => ?_⟩) hHeld ?_
     ·go_simp
     go_simp
     refine tk 7 (v := .agg (PoolA.cells aw).toArray) rfl (Or.inl ⟨by rfl, fun w' _ => ?_⟩) hHeld ?_
     ·go_simp
     go_simp
     refine tk 8 (v := .agg (SeatA.cells ag).toArray) rfl (Or.inl ⟨by rfl, fun w' _ => ?_⟩) hHeld ?_
     ·go_simp
     go_simp
     refine tk 9 (v := .bool RK) rfl (Or.inl ⟨by rfl, fun w' _ => ?_⟩) hHeld ?_
     ·go_simp
     go_simp
     obtain ⟨WE, hWE, hwE, hsE, HTE, _, bE⟩ := pool_out aw _ rfl bA
     replace bB := bB.within hwE (by omega)
     obtain ⟨WF, hWF, hwF, hsF, HTF, _, bF⟩ := seat_out ag _ rfl bB
     replace bE := bE.within hwF (by omega)
     have lA := bA.lt
     have lB := bB.lt
     have y1 := D0.size
     have y2 := D0a.size
     have y3 := D0az.size
     have y4 := D0azy.size
     have y5 := D0azyb.size
     have y6 := D0azybc.size
     have oF : PoolA.own WF w2.heap.size WF.heap.size aw := ((hoa.within hwE (by omega)).within hwF (by omega)).widen (by omega) (by omega) (Nat.le_refl _)
     have gF : SeatA.own WF w2.heap.size WF.heap.size ag := ((hog.within hwE (by omega)).within hwF (by omega)).widen (by omega) (by omega) (Nat.le_refl _)
     have DE : Below w2.heap.size w2 WE := D0azybc.trans (hwE.below (by omega) (by omega))
     have DF : Below w2.heap.size w2 WF := DE.trans (hwF.below (by omega) (by omega))
     refine wpAnyH_ready (rs := [12]) (by kernel_rfl) (by simp) ?_
     refine AllReadyH.cons rfl (fun K hK => ?_) AllReadyH.nil
     rw [if_pos (by rfl)]
     refine wp_store_mid 37 (.tmp 8) (.tmp 39) rfl x0az.heap.size 0 (PoolA.cells aw).toArray rfl rfl HTE.out (by rw [List.size_toArray]; exact pool_info _) (pool_one _) ?_
     have HW : Hid ((x0azybc).setCells x0az.heap.size 0 (PoolA.cells aw).toArray.toList = WE) := hWE.out
     rw [HW.out]
     refine hK.out _ _ (HRG.out _ DE) (fun hHeld => ?_)
     clear hK K HW hWE HTE
     simp only [Act.put, zA, zB, zC]
     refine wpAnyH_ready (rs := [13]) (by kernel_rfl) (by simp) ?_
     refine AllReadyH.cons rfl (fun K hK => ?_) AllReadyH.nil
     rw [if_pos (by rfl)]
     refine wp_store_mid 45 (.tmp 9) (.tmp 40) rfl x0a.heap.size 0 (SeatA.cells ag).toArray rfl rfl HTF.out (by rw [List.size_toArray]; exact seat_info _) (seat_one _) ?_
     have HW : Hid ((WE).setCells x0a.heap.size 0 (SeatA.cells ag).toArray.toList = WF) := hWF.out
     rw [HW.out]
     refine hK.out _ _ (HRG.out _ DF) (fun hHeld => ?_)
     clear hK K HW hWF HTF
     simp only [Act.put, zA, zB, zC]
     refine tk 14 (v := .bool RK) rfl (Or.inl ⟨by rfl, fun w' _ => ?_⟩) hHeld ?_
     ·go_simp
     go_simp
     refine wpAnyH_done (by kernel_rfl) ?_ _
     clear hHeld
     go_wp2_with fail
     go_meet
     case rel => exact ⟨x0az.heap.size, x0a.heap.size, aw, ag, rfl, rfl, rfl, hva, hvg, bE, bF, oF, gF, DF⟩
  focus
   go_simp
   obtain ⟨x0y, hWA, bA0, hby, zy⟩ := boxes1 d0 [.slice none 0 0, .int .i64 0] 37
   replace zy : d0.heap.size < x0y.heap.size := by omega
   rw [hWA.out]
   have bA : Box x0y d0.heap.size [.slice none 0 0, .int .i64 0] 37 := bA0
   have D0y : Below w2.heap.size w2 x0y := D0.trans (hby.mono D0.size)
   refine hK.out _ _ (HRG.out _ D0y) (fun hHeld => ?_)
   clear hK K hWA bA0 hby
   refine wpAnyH_ready (rs := [1, 11]) (by kernel_rfl) (by simp) ?_
   refine AllReadyH.cons rfl (fun K hK => ?_) (AllReadyH.cons rfl (fun K hK => ?_) AllReadyH.nil)
   focus
    go_simp
    refine (toPool_any p _ (hRp _ (BW.trans (D0y.mono BW.size))) hl).mono ?_
    rintro e x0ya ⟨ts, rfl, hvt, hot, hba⟩
    have D0ya : Below w2.heap.size w2 x0ya := D0y.trans (hba.mono D0y.size)
    replace bA := bA.below hba bA.lt
    have za := hba.size
    refine hK.out _ _ (HRG.out _ D0ya) (fun hHeld => ?_)
    clear hK K hba
    refine wpAnyH_ready (rs := [4, 11]) (by kernel_rfl) (by simp) ?_
    refine AllReadyH.cons rfl (fun K hK => ?_) (AllReadyH.cons rfl (fun K hK => ?_) AllReadyH.nil)
    focus
     go_simp
     refine (toPg_law r _ (hRd _ (BW.trans (D0ya.mono BW.size))) hlr).mono ?_
     rintro e x0yab ⟨uu, rfl, hvu, hou, hbb⟩
     have D0yab : Below w2.heap.size w2 x0yab := D0ya.trans (hbb.mono D0ya.size)
     replace hot := hot.below hbb
     replace bA := bA.below hbb bA.lt
     have zb := hbb.size
     refine hK.out _ _ (HRG.out _ D0yab) (fun hHeld => ?_)
     clear hK K hbb
     refine wpAnyH_ready (rs := [5, 11]) (by kernel_rfl) (by simp) ?_
     refine AllReadyH.cons rfl (fun K hK => ?_) (AllReadyH.cons rfl (fun K hK => ?_) AllReadyH.nil)
     focus
      go_simp
      refine (HSP.out ts uu _ hvt.out hvu.out hot (PoolA.short_of hvt.out hl) hou (pg_short_wide (pg_short_of hvu.out hlr))).mono ?_
      rintro e x0yabc ⟨aw, ag, rfl, hva, hvg, hoa, hog, hbc⟩
      have D0yabc : Below w2.heap.size w2 x0yabc := D0yab.trans (hbc.mono D0yab.size)
      replace bA := bA.below hbc bA.lt
      have zc := hbc.size
      refine hK.out _ _ (HRG.out _ D0yabc) (fun hHeld => ?_)
      clear hK K hbc
      refine tk 6 (v := .tuple #[.agg (PoolA.cells aw).toArray, .agg (SeatA.cells ag).toArray, .bool RK]) rfl (Or.inl ⟨by rfl, fun w' _ => ?_⟩) hHeld ?_
      ·go_simp
      go_simp
      refine tk 7 (v := .agg (PoolA.cells aw).toArray) rfl (Or.inl ⟨by rfl, fun w' _ => ?_⟩) hHeld ?_
      ·go_simp
      go_simp
      refine tk 8 (v := .agg (SeatA.cells ag).toArray) rfl (Or.inl ⟨by rfl, fun w' _ => ?_⟩) hHeld ?_
      ·go_simp
      go_simp
      refine tk 9 (v := .bool RK) rfl (Or.inl ⟨by rfl, fun w' _ => ?_⟩) hHeld ?_
      ·go_simp
      go_simp
      refine wpAnyH_ready (rs := [11]) (by kernel_rfl) (by simp) ?_
      refine AllReadyH.cons rfl (fun K hK => ?_) AllReadyH.nil
      go_simp
      obtain ⟨x0yabcz, hWA, bB0, hbz, zz⟩ := boxes1 x0yabc [.int .i64 0, .int .i64 0, .bool false, .int .i64 0, .slice none 0 0, .slice none 0 0, .bool false, .int .i64 0, .slice none 0 0, .slice none 0 0, .bool false, .int .i64 0, .slice none 0 0, .slice none 0 0, .bool false, .int .i64 0, .slice none 0 0, .slice none 0 0, .bool false, .bool false] 45
      replace zz : x0yabc.heap.size < x0yabcz.heap.size := by omega
      rw [hWA.out]
      have bB : Box x0yabcz x0yabc.heap.size [.int .i64 0, .int .i64 0, .bool false, .int .i64 0, .slice none 0 0, .slice none 0 0, .bool false, .int .i64 0, .slice none 0 0, .slice none 0 0, .bool false, .int .i64 0, .slice none 0 0, .slice none 0 0, .bool false, .int .i64 0, .slice none 0 0, .slice none 0 0, .bool false, .bool false] 45 := bB0
      have D0yabcz : Below w2.heap.size w2 x0yabcz := D0yabc.trans (hbz.mono D0yabc.size)
      replace bA := bA.below hbz bA.lt
      replace hoa := hoa.below hbz
      replace hog := hog.below hbz
      refine hK.out _ _ (HRG.out _ D0yabcz) (fun hHeld => ?_)
      clear hK K hWA bB0 hbz
      obtain ⟨WE, hWE, hwE, hsE, HTE, _, bE⟩ := pool_out aw _ rfl bA
      replace bB := bB.within hwE (by omega)
      obtain ⟨WF, hWF, hwF, hsF, HTF, _, bF⟩ := seat_out ag _ rfl bB
      replace bE := bE.within hwF (by omega)
      have lA := bA.lt
      have lB := bB.lt
      have y1 := D0.size
      have y2 := D0y.size
      have y3 := D0ya.size
      have y4 := D0yab.size
      have y5 := D0yabc.size
      have y6 := D0yabcz.size
      have oF : PoolA.own WF w2.heap.size WF.heap.size aw := ((hoa.within hwE (by omega)).within hwF (by omega)).widen (by omega) (by omega) (Nat.le_refl _)
      have gF : SeatA.own WF w2.heap.size WF.heap.size ag := ((hog.within hwE (by omega)).within hwF (by omega)).widen (by omega) (by omega) (Nat.le_refl _)
      have DE : Below w2.heap.size w2 WE := D0yabcz.trans (hwE.below (by omega) (by omega))
      have DF : Below w2.heap.size w2 WF := DE.trans (hwF.below (by omega) (by omega))
      refine wpAnyH_ready (rs := [12]) (by kernel_rfl) (by simp) ?_
      refine AllReadyH.cons rfl (fun K hK => ?_) AllReadyH.nil
      rw [if_pos (by rfl)]
      refine wp_store_mid 37 (.tmp 8) (.tmp 39) rfl d0.heap.size 0 (PoolA.cells aw).toArray rfl rfl HTE.out (by rw [List.size_toArray]; exact pool_info _) (pool_one _) ?_
      have HW : Hid ((x0yabcz).setCells d0.heap.size 0 (PoolA.cells aw).toArray.toList = WE) := hWE.out
      rw [HW.out]
      refine hK.out _ _ (HRG.out _ DE) (fun hHeld => ?_)
      clear hK K HW hWE HTE
      simp only [Act.put, zA, zB, zC]
      refine wpAnyH_ready (rs := [13]) (by kernel_rfl) (by simp) ?_
      refine AllReadyH.cons rfl (fun K hK => ?_) AllReadyH.nil
      rw [if_pos (by rfl)]
      refine wp_store_mid 45 (.tmp 9) (.tmp 40) rfl x0yabc.heap.size 0 (SeatA.cells ag).toArray rfl rfl HTF.out (by rw [List.size_toArray]; exact seat_info _) (seat_one _) ?_
      have HW : Hid ((WE).setCells x0yabc.heap.size 0 (SeatA.cells ag).toArray.toList = WF) := hWF.out
      rw [HW.out]
      refine hK.out _ _ (HRG.out _ DF) (fun hHeld => ?_)
      clear hK K HW hWF HTF
      simp only [Act.put, zA, zB, zC]
      refine tk 14 (v := .bool RK) rfl (Or.inl ⟨by rfl, fun w' _ => ?_⟩) hHeld ?_
      ·go_simp
      go_simp
      refine wpAnyH_done (by kernel_rfl) ?_ _
      clear hHeld
      go_wp2_with fail
      go_meet
      case rel => exact ⟨d0.heap.size, x0yabc.heap.size, aw, ag, rfl, rfl, rfl, hva, hvg, bE, bF, oF, gF, DF⟩
     focus
      go_simp
      obtain ⟨x0yabz, hWA, bB0, hbz, zz⟩ := boxes1 x0yab [.int .i64 0, .int .i64 0, .bool false, .int .i64 0, .slice none 0 0, .slice none 0 0, .bool false, .int .i64 0, .slice none 0 0, .slice none 0 0, .bool false, .int .i64 0, .slice none 0 0, .slice none 0 0, .bool false, .int .i64 0, .slice none 0 0, .slice none 0 0, .bool false, .bool false] 45
      replace zz : x0yab.heap.size < x0yabz.heap.size := by omega
      rw [hWA.out]
      have bB : Box x0yabz x0yab.heap.size [.int .i64 0, .int .i64 0, .bool false, .int .i64 0, .slice none 0 0, .slice none 0 0, .bool false, .int .i64 0, .slice none 0 0, .slice none 0 0, .bool false, .int .i64 0, .slice none 0 0, .slice none 0 0, .bool false, .int .i64 0, .slice none 0 0, .slice none 0 0, .bool false, .bool false] 45 := bB0
      have D0yabz : Below w2.heap.size w2 x0yabz := D0yab.trans (hbz.mono D0yab.size)
      replace bA := bA.below hbz bA.lt
      replace hot := hot.below hbz
      replace hou := hou.below hbz
      refine hK.out _ _ (HRG.out _ D0yabz) (fun hHeld => ?_)
      clear hK K hWA bB0 hbz
      refine wpAnyH_ready (rs := [5]) (by kernel_rfl) (by simp) ?_
      refine AllReadyH.cons rfl (fun K hK => ?_) AllReadyH.nil
      go_simp
      refine (HSP.out ts uu _ hvt.out hvu.out hot (PoolA.short_of hvt.out hl) hou (pg_short_wide (pg_short_of hvu.out hlr))).mono ?_
      rintro e x0yabzc ⟨aw, ag, rfl, hva, hvg, hoa, hog, hbc⟩
      have D0yabzc : Below w2.heap.size w2 x0yabzc := D0yabz.trans (hbc.mono D0yabz.size)
      replace bA := bA.below hbc bA.lt
      replace bB := bB.below hbc bB.lt
      have zc := hbc.size
      refine hK.out _ _ (HRG.out _ D0yabzc) (fun hHeld => ?_)
      clear hK K hbc
      refine tk 6 (v := .tuple #[.agg (PoolA.cells aw).toArray, .agg (SeatA.cells ag).toArray, .bool RK]) rfl (Or.inl ⟨by rfl, fun w' _ => ?_⟩) hHeld ?_
      ·go_simp
      go_simp
      refine tk 7 (v := .agg (PoolA.cells aw).toArray) rfl (Or.inl ⟨by rfl, fun w' _ => ?_⟩) hHeld ?_
      ·go_simp
      go_simp
      refine tk 8 (v := .agg (SeatA.cells ag).toArray) rfl (Or.inl ⟨by rfl, fun w' _ => ?_⟩) hHeld ?_
      ·go_simp
      go_simp
      refine tk 9 (v := .bool RK) rfl (Or.inl ⟨by rfl, fun w' _ => ?_⟩) hHeld ?_
      ·go_simp
      go_simp
      obtain ⟨WE, hWE, hwE, hsE, HTE, _, bE⟩ := pool_out aw _ rfl bA
      replace bB := bB.within hwE (by omega)
      obtain ⟨WF, hWF, hwF, hsF, HTF, _, bF⟩ := seat_out ag _ rfl bB
      replace bE := bE.within hwF (by omega)
      have lA := bA.lt
      have lB := bB.lt
      have y1 := D0.size
      have y2 := D0y.size
      have y3 := D0ya.size
      have y4 := D0yab.size
      have y5 := D0yabz.size
      have y6 := D0yabzc.size
      have oF : PoolA.own WF w2.heap.size WF.heap.size aw := ((hoa.within hwE (by omega)).within hwF (by omega)).widen (by omega) (by omega) (Nat.le_refl _)
      have gF : SeatA.own WF w2.heap.size WF.heap.size ag := ((hog.within hwE (by omega)).within hwF (by omega)).widen (by omega) (by omega) (Nat.le_refl _)
      have DE : Below w2.heap.size w2 WE := D0yabzc.trans (hwE.below (by omega) (by omega))
      have DF : Below w2.heap.size w2 WF := DE.trans (hwF.below (by omega) (by omega))
      refine wpAnyH_ready (rs := [12]) (by kernel_rfl) (by simp) ?_
      refine AllReadyH.cons rfl (fun K hK => ?_) AllReadyH.nil
      rw [if_pos (by rfl)]
      refine wp_store_mid 37 (.tmp 8) (.tmp 39) rfl d0.heap.size 0 (PoolA.cells aw).toArray rfl rfl HTE.out (by rw [List.size_toArray]; exact pool_info _) (pool_one _) ?_
      have HW : Hid ((x0yabzc).setCells d0.heap.size 0 (PoolA.cells aw).toArray.toList = WE) := hWE.out
      rw [HW.out]
      refine hK.out _ _ (HRG.out _ DE) (fun hHeld => ?_)
      clear hK K HW hWE HTE
      simp only [Act.put, zA, zB, zC]
      refine wpAnyH_ready (rs := [13]) (by kernel_rfl) (by simp) ?_
      refine AllReadyH.cons rfl (fun K hK => ?_) AllReadyH.nil
      rw [if_pos (by rfl)]
      refine wp_store_mid 45 (.tmp 9) (.tmp 40) rfl x0yab.heap.size 0 (SeatA.cells ag).toArray rfl rfl HTF.out (by rw [List.size_toArray]; exact seat_info _) (seat_one _) ?_
      have HW : Hid ((WE).setCells x0yab.heap.size 0 (SeatA.cells ag).toArray.toList = WF) := hWF.out
      rw [HW.out]
      refine hK.out _ _ (HRG.out _ DF) (fun hHeld => ?_)
      clear hK K HW hWF HTF
      simp only [Act.put, zA, zB, zC]
      refine tk 14 (v := .bool RK) rfl (Or.inl ⟨by rfl, fun w' _ => ?_⟩) hHeld ?_
      ·go_simp
      go_simp
      refine wpAnyH_done (by kernel_rfl) ?_ _
      clear hHeld
      go_wp2_with fail
      go_meet
      case rel => exact ⟨d0.heap.size, x0yab.heap.size, aw, ag, rfl, rfl, rfl, hva, hvg, bE, bF, oF, gF, DF⟩
    focus
     go_simp
     obtain ⟨x0yaz, hWA, bB0, hbz, zz⟩ := boxes1 x0ya [.int .i64 0, .int .i64 0, .bool false, .int .i64 0, .slice none 0 0, .slice none 0 0, .bool false, .int .i64 0, .slice none 0 0, .slice none 0 0, .bool false, .int .i64 0, .slice none 0 0, .slice none 0 0, .bool false, .int .i64 0, .slice none 0 0, .slice none 0 0, .bool false, .bool false] 45
     replace zz : x0ya.heap.size < x0yaz.heap.size := by omega
     rw [hWA.out]
     have bB : Box x0yaz x0ya.heap.size [.int .i64 0, .int .i64 0, .bool false, .int .i64 0, .slice none 0 0, .slice none 0 0, .bool false, .int .i64 0, .slice none 0 0, .slice none 0 0, .bool false, .int .i64 0, .slice none 0 0, .slice none 0 0, .bool false, .int .i64 0, .slice none 0 0, .slice none 0 0, .bool false, .bool false] 45 := bB0
     have D0yaz : Below w2.heap.size w2 x0yaz := D0ya.trans (hbz.mono D0ya.size)
     replace bA := bA.below hbz bA.lt
     replace hot := hot.below hbz
     refine hK.out _ _ (HRG.out _ D0yaz) (fun hHeld => ?_)
     clear hK K hWA bB0 hbz
     refine wpAnyH_ready (rs := [4]) (by kernel_rfl) (by simp) ?_
     refine AllReadyH.cons rfl (fun K hK => ?_) AllReadyH.nil
     go_simp
     refine (toPg_law r _ (hRd _ (BW.trans (D0yaz.mono BW.size))) hlr).mono ?_
     rintro e x0yazb ⟨uu, rfl, hvu, hou, hbb⟩
     have D0yazb : Below w2.heap.size w2 x0yazb := D0yaz.trans (hbb.mono D0yaz.size)
     replace hot := hot.below hbb
     replace bA := bA.below hbb bA.lt
     replace bB := bB.below hbb bB.lt
     have zb := hbb.size
     refine hK.out _ _ (HRG.out _ D0yazb) (fun hHeld => ?_)
     clear hK K hbb
     refine wpAnyH_ready (rs := [5]) (by kernel_rfl) (by simp) ?_
     refine AllReadyH.cons rfl (fun K hK => ?_) AllReadyH.nil
     go_simp
     refine (HSP.out ts uu _ hvt.out hvu.out hot (PoolA.short_of hvt.out hl) hou (pg_short_wide (pg_short_of hvu.out hlr))).mono ?_
     rintro e x0yazbc ⟨aw, ag, rfl, hva, hvg, hoa, hog, hbc⟩
     have D0yazbc : Below w2.heap.size w2 x0yazbc := D0yazb.trans (hbc.mono D0yazb.size)
     replace bA := bA.below hbc bA.lt
     replace bB := bB.below hbc bB.lt
     have zc := hbc.size
     refine hK.out _ _ (HRG.out _ D0yazbc) (fun hHeld => ?_)
     clear hK K hbc
     refine tk 6 (v := .tuple #[.agg (PoolA.cells aw).toArray, .agg (SeatA.cells ag).toArray, .bool RK]) rfl (Or.inl ⟨by rfl, fun w' _ => ?_⟩) hHeld ?_
     ·go_simp
     go_simp
     refine tk 7 (v := .agg (PoolA.cells aw).toArray) rfl (Or.inl ⟨by rfl, fun w' _ => ?_⟩) hHeld ?_
     ·go_simp
     go_simp
     refine tk 8 (v := .agg (SeatA.cells ag).toArray) rfl (Or.inl ⟨by rfl, fun w' _ => ?_⟩) hHeld ?_
     ·go_simp
     go_simp
     refine tk 9 (v := .bool RK) rfl (Or.inl ⟨by rfl, fun w' _ => ?_⟩) hHeld ?_
     ·go_simp
     go_simp
     obtain ⟨WE, hWE, hwE, hsE, HTE, _, bE⟩ := pool_out aw _ rfl bA
     replace bB := bB.within hwE (by omega)
     obtain ⟨WF, hWF, hwF, hsF, HTF, _, bF⟩ := seat_out ag _ rfl bB
     replace bE := bE.within hwF (by omega)
     have lA := bA.lt
     have lB := bB.lt
     have y1 := D0.size
     have y2 := D0y.size
     have y3 := D0ya.size
     have y4 := D0yaz.size
     have y5 := D0yazb.size
     have y6 := D0yazbc.size
     have oF : PoolA.own WF w2.heap.size WF.heap.size aw := ((hoa.within hwE (by omega)).within hwF (by omega)).widen (by omega) (by omega) (Nat.le_refl _)
     have gF : SeatA.own WF w2.heap.size WF.heap.size ag := ((hog.within hwE (by omega)).within hwF (by omega)).widen (by omega) (by omega) (Nat.le_refl _)
     have DE : Below w2.heap.size w2 WE := D0yazbc.trans (hwE.below (by omega) (by omega))
     have DF : Below w2.heap.size w2 WF := DE.trans (hwF.below (by omega) (by omega))
     refine wpAnyH_ready (rs := [12]) (by kernel_rfl) (by simp) ?_
     refine AllReadyH.cons rfl (fun K hK => ?_) AllReadyH.nil
     rw [if_pos (by rfl)]
     refine wp_store_mid 37 (.tmp 8) (.tmp 39) rfl d0.heap.size 0 (PoolA.cells aw).toArray rfl rfl HTE.out (by rw [List.size_toArray]; exact pool_info _) (pool_one _) ?_
     have HW : Hid ((x0yazbc).setCells d0.heap.size 0 (PoolA.cells aw).toArray.toList = WE) := hWE.out
     rw [HW.out]
     refine hK.out _ _ (HRG.out _ DE) (fun hHeld => ?_)
     clear hK K HW hWE HTE
     simp only [Act.put, zA, zB, zC]
     refine wpAnyH_ready (rs := [13]) (by kernel_rfl) (by simp) ?_
     refine AllReadyH.cons rfl (fun K hK => ?_) AllReadyH.nil
     rw [if_pos (by rfl)]
     refine wp_store_mid 45 (.tmp 9) (.tmp 40) rfl x0ya.heap.size 0 (SeatA.cells ag).toArray rfl rfl HTF.out (by rw [List.size_toArray]; exact seat_info _) (seat_one _) ?_
     have HW : Hid ((WE).setCells x0ya.heap.size 0 (SeatA.cells ag).toArray.toList = WF) := hWF.out
     rw [HW.out]
     refine hK.out _ _ (HRG.out _ DF) (fun hHeld => ?_)
     clear hK K HW hWF HTF
     simp only [Act.put, zA, zB, zC]
     refine tk 14 (v := .bool RK) rfl (Or.inl ⟨by rfl, fun w' _ => ?_⟩) hHeld ?_
     ·go_simp
     go_simp
     refine wpAnyH_done (by kernel_rfl) ?_ _
     clear hHeld
     go_wp2_with fail
     go_meet
     case rel => exact ⟨d0.heap.size, x0ya.heap.size, aw, ag, rfl, rfl, rfl, hva, hvg, bE, bF, oF, gF, DF⟩
   focus
    go_simp
    obtain ⟨x0yz, hWA, bB0, hbz, zz⟩ := boxes1 x0y [.int .i64 0, .int .i64 0, .bool false, .int .i64 0, .slice none 0 0, .slice none 0 0, .bool false, .int .i64 0, .slice none 0 0, .slice none 0 0, .bool false, .int .i64 0, .slice none 0 0, .slice none 0 0, .bool false, .int .i64 0, .slice none 0 0, .slice none 0 0, .bool false, .bool false] 45
    replace zz : x0y.heap.size < x0yz.heap.size := by omega
    rw [hWA.out]
    have bB : Box x0yz x0y.heap.size [.int .i64 0, .int .i64 0, .bool false, .int .i64 0, .slice none 0 0, .slice none 0 0, .bool false, .int .i64 0, .slice none 0 0, .slice none 0 0, .bool false, .int .i64 0, .slice none 0 0, .slice none 0 0, .bool false, .int .i64 0, .slice none 0 0, .slice none 0 0, .bool false, .bool false] 45 := bB0
    have D0yz : Below w2.heap.size w2 x0yz := D0y.trans (hbz.mono D0y.size)
    replace bA := bA.below hbz bA.lt
    refine hK.out _ _ (HRG.out _ D0yz) (fun hHeld => ?_)
    clear hK K hWA bB0 hbz
    refine wpAnyH_ready (rs := [1]) (by kernel_rfl) (by simp) ?_
    refine AllReadyH.cons rfl (fun K hK => ?_) AllReadyH.nil
    go_simp
    refine (toPool_any p _ (hRp _ (BW.trans (D0yz.mono BW.size))) hl).mono ?_
    rintro e x0yza ⟨ts, rfl, hvt, hot, hba⟩
    have D0yza : Below w2.heap.size w2 x0yza := D0yz.trans (hba.mono D0yz.size)
    replace bA := bA.below hba bA.lt
    replace bB := bB.below hba bB.lt
    have za := hba.size
    refine hK.out _ _ (HRG.out _ D0yza) (fun hHeld => ?_)
    clear hK K hba
    refine wpAnyH_ready (rs := [4]) (by kernel_rfl) (by simp) ?_
    refine AllReadyH.cons rfl (fun K hK => ?_) AllReadyH.nil
    go_simp
    refine (toPg_law r _ (hRd _ (BW.trans (D0yza.mono BW.size))) hlr).mono ?_
    rintro e x0yzab ⟨uu, rfl, hvu, hou, hbb⟩
    have D0yzab : Below w2.heap.size w2 x0yzab := D0yza.trans (hbb.mono D0yza.size)
    replace hot := hot.below hbb
    replace bA := bA.below hbb bA.lt
    replace bB := bB.below hbb bB.lt
    have zb := hbb.size
    refine hK.out _ _ (HRG.out _ D0yzab) (fun hHeld => ?_)
    clear hK K hbb
    refine wpAnyH_ready (rs := [5]) (by kernel_rfl) (by simp) ?_
    refine AllReadyH.cons rfl (fun K hK => ?_) AllReadyH.nil
    go_simp
    refine (HSP.out ts uu _ hvt.out hvu.out hot (PoolA.short_of hvt.out hl) hou (pg_short_wide (pg_short_of hvu.out hlr))).mono ?_
    rintro e x0yzabc ⟨aw, ag, rfl, hva, hvg, hoa, hog, hbc⟩
    have D0yzabc : Below w2.heap.size w2 x0yzabc := D0yzab.trans (hbc.mono D0yzab.size)
    replace bA := bA.below hbc bA.lt
    replace bB := bB.below hbc bB.lt
    have zc := hbc.size
    refine hK.out _ _ (HRG.out _ D0yzabc) (fun hHeld => ?_)
    clear hK K hbc
    refine tk 6 (v := .tuple #[.agg (PoolA.cells aw).toArray, .agg (SeatA.cells ag).toArray, .bool RK]) rfl (Or.inl ⟨by rfl, fun w' _ => ?_⟩) hHeld ?_
    ·go_simp
    go_simp
    refine tk 7 (v := .agg (PoolA.cells aw).toArray) rfl (Or.inl ⟨by rfl, fun w' _ => ?_⟩) hHeld ?_
    ·go_simp
    go_simp
    refine tk 8 (v := .agg (SeatA.cells ag).toArray) rfl (Or.inl ⟨by rfl, fun w' _ => ?_⟩) hHeld ?_
    ·go_simp
    go_simp
    refine tk 9 (v := .bool RK) rfl (Or.inl ⟨by rfl, fun w' _ => ?_⟩) hHeld ?_
    ·go_simp
    go_simp
    obtain ⟨WE, hWE, hwE, hsE, HTE, _, bE⟩ := pool_out aw _ rfl bA
    replace bB := bB.within hwE (by omega)
    obtain ⟨WF, hWF, hwF, hsF, HTF, _, bF⟩ := seat_out ag _ rfl bB
    replace bE := bE.within hwF (by omega)
    have lA := bA.lt
    have lB := bB.lt
    have y1 := D0.size
    have y2 := D0y.size
    have y3 := D0yz.size
    have y4 := D0yza.size
    have y5 := D0yzab.size
    have y6 := D0yzabc.size
    have oF : PoolA.own WF w2.heap.size WF.heap.size aw := ((hoa.within hwE (by omega)).within hwF (by omega)).widen (by omega) (by omega) (Nat.le_refl _)
    have gF : SeatA.own WF w2.heap.size WF.heap.size ag := ((hog.within hwE (by omega)).within hwF (by omega)).widen (by omega) (by omega) (Nat.le_refl _)
    have DE : Below w2.heap.size w2 WE := D0yzabc.trans (hwE.below (by omega) (by omega))
    have DF : Below w2.heap.size w2 WF := DE.trans (hwF.below (by omega) (by omega))
    refine wpAnyH_ready (rs := [12]) (by kernel_rfl) (by simp) ?_
    refine AllReadyH.cons rfl (fun K hK => ?_) AllReadyH.nil
    rw [if_pos (by rfl)]
    refine wp_store_mid 37 (.tmp 8) (.tmp 39) rfl d0.heap.size 0 (PoolA.cells aw).toArray rfl rfl HTE.out (by rw [List.size_toArray]; exact pool_info _) (pool_one _) ?_
    have HW : Hid ((x0yzabc).setCells d0.heap.size 0 (PoolA.cells aw).toArray.toList = WE) := hWE.out
    rw [HW.out]
    refine hK.out _ _ (HRG.out _ DE) (fun hHeld => ?_)
    clear hK K HW hWE HTE
    simp only [Act.put, zA, zB, zC]
    refine wpAnyH_ready (rs := [13]) (by kernel_rfl) (by simp) ?_
    refine AllReadyH.cons rfl (fun K hK => ?_) AllReadyH.nil
    rw [if_pos (by rfl)]
    refine wp_store_mid 45 (.tmp 9) (.tmp 40) rfl x0y.heap.size 0 (SeatA.cells ag).toArray rfl rfl HTF.out (by rw [List.size_toArray]; exact seat_info _) (seat_one _) ?_
    have HW : Hid ((WE).setCells x0y.heap.size 0 (SeatA.cells ag).toArray.toList = WF) := hWF.out
    rw [HW.out]
    refine hK.out _ _ (HRG.out _ DF) (fun hHeld => ?_)
    clear hK K HW hWF HTF
    simp only [Act.put, zA, zB, zC]
    refine tk 14 (v := .bool RK) rfl (Or.inl ⟨by rfl, fun w' _ => ?_⟩) hHeld ?_
    ·go_simp
    go_simp
    refine wpAnyH_done (by kernel_rfl) ?_ _
    clear hHeld
    go_wp2_with fail
    go_meet
    case rel => exact ⟨d0.heap.size, x0y.heap.size, aw, ag, rfl, rfl, rfl, hva, hvg, bE, bF, oF, gF, DF⟩
  focus
   go_simp
   obtain ⟨x0z, hWA, bB0, hbz, zz⟩ := boxes1 d0 [.int .i64 0, .int .i64 0, .bool false, .int .i64 0, .slice none 0 0, .slice none 0 0, .bool false, .int .i64 0, .slice none 0 0, .slice none 0 0, .bool false, .int .i64 0, .slice none 0 0, .slice none 0 0, .bool false, .int .i64 0, .slice none 0 0, .slice none 0 0, .bool false, .bool false] 45
   replace zz : d0.heap.size < x0z.heap.size := by omega
   rw [hWA.out]
   have bB : Box x0z d0.heap.size [.int .i64 0, .int .i64 0, .bool false, .int .i64 0, .slice none 0 0, .slice none 0 0, .bool false, .int .i64 0, .slice none 0 0, .slice none 0 0, .bool false, .int .i64 0, .slice none 0 0, .slice none 0 0, .bool false, .int .i64 0, .slice none 0 0, .slice none 0 0, .bool false, .bool false] 45 := bB0
   have D0z : Below w2.heap.size w2 x0z := D0.trans (hbz.mono D0.size)
   refine hK.out _ _ (HRG.out _ D0z) (fun hHeld => ?_)
   clear hK K hWA bB0 hbz
   refine wpAnyH_ready (rs := [1, 10]) (by kernel_rfl) (by simp) ?_
   refine AllReadyH.cons rfl (fun K hK => ?_) (AllReadyH.cons rfl (fun K hK => ?_) AllReadyH.nil)
   focus
    go_simp
    refine (toPool_any p _ (hRp _ (BW.trans (D0z.mono BW.size))) hl).mono ?_
    rintro e x0za ⟨ts, rfl, hvt, hot, hba⟩
    have D0za : Below w2.heap.size w2 x0za := D0z.trans (hba.mono D0z.size)
    replace bB := bB.below hba bB.lt
    have za := hba.size
    refine hK.out _ _ (HRG.out _ D0za) (fun hHeld => ?_)
    clear hK K hba
    refine wpAnyH_ready (rs := [4, 10]) (by kernel_rfl) (by simp) ?_
    refine AllReadyH.cons rfl (fun K hK => ?_) (AllReadyH.cons rfl (fun K hK => ?_) AllReadyH.nil)
    focus
     go_simp
     refine (toPg_law r _ (hRd _ (BW.trans (D0za.mono BW.size))) hlr).mono ?_
     rintro e x0zab ⟨uu, rfl, hvu, hou, hbb⟩
     have D0zab : Below w2.heap.size w2 x0zab := D0za.trans (hbb.mono D0za.size)
     replace hot := hot.below hbb
     replace bB := bB.below hbb bB.lt
     have zb := hbb.size
     refine hK.out _ _ (HRG.out _ D0zab) (fun hHeld => ?_)
     clear hK K hbb
     refine wpAnyH_ready (rs := [5, 10]) (by kernel_rfl) (by simp) ?_
     refine AllReadyH.cons rfl (fun K hK => ?_) (AllReadyH.cons rfl (fun K hK => ?_) AllReadyH.nil)
     focus
      go_simp
      refine (HSP.out ts uu _ hvt.out hvu.out hot (PoolA.short_of hvt.out hl) hou (pg_short_wide (pg_short_of hvu.out hlr))).mono ?_
      rintro e x0zabc ⟨aw, ag, rfl, hva, hvg, hoa, hog, hbc⟩
      have D0zabc : Below w2.heap.size w2 x0zabc := D0zab.trans (hbc.mono D0zab.size)
      replace bB := bB.below hbc bB.lt
      have zc := hbc.size
      refine hK.out _ _ (HRG.out _ D0zabc) (fun hHeld => ?_)
      clear hK K hbc
      refine tk 6 (v := .tuple #[.agg (PoolA.cells aw).toArray, .agg (SeatA.cells ag).toArray, .bool RK]) rfl (Or.inl ⟨by rfl, fun w' _ => ?_⟩) hHeld ?_
      ·go_simp
      go_simp
      refine tk 7 (v := .agg (PoolA.cells aw).toArray) rfl (Or.inl ⟨by rfl, fun w' _ => ?_⟩) hHeld ?_
      ·go_simp
      go_simp
      refine tk 8 (v := .agg (SeatA.cells ag).toArray) rfl (Or.inl ⟨by rfl, fun w' _ => ?_⟩) hHeld ?_
      ·go_simp
      go_simp
      refine tk 9 (v := .bool RK) rfl (Or.inl ⟨by rfl, fun w' _ => ?_⟩) hHeld ?_
      ·go_simp
      go_simp
      refine wpAnyH_ready (rs := [10]) (by kernel_rfl) (by simp) ?_
      refine AllReadyH.cons rfl (fun K hK => ?_) AllReadyH.nil
      go_simp
      obtain ⟨x0zabcy, hWA, bA0, hby, zy⟩ := boxes1 x0zabc [.slice none 0 0, .int .i64 0] 37
      replace zy : x0zabc.heap.size < x0zabcy.heap.size := by omega
      rw [hWA.out]
      have bA : Box x0zabcy x0zabc.heap.size [.slice none 0 0, .int .i64 0] 37 := bA0
      have D0zabcy : Below w2.heap.size w2 x0zabcy := D0zabc.trans (hby.mono D0zabc.size)
      replace bB := bB.below hby bB.lt
      replace hoa := hoa.below hby
      replace hog := hog.below hby
      refine hK.out _ _ (HRG.out _ D0zabcy) (fun hHeld => ?_)
      clear hK K hWA bA0 hby
      obtain ⟨WE, hWE, hwE, hsE, HTE, _, bE⟩ := pool_out aw _ rfl bA
      replace bB := bB.within hwE (by omega)
      obtain ⟨WF, hWF, hwF, hsF, HTF, _, bF⟩ := seat_out ag _ rfl bB
      replace bE := bE.within hwF (by omega)
      have lA := bA.lt
      have lB := bB.lt
      have y1 := D0.size
      have y2 := D0z.size
      have y3 := D0za.size
      have y4 := D0zab.size
      have y5 := D0zabc.size
      have y6 := D0zabcy.size
      have oF : PoolA.own WF w2.heap.size WF.heap.size aw := ((hoa.within hwE (by omega)).within hwF (by omega)).widen (by omega) (by omega) (Nat.le_refl _)
      have gF : SeatA.own WF w2.heap.size WF.heap.size ag := ((hog.within hwE (by omega)).within hwF (by omega)).widen (by omega) (by omega) (Nat.le_refl _)
      have DE : Below w2.heap.size w2 WE := D0zabcy.trans (hwE.below (by omega) (by omega))
      have DF : Below w2.heap.size w2 WF := DE.trans (hwF.below (by omega) (by omega))
      refine wpAnyH_ready (rs := [12]) (by kernel_rfl) (by simp) ?_
      refine AllReadyH.cons rfl (fun K hK => ?_) AllReadyH.nil
      rw [if_pos (by rfl)]
      refine wp_store_mid 37 (.tmp 8) (.tmp 39) rfl x0zabc.heap.size 0 (PoolA.cells aw).toArray rfl rfl HTE.out (by rw [List.size_toArray]; exact pool_info _) (pool_one _) ?_
      have HW : Hid ((x0zabcy).setCells x0zabc.heap.size 0 (PoolA.cells aw).toArray.toList = WE) := hWE.out
      rw [HW.out]
      refine hK.out _ _ (HRG.out _ DE) (fun hHeld => ?_)
      clear hK K HW hWE HTE
      simp only [Act.put, zA, zB, zC]
      refine wpAnyH_ready (rs := [13]) (by kernel_rfl) (by simp) ?_
      refine AllReadyH.cons rfl (fun K hK => ?_) AllReadyH.nil
      rw [if_pos (by rfl)]
      refine wp_store_mid 45 (.tmp 9) (.tmp 40) rfl d0.heap.size 0 (SeatA.cells ag).toArray rfl rfl HTF.out (by rw [List.size_toArray]; exact seat_info _) (seat_one _) ?_
      have HW : Hid ((WE).setCells d0.heap.size 0 (SeatA.cells ag).toArray.toList = WF) := hWF.out
      rw [HW.out]
      refine hK.out _ _ (HRG.out _ DF) (fun hHeld => ?_)
      clear hK K HW hWF HTF
      simp only [Act.put, zA, zB, zC]
      refine tk 14 (v := .bool RK) rfl (Or.inl ⟨by rfl, fun w' _ => ?_⟩) hHeld ?_
      ·go_simp
      go_simp
      refine wpAnyH_done (by kernel_rfl) ?_ _
      clear hHeld
      go_wp2_with fail
      go_meet
      case rel => exact ⟨x0zabc.heap.size, d0.heap.size, aw, ag, rfl, rfl, rfl, hva, hvg, bE, bF, oF, gF, DF⟩
     focus
      go_simp
      obtain ⟨x0zaby, hWA, bA0, hby, zy⟩ := boxes1 x0zab [.slice none 0 0, .int .i64 0] 37
      replace zy : x0zab.heap.size < x0zaby.heap.size := by omega
      rw [hWA.out]
      have bA : Box x0zaby x0zab.heap.size [.slice none 0 0, .int .i64 0] 37 := bA0
      have D0zaby : Below w2.heap.size w2 x0zaby := D0zab.trans (hby.mono D0zab.size)
      replace bB := bB.below hby bB.lt
      replace hot := hot.below hby
      replace hou := hou.below hby
      refine hK.out _ _ (HRG.out _ D0zaby) (fun hHeld => ?_)
      clear hK K hWA bA0 hby
      refine wpAnyH_ready (rs := [5]) (by kernel_rfl) (by simp) ?_
      refine AllReadyH.cons rfl (fun K hK => ?_) AllReadyH.nil
      go_simp
      refine (HSP.out ts uu _ hvt.out hvu.out hot (PoolA.short_of hvt.out hl) hou (pg_short_wide (pg_short_of hvu.out hlr))).mono ?_
      rintro e x0zabyc ⟨aw, ag, rfl, hva, hvg, hoa, hog, hbc⟩
      have D0zabyc : Below w2.heap.size w2 x0zabyc := D0zaby.trans (hbc.mono D0zaby.size)
      replace bA := bA.below hbc bA.lt
      replace bB := bB.below hbc bB.lt
      have zc := hbc.size
      refine hK.out _ _ (HRG.out _ D0zabyc) (fun hHeld => ?_)
      clear hK K hbc
      refine tk 6 (v := .tuple #[.agg (PoolA.cells aw).toArray, .agg (SeatA.cells ag).toArray, .bool RK]) rfl (Or.inl ⟨by rfl, fun w' _ => ?_⟩) hHeld ?_
      ·go_simp
      go_simp
      refine tk 7 (v := .agg (PoolA.cells aw).toArray) rfl (Or.inl ⟨by rfl, fun w' _ => ?_⟩) hHeld ?_
      ·go_simp
      go_simp
      refine tk 8 (v := .agg (SeatA.cells ag).toArray) rfl (Or.inl ⟨by rfl, fun w' _ => ?_⟩) hHeld ?_
      ·go_simp
      go_simp
      refine tk 9 (v := .bool RK) rfl (Or.inl ⟨by rfl, fun w' _ => ?_⟩) hHeld ?_
      ·go_simp
      go_simp
      obtain ⟨WE, hWE, hwE, hsE, HTE, _, bE⟩ := pool_out aw _ rfl bA
      replace bB := bB.within hwE (by omega)
      obtain ⟨WF, hWF, hwF, hsF, HTF, _, bF⟩ := seat_out ag _ rfl bB
      replace bE := bE.within hwF (by omega)
      have lA := bA.lt
      have lB := bB.lt
      have y1 := D0.size
      have y2 := D0z.size
      have y3 := D0za.size
      have y4 := D0zab.size
      have y5 := D0zaby.size
      have y6 := D0zabyc.size
      have oF : PoolA.own WF w2.heap.size WF.heap.size aw := ((hoa.within hwE (by omega)).within hwF (by omega)).widen (by omega) (by omega) (Nat.le_refl _)
      have gF : SeatA.own WF w2.heap.size WF.heap.size ag := ((hog.within hwE (by omega)).within hwF (by omega)).widen (by omega) (by omega) (Nat.le_refl _)
      have DE : Below w2.heap.size w2 WE := D0zabyc.trans (hwE.below (by omega) (by omega))
      have DF : Below w2.heap.size w2 WF := DE.trans (hwF.below (by omega) (by omega))
      refine wpAnyH_ready (rs := [12]) (by kernel_rfl) (by simp) ?_
      refine AllReadyH.cons rfl (fun K hK => ?_) AllReadyH.nil
      rw [if_pos (by rfl)]
      refine wp_store_mid 37 (.tmp 8) (.tmp 39) rfl x0zab.heap.size 0 (PoolA.cells aw).toArray rfl rfl HTE.out (by rw [List.size_toArray]; exact pool_info _) (pool_one _) ?_
      have HW : Hid ((x0zabyc).setCells x0zab.heap.size 0 (PoolA.cells aw).toArray.toList = WE) := hWE.out
      rw [HW.out]
      refine hK.out _ _ (HRG.out _ DE) (fun hHeld => ?_)
      clear hK K HW hWE HTE
      simp only [Act.put, zA, zB, zC]
      refine wpAnyH_ready (rs := [13]) (by kernel_rfl) (by simp) ?_
      refine AllReadyH.cons rfl (fun K hK => ?_) AllReadyH.nil
      rw [if_pos (by rfl)]
      refine wp_store_mid 45 (.tmp 9) (.tmp 40) rfl d0.heap.size 0 (SeatA.cells ag).toArray rfl rfl HTF.out (by rw [List.size_toArray]; exact seat_info _) (seat_one _) ?_
      have HW : Hid ((WE).setCells d0.heap.size 0 (SeatA.cells ag).toArray.toList = WF) := hWF.out
      rw [HW.out]
      refine hK.out _ _ (HRG.out _ DF) (fun hHeld => ?_)
      clear hK K HW hWF HTF
      simp only [Act.put, zA, zB, zC]
      refine tk 14 (v := .bool RK) rfl (Or.inl ⟨by rfl, fun w' _ => ?_⟩) hHeld ?_
      ·go_simp
      go_simp
      refine wpAnyH_done (by kernel_rfl) ?_ _
      clear hHeld
      go_wp2_with fail
      go_meet
      case rel => exact ⟨x0zab.heap.size, d0.heap.size, aw, ag, rfl, rfl, rfl, hva, hvg, bE, bF, oF, gF, DF⟩
    focus
     go_simp
     obtain ⟨x0zay, hWA, bA0, hby, zy⟩ := boxes1 x0za [.slice none 0 0, .int .i64 0] 37
     replace zy : x0za.heap.size < x0zay.heap.size := by omega
     rw [hWA.out]
     have bA : Box x0zay x0za.heap.size [.slice none 0 0, .int .i64 0] 37 := bA0
     have D0zay : Below w2.heap.size w2 x0zay := D0za.trans (hby.mono D0za.size)
     replace bB := bB.below hby bB.lt
     replace hot := hot.below hby
     refine hK.out _ _ (HRG.out _ D0zay) (fun hHeld => ?_)
     clear hK K hWA bA0 hby
     refine wpAnyH_ready (rs := [4]) (by kernel_rfl) (by simp) ?_
     refine AllReadyH.cons rfl (fun K hK => ?_) AllReadyH.nil
     go_simp
     refine (toPg_law r _ (hRd _ (BW.trans (D0zay.mono BW.size))) hlr).mono ?_
     rintro e x0zayb ⟨uu, rfl, hvu, hou, hbb⟩
     have D0zayb : Below w2.heap.size w2 x0zayb := D0zay.trans (hbb.mono D0zay.size)
     replace hot := hot.below hbb
     replace bA := bA.below hbb bA.lt
     replace bB := bB.below hbb bB.lt
     have zb := hbb.size
     refine hK.out _ _ (HRG.out _ D0zayb) (fun hHeld => ?_)
     clear hK K hbb
     refine wpAnyH_ready (rs := [5]) (by kernel_rfl) (by simp) ?_
     refine AllReadyH.cons rfl (fun K hK => ?_) AllReadyH.nil
     go_simp
     refine (HSP.out ts uu _ hvt.out hvu.out hot (PoolA.short_of hvt.out hl) hou (pg_short_wide (pg_short_of hvu.out hlr))).mono ?_
     rintro e x0zaybc ⟨aw, ag, rfl, hva, hvg, hoa, hog, hbc⟩
     have D0zaybc : Below w2.heap.size w2 x0zaybc := D0zayb.trans (hbc.mono D0zayb.size)
     replace bA := bA.below hbc bA.lt
     replace bB := bB.below hbc bB.lt
     have zc := hbc.size
     refine hK.out _ _ (HRG.out _ D0zaybc) (fun hHeld => ?_)
     clear hK K hbc
     refine tk 6 (v := .tuple #[.agg (PoolA.cells aw).toArray, .agg (SeatA.cells ag).toArray, .bool RK]) rfl (Or.inl ⟨by rfl, fun w' _ => ?_⟩) hHeld ?_
     ·go_simp
     go_simp
     refine tk 7 (v := .agg (PoolA.cells aw).toArray) rfl (Or.inl ⟨by rfl, fun w' _ => ?_⟩) hHeld ?_
     ·go_simp
     go_simp
     refine tk 8 (v := .agg (SeatA.cells ag).toArray) rfl (Or.inl ⟨by rfl, fun w' _ => ?_⟩) hHeld ?_
     ·go_simp
     go_simp
     refine tk 9 (v := .bool RK) rfl (Or.inl ⟨by rfl, fun w' _ => ?_⟩) hHeld ?_
     ·go_simp
     go_simp
     obtain ⟨WE, hWE, hwE, hsE, HTE, _, bE⟩ := pool_out aw _ rfl bA
     replace bB := bB.within hwE (by omega)
     obtain ⟨WF, hWF, hwF, hsF, HTF, _, bF⟩ := seat_out ag _ rfl bB
     replace bE := bE.within hwF (by omega)
     have lA := bA.lt
     have lB := bB.lt
     have y1 := D0.size
     have y2 := D0z.size
     have y3 := D0za.size
     have y4 := D0zay.size
     have y5 := D0zayb.size
     have y6 := D0zaybc.size
     have oF : PoolA.own WF w2.heap.size WF.heap.size aw := ((hoa.within hwE (by omega)).within hwF (by omega)).widen (by omega) (by omega) (Nat.le_refl _)
     have gF : SeatA.own WF w2.heap.size WF.heap.size ag := ((hog.within hwE (by omega)).within hwF (by omega)).widen (by omega) (by omega) (Nat.le_refl _)
     have DE : Below w2.heap.size w2 WE := D0zaybc.trans (hwE.below (by omega) (by omega))
     have DF : Below w2.heap.size w2 WF := DE.trans (hwF.below (by omega) (by omega))
     refine wpAnyH_ready (rs := [12]) (by kernel_rfl) (by simp) ?_
     refine AllReadyH.cons rfl (fun K hK => ?_) AllReadyH.nil
     rw [if_pos (by rfl)]
     refine wp_store_mid 37 (.tmp 8) (.tmp 39) rfl x0za.heap.size 0 (PoolA.cells aw).toArray rfl rfl HTE.out (by rw [List.size_toArray]; exact pool_info _) (pool_one _) ?_
     have HW : Hid ((x0zaybc).setCells x0za.heap.size 0 (PoolA.cells aw).toArray.toList = WE) := hWE.out
     rw [HW.out]
     refine hK.out _ _ (HRG.out _ DE) (fun hHeld => ?_)
     clear hK K HW hWE HTE
     simp only [Act.put, zA, zB, zC]
     refine wpAnyH_ready (rs := [13]) (by kernel_rfl) (by simp) ?_
     refine AllReadyH.cons rfl (fun K hK => ?_) AllReadyH.nil
     rw [if_pos (by rfl)]
     refine wp_store_mid 45 (.tmp 9) (.tmp 40) rfl d0.heap.size 0 (SeatA.cells ag).toArray rfl rfl HTF.out (by rw [List.size_toArray]; exact seat_info _) (seat_one _) ?_
     have HW : Hid ((WE).setCells d0.heap.size 0 (SeatA.cells ag).toArray.toList = WF) := hWF.out
     rw [HW.out]
     refine hK.out _ _ (HRG.out _ DF) (fun hHeld => ?_)
     clear hK K HW hWF HTF
     simp only [Act.put, zA, zB, zC]
     refine tk 14 (v := .bool RK) rfl (Or.inl ⟨by rfl, fun w' _ => ?_⟩) hHeld ?_
     ·go_simp
     go_simp
     refine wpAnyH_done (by kernel_rfl) ?_ _
     clear hHeld
     go_wp2_with fail
     go_meet
     case rel => exact ⟨x0za.heap.size, d0.heap.size, aw, ag, rfl, rfl, rfl, hva, hvg, bE, bF, oF, gF, DF⟩
   focus
    go_simp
    obtain ⟨x0zy, hWA, bA0, hby, zy⟩ := boxes1 x0z [.slice none 0 0, .int .i64 0] 37
    replace zy : x0z.heap.size < x0zy.heap.size := by omega
    rw [hWA.out]
    have bA : Box x0zy x0z.heap.size [.slice none 0 0, .int .i64 0] 37 := bA0
    have D0zy : Below w2.heap.size w2 x0zy := D0z.trans (hby.mono D0z.size)
    replace bB := bB.below hby bB.lt
    refine hK.out _ _ (HRG.out _ D0zy) (fun hHeld => ?_)
    clear hK K hWA bA0 hby
    refine wpAnyH_ready (rs := [1]) (by kernel_rfl) (by simp) ?_
    refine AllReadyH.cons rfl (fun K hK => ?_) AllReadyH.nil
    go_simp
    refine (toPool_any p _ (hRp _ (BW.trans (D0zy.mono BW.size))) hl).mono ?_
    rintro e x0zya ⟨ts, rfl, hvt, hot, hba⟩
    have D0zya : Below w2.heap.size w2 x0zya := D0zy.trans (hba.mono D0zy.size)
    replace bA := bA.below hba bA.lt
    replace bB := bB.below hba bB.lt
    have za := hba.size
    refine hK.out _ _ (HRG.out _ D0zya) (fun hHeld => ?_)
    clear hK K hba
    refine wpAnyH_ready (rs := [4]) (by kernel_rfl) (by simp) ?_
    refine AllReadyH.cons rfl (fun K hK => ?_) AllReadyH.nil
    go_simp
    refine (toPg_law r _ (hRd _ (BW.trans (D0zya.mono BW.size))) hlr).mono ?_
    rintro e x0zyab ⟨uu, rfl, hvu, hou, hbb⟩
    have D0zyab : Below w2.heap.size w2 x0zyab := D0zya.trans (hbb.mono D0zya.size)
    replace hot := hot.below hbb
    replace bA := bA.below hbb bA.lt
    replace bB := bB.below hbb bB.lt
    have zb := hbb.size
    refine hK.out _ _ (HRG.out _ D0zyab) (fun hHeld => ?_)
    clear hK K hbb
    refine wpAnyH_ready (rs := [5]) (by kernel_rfl) (by simp) ?_
    refine AllReadyH.cons rfl (fun K hK => ?_) AllReadyH.nil
    go_simp
    refine (HSP.out ts uu _ hvt.out hvu.out hot (PoolA.short_of hvt.out hl) hou (pg_short_wide (pg_short_of hvu.out hlr))).mono ?_
    rintro e x0zyabc ⟨aw, ag, rfl, hva, hvg, hoa, hog, hbc⟩
    have D0zyabc : Below w2.heap.size w2 x0zyabc := D0zyab.trans (hbc.mono D0zyab.size)
    replace bA := bA.below hbc bA.lt
    replace bB := bB.below hbc bB.lt
    have zc := hbc.size
    refine hK.out _ _ (HRG.out _ D0zyabc) (fun hHeld => ?_)
    clear hK K hbc
    refine tk 6 (v := .tuple #[.agg (PoolA.cells aw).toArray, .agg (SeatA.cells ag).toArray, .bool RK]) rfl (Or.inl ⟨by rfl, fun w' _ => ?_⟩) hHeld ?_
    ·go_simp
    go_simp
    refine tk 7 (v := .agg (PoolA.cells aw).toArray) rfl (Or.inl ⟨by rfl, fun w' _ => ?_⟩) hHeld ?_
    ·go_simp
    go_simp
    refine tk 8 (v := .agg (SeatA.cells ag).toArray) rfl (Or.inl ⟨by rfl, fun w' _ => ?_⟩) hHeld ?_
    ·go_simp
    go_simp
    refine tk 9 (v := .bool RK) rfl (Or.inl ⟨by rfl, fun w' _ => ?_⟩) hHeld ?_
    ·go_simp
    go_simp
    obtain ⟨WE, hWE, hwE, hsE, HTE, _, bE⟩ := pool_out aw _ rfl bA
    replace bB := bB.within hwE (by omega)
    obtain ⟨WF, hWF, hwF, hsF, HTF, _, bF⟩ := seat_out ag _ rfl bB
    replace bE := bE.within hwF (by omega)
    have lA := bA.lt
    have lB := bB.lt
    have y1 := D0.size
    have y2 := D0z.size
    have y3 := D0zy.size
    have y4 := D0zya.size
    have y5 := D0zyab.size
    have y6 := D0zyabc.size
    have oF : PoolA.own WF w2.heap.size WF.heap.size aw := ((hoa.within hwE (by omega)).within hwF (by omega)).widen (by omega) (by omega) (Nat.le_refl _)
    have gF : SeatA.own WF w2.heap.size WF.heap.size ag := ((hog.within hwE (by omega)).within hwF (by omega)).widen (by omega) (by omega) (Nat.le_refl _)
    have DE : Below w2.heap.size w2 WE := D0zyabc.trans (hwE.below (by omega) (by omega))
    have DF : Below w2.heap.size w2 WF := DE.trans (hwF.below (by omega) (by omega))
    refine wpAnyH_ready (rs := [12]) (by kernel_rfl) (by simp) ?_
    refine AllReadyH.cons rfl (fun K hK => ?_) AllReadyH.nil
    rw [if_pos (by rfl)]
    refine wp_store_mid 37 (.tmp 8) (.tmp 39) rfl x0z.heap.size 0 (PoolA.cells aw).toArray rfl rfl HTE.out (by rw [List.size_toArray]; exact pool_info _) (pool_one _) ?_
    have HW : Hid ((x0zyabc).setCells x0z.heap.size 0 (PoolA.cells aw).toArray.toList = WE) := hWE.out
    rw [HW.out]
    refine hK.out _ _ (HRG.out _ DE) (fun hHeld => ?_)
    clear hK K HW hWE HTE
    simp only [Act.put, zA, zB, zC]
    refine wpAnyH_ready (rs := [13]) (by kernel_rfl) (by simp) ?_
    refine AllReadyH.cons rfl (fun K hK => ?_) AllReadyH.nil
    rw [if_pos (by rfl)]
    refine wp_store_mid 45 (.tmp 9) (.tmp 40) rfl d0.heap.size 0 (SeatA.cells ag).toArray rfl rfl HTF.out (by rw [List.size_toArray]; exact seat_info _) (seat_one _) ?_
    have HW : Hid ((WE).setCells d0.heap.size 0 (SeatA.cells ag).toArray.toList = WF) := hWF.out
    rw [HW.out]
    refine hK.out _ _ (HRG.out _ DF) (fun hHeld => ?_)
    clear hK K HW hWF HTF
    simp only [Act.put, zA, zB, zC]
    refine tk 14 (v := .bool RK) rfl (Or.inl ⟨by rfl, fun w' _ => ?_⟩) hHeld ?_
    ·go_simp
    go_simp
    refine wpAnyH_done (by kernel_rfl) ?_ _
    clear hHeld
    go_wp2_with fail
    go_meet
    case rel => exact ⟨x0z.heap.size, d0.heap.size, aw, ag, rfl, rfl, rfl, hva, hvg, bE, bF, oF, gF, DF⟩
 case rest =>
  obtain ⟨B6, G6, tw, sw, rfl, rfl, rfl, HVW, HVS, bx6, bx7, ow, os, hb3⟩ := hcut
  generalize wc = w3 at *
  replace bx2 := bx2.below hb3 bx2.lt
  replace bx3 := bx3.below hb3 bx3.lt
  replace BW := BW.trans (hb3.mono BW.size)
  have s3 := hb3.size
  have l6 := bx6.lt
  have l7 := bx7.lt
  clear HRG
  go_wp2_with (first | (guard_target = wpList _ _ _ (Oper.mk (some 42) _ _ _ _ _ :: _) _ _; refine wpList_load_mid rfl 24 (.tmp 3) rfl w.heap.size 0 rfl p.cells _ (pool_rng p bx2) Tryd.underlying24 rfl (lpool_info p) ?_) | fail)
  refine (toPool_any p w3 (hRp _ BW) hl).mono ?_
  rintro e w4 ⟨qs, rfl, hvq, oq, hb4⟩
  have hqS := PoolA.short_of hvq.out hl
  replace bx2 := bx2.below hb4 bx2.lt
  replace bx3 := bx3.below hb4 bx3.lt
  replace bx6 := bx6.below hb4 bx6.lt
  replace bx7 := bx7.below hb4 bx7.lt
  replace ow := ow.below hb4
  replace os := os.below hb4
  replace BW := BW.trans (hb4.mono BW.size)
  have s4 := hb4.size
  obtain ⟨Zw5, hZw5, bZw50, hbZw5, _⟩ := boxes1 w4 [.slice none 0 0, .int .i64 0] 37
  have bZw5 : Box Zw5 w4.heap.size [.slice none 0 0, .int .i64 0] 37 := bZw50
  obtain ⟨w5, hSw5, hww5, hzw5, HTw5, _, bx8⟩ := pool_out qs _ rfl bZw5
  clear bZw50
  have hbw5 : Below w4.heap.size w4 w5 := hbZw5.trans (hww5.below (Nat.le_refl _) (by have := hbZw5.size; omega))
  clear bZw5 hbZw5 hww5 hzw5
  replace bx2 := bx2.below hbw5 bx2.lt
  replace bx3 := bx3.below hbw5 bx3.lt
  replace bx6 := bx6.below hbw5 bx6.lt
  replace bx7 := bx7.below hbw5 bx7.lt
  replace ow := ow.below hbw5
  replace os := os.below hbw5
  replace oq := oq.below hbw5
  replace BW := BW.trans (hbw5.mono BW.size)
  have sw5 := hbw5.size
  have lw5 := bx8.lt
  go_wp2_with (first | (guard_target = wpList _ _ _ (Oper.mk none (Op.store _ (Operand.tmp 11) _) _ _ _ _ :: _) _ _; refine wpList_store_mid rfl 37 (.tmp 11) (.tmp 43) rfl w4.heap.size 0 (PoolA.cells qs).toArray rfl rfl (by rw [hZw5.out]; exact HTw5.out) (by rw [List.size_toArray]; exact pool_info _) (pool_one _) ?_) | (guard_target = wpList _ _ _ (Oper.mk (some 44) _ _ _ _ _ :: _) _ _; refine wpList_load_mid rfl 32 (.tmp 5) rfl (w.heap.size + 1) 0 rfl r.cells _ (by rw [hZw5.out, hSw5.out]; exact pg_rng r bx3) Tryd.underlying32 rfl (lpg_info _) ?_) | fail)
  rw [hZw5.out, hSw5.out]
  clear hZw5 hSw5 HTw5
  refine (toPg_law r w5 (hRd _ BW) hlr).mono ?_
  rintro e w6 ⟨u, rfl, hvu, ou, hb6⟩
  have huS := pg_short_of hvu.out hlr
  replace bx2 := bx2.below hb6 bx2.lt
  replace bx3 := bx3.below hb6 bx3.lt
  replace bx6 := bx6.below hb6 bx6.lt
  replace bx7 := bx7.below hb6 bx7.lt
  replace bx8 := bx8.below hb6 bx8.lt
  replace ow := ow.below hb6
  replace os := os.below hb6
  replace oq := oq.below hb6
  replace BW := BW.trans (hb6.mono BW.size)
  have s6 := hb6.size
  obtain ⟨Zw7, hZw7, bZw70, hbZw7, _⟩ := boxes1 w6 [.int .i64 0, .bool false, .int .i64 0, .slice none 0 0, .slice none 0 0, .bool false, .int .i64 0, .slice none 0 0, .slice none 0 0, .bool false, .int .i64 0, .slice none 0 0, .slice none 0 0, .bool false, .int .i64 0, .slice none 0 0, .slice none 0 0] 43
  have bZw7 : Box Zw7 w6.heap.size [.int .i64 0, .bool false, .int .i64 0, .slice none 0 0, .slice none 0 0, .bool false, .int .i64 0, .slice none 0 0, .slice none 0 0, .bool false, .int .i64 0, .slice none 0 0, .slice none 0 0, .bool false, .int .i64 0, .slice none 0 0, .slice none 0 0] 43 := bZw70
  obtain ⟨w7, hSw7, hww7, hzw7, HTw7, _, bx9⟩ := pg_out u [.int .i64 0, .bool false, .int .i64 0, .slice none 0 0, .slice none 0 0, .bool false, .int .i64 0, .slice none 0 0, .slice none 0 0, .bool false, .int .i64 0, .slice none 0 0, .slice none 0 0, .bool false, .int .i64 0, .slice none 0 0, .slice none 0 0] rfl bZw7
  clear bZw70
  have hbw7 : Below w6.heap.size w6 w7 := hbZw7.trans (hww7.below (Nat.le_refl _) (by have := hbZw7.size; omega))
  clear bZw7 hbZw7 hww7 hzw7
  replace bx2 := bx2.below hbw7 bx2.lt
  replace bx3 := bx3.below hbw7 bx3.lt
  replace bx6 := bx6.below hbw7 bx6.lt
  replace bx7 := bx7.below hbw7 bx7.lt
  replace bx8 := bx8.below hbw7 bx8.lt
  replace ow := ow.below hbw7
  replace os := os.below hbw7
  replace oq := oq.below hbw7
  replace ou := ou.below hbw7
  replace BW := BW.trans (hbw7.mono BW.size)
  have sw7 := hbw7.size
  have lw7 := bx9.lt
  go_wp2_with (first | (guard_target = wpList _ _ _ (Oper.mk none (Op.store _ (Operand.tmp 12) _) _ _ _ _ :: _) _ _; refine wpList_store_mid rfl 43 (.tmp 12) (.tmp 45) rfl w6.heap.size 0 u.cells.toArray rfl rfl (by rw [hZw7.out]; exact HTw7.out) (by rw [List.size_toArray]; exact pg_info _) (pg_one _) ?_) | (guard_target = wpList _ _ _ (Oper.mk (some 47) _ _ _ _ _ :: _) _ _; refine wpList_load_mid rfl 37 (.tmp 11) rfl w4.heap.size 0 rfl (PoolA.cells qs) _ (by rw [hZw7.out, hSw7.out]; exact pool_rng _ bx8) Tryd.underlying37 rfl (pool_info _) ?_) | (guard_target = wpList _ _ _ (Oper.mk (some 49) _ _ _ _ _ :: _) _ _; refine wpList_load_mid rfl 43 (.tmp 12) rfl w6.heap.size 0 rfl u.cells _ (by rw [hZw7.out, hSw7.out]; exact pg_rng u bx9) Tryd.underlying43 rfl (pg_info _) ?_) | fail)
  rw [hZw7.out, hSw7.out]
  clear hZw7 hSw7 HTw7
  refine (HIM.out qs u w7 (hgB _ BW) hvq.out hvu.out oq hqS ou (pg_short_wide huS)).mono ?_
  rintro e w8 ⟨tg, sg, rfl, HVG, HVK, og, ok, hb8⟩
  have hgS := (HSM.out hlr hl).1 tg HVG.out
  have hkS := (HSM.out hlr hl).2 sg HVK.out
  replace bx2 := bx2.below hb8 bx2.lt
  replace bx3 := bx3.below hb8 bx3.lt
  replace bx6 := bx6.below hb8 bx6.lt
  replace bx7 := bx7.below hb8 bx7.lt
  replace bx8 := bx8.below hb8 bx8.lt
  replace bx9 := bx9.below hb8 bx9.lt
  replace ow := ow.below hb8
  replace os := os.below hb8
  replace oq := oq.below hb8
  replace ou := ou.below hb8
  replace BW := BW.trans (hb8.mono BW.size)
  have s8 := hb8.size
  obtain ⟨Zw9, hZw9, bZ1, bZ2, hbZw9, hzz⟩ := boxes2 w8 [.slice none 0 0, .int .i64 0] [.int .i64 0, .int .i64 0, .bool false, .int .i64 0, .slice none 0 0, .slice none 0 0, .bool false, .int .i64 0, .slice none 0 0, .slice none 0 0, .bool false, .int .i64 0, .slice none 0 0, .slice none 0 0, .bool false, .int .i64 0, .slice none 0 0, .slice none 0 0, .bool false, .bool false] 37 45
  have bZ1' : Box Zw9 w8.heap.size [.slice none 0 0, .int .i64 0] 37 := bZ1
  have bZ2' : Box Zw9 (w8.heap.size + 1) [.int .i64 0, .int .i64 0, .bool false, .int .i64 0, .slice none 0 0, .slice none 0 0, .bool false, .int .i64 0, .slice none 0 0, .slice none 0 0, .bool false, .int .i64 0, .slice none 0 0, .slice none 0 0, .bool false, .int .i64 0, .slice none 0 0, .slice none 0 0, .bool false, .bool false] 45 := bZ2
  obtain ⟨wE, hSwE, hwwE, hzwE, HTwE, _, bx10⟩ := pool_out tg _ rfl bZ1'
  replace bZ2' := bZ2'.within hwwE (by omega)
  obtain ⟨w9, hSw9, hww9, hzw9, HTw9, _, bx11⟩ := seat_out sg _ rfl bZ2'
  replace bx10 := bx10.within hww9 (by omega)
  have hbw9 : Below w8.heap.size w8 w9 := (hbZw9.trans (hwwE.below (Nat.le_refl _) (by omega))).trans (hww9.below (by omega) (by omega))
  clear bZ1 bZ2 bZ1' bZ2' hbZw9 hwwE hzwE hww9 hzw9 hzz
  replace bx2 := bx2.below hbw9 bx2.lt
  replace bx3 := bx3.below hbw9 bx3.lt
  replace bx6 := bx6.below hbw9 bx6.lt
  replace bx7 := bx7.below hbw9 bx7.lt
  replace bx8 := bx8.below hbw9 bx8.lt
  replace bx9 := bx9.below hbw9 bx9.lt
  replace ow := ow.below hbw9
  replace os := os.below hbw9
  replace oq := oq.below hbw9
  replace ou := ou.below hbw9
  replace og := og.below hbw9
  replace ok := ok.below hbw9
  replace BW := BW.trans (hbw9.mono BW.size)
  have sw9 := hbw9.size
  have lw9 := bx10.lt
  have lw9b := bx11.lt
  have HGW : Hid (tw.v = tg.v) := HVW.out.trans HVG.out.symm
  have HKW : Hid (sw.v = sg.v) := HVS.out.trans HVK.out.symm
  go_wp2_with (first | (guard_target = wpList _ _ _ (Oper.mk none (Op.store _ (Operand.tmp 13) _) _ _ _ _ :: _) _ _; refine wpList_store_mid rfl 37 (.tmp 13) (.tmp 51) rfl w8.heap.size 0 (PoolA.cells tg).toArray rfl rfl (by rw [hZw9.out]; exact HTwE.out) (by rw [List.size_toArray]; exact pool_info _) (pool_one _) ?_) | (guard_target = wpList _ _ _ (Oper.mk none (Op.store _ (Operand.tmp 14) _) _ _ _ _ :: _) _ _; refine wpList_store_mid rfl 45 (.tmp 14) (.tmp 52) rfl (w8.heap.size + 1) 0 (SeatA.cells sg).toArray rfl rfl (by rw [hZw9.out, hSwE.out]; exact HTw9.out) (by rw [List.size_toArray]; exact seat_info _) (seat_one _) ?_) | (guard_target = wpList _ _ _ (Oper.mk (some 54) _ _ _ _ _ :: _) _ _; refine wpList_load_mid rfl 37 (.tmp 13) rfl w8.heap.size 0 rfl (PoolA.cells tg) _ (by rw [hZw9.out, hSwE.out, hSw9.out]; exact pool_rng _ bx10) Tryd.underlying37 rfl (pool_info _) ?_) | (guard_target = wpList _ _ _ (Oper.mk (some 55) _ _ _ _ _ :: _) _ _; refine wpList_load_mid rfl 37 (.tmp 8) rfl B6 0 rfl (PoolA.cells tw) _ (by rw [hZw9.out, hSwE.out, hSw9.out]; exact pool_rng _ bx6) Tryd.underlying37 rfl (pool_info _) ?_) | fail)
  rw [hZw9.out, hSwE.out, hSw9.out]
  clear hZw9 hSwE hSw9 HTwE HTw9
  refine (eqPool_same tg tw HGW.out w9 og.reads ow.reads (PoolA.short_wide hgS)).mono ?_
  rintro e w9b ⟨rfl, hb9b⟩
  replace bx2 := bx2.below hb9b bx2.lt
  replace bx3 := bx3.below hb9b bx3.lt
  replace bx6 := bx6.below hb9b bx6.lt
  replace bx7 := bx7.below hb9b bx7.lt
  replace bx8 := bx8.below hb9b bx8.lt
  replace bx9 := bx9.below hb9b bx9.lt
  replace bx10 := bx10.below hb9b bx10.lt
  replace bx11 := bx11.below hb9b bx11.lt
  replace ow := ow.below hb9b
  replace os := os.below hb9b
  replace oq := oq.below hb9b
  replace ou := ou.below hb9b
  replace og := og.below hb9b
  replace ok := ok.below hb9b
  replace BW := BW.trans (hb9b.mono BW.size)
  have s9b := hb9b.size
  go_wp2_with (first | (guard_target = wpList _ _ _ (Oper.mk (some 59) _ _ _ _ _ :: _) _ _; refine load_if6 (by rfl) 45 (.tmp 14) rfl (w8.heap.size + 1) 0 rfl (SeatA.cells sg) _ (seat_rng _ bx11) Tryd.underlying45 rfl (seat_info _) ?_) | (guard_target = wpList _ _ _ (Oper.mk (some 60) _ _ _ _ _ :: _) _ _; refine load_if6 (by rfl) 45 (.tmp 9) rfl G6 0 rfl (SeatA.cells sw) _ (seat_rng _ bx7) Tryd.underlying45 rfl (seat_info _) ?_) | fail)
  refine (eqSeat_same sg sw HKW.out w9b ok.reads os.reads hkS.wide).mono ?_
  rintro e w10 ⟨rfl, hb10⟩
  replace bx2 := bx2.below hb10 bx2.lt
  replace bx3 := bx3.below hb10 bx3.lt
  replace bx6 := bx6.below hb10 bx6.lt
  replace bx7 := bx7.below hb10 bx7.lt
  replace bx8 := bx8.below hb10 bx8.lt
  replace bx9 := bx9.below hb10 bx9.lt
  replace bx10 := bx10.below hb10 bx10.lt
  replace bx11 := bx11.below hb10 bx11.lt
  replace ow := ow.below hb10
  replace os := os.below hb10
  replace oq := oq.below hb10
  replace ou := ou.below hb10
  replace og := og.below hb10
  replace ok := ok.below hb10
  replace BW := BW.trans (hb10.mono BW.size)
  have s10 := hb10.size
  have hrk : (RK != RK) = false := by simp
  have HU2 : Hid (_ ∧ _) := ⟨Tryd.underlying37, Tryd.underlying43⟩
  have HRG : Hid (∀ x, Below w10.heap.size w10 x → x.rangeAt w.heap.size 0 p.cells ∧ x.rangeAt w4.heap.size 0 (PoolA.cells qs)) := fun x hx => ⟨pool_rng p (bx2.below hx bx2.lt), pool_rng _ (bx8.below hx bx8.lt)⟩
  have hu1 := HU.out.1
  have hu2 := HU2.out.1
  have hi1 := lpool_info p
  have hi2 := pool_info qs
  go_wp2_with fail
  refine wp_region_held_drew (S := fun w' => w'.rangeAt w.heap.size 0 p.cells ∧ w'.rangeAt w4.heap.size 0 (PoolA.cells qs)) (by kernel_rfl) (HRG.out _ (Below.refl _ _).drew) (fun hHeld => ?_)
  refine tk 0 rfl (yieldsIf_load_mid (by rfl) _ _ rfl _ _ rfl (PoolA.cells qs) _ (fun _ h => h.2) hu2 rfl hi2) hHeld ?_
  refine tk 1 rfl (yieldsIf_load_mid (by rfl) _ _ rfl _ _ rfl p.cells _ (fun _ h => h.1) hu1 rfl hi1) hHeld ?_
  refine wpAnyH_ready (rs := [2]) (by kernel_rfl) (by simp) ?_
  refine AllReadyH.cons rfl (fun K hK => ?_) AllReadyH.nil
  go_simp
  refine (toPool_any p _ (hRp _ BW.drew) hl).mono ?_
  rintro e w11 ⟨vs, rfl, hvv, ov, hbV⟩
  have NV : Below w10.heap.size w10 w11 := ((Below.refl _ _).drew).trans hbV
  refine hK.out _ _ (HRG.out _ NV) (fun hHeld => ?_)
  clear hK K
  refine wpAnyH_ready (rs := [3]) (by kernel_rfl) (by simp) ?_
  refine AllReadyH.cons rfl (fun K hK => ?_) AllReadyH.nil
  go_simp
  refine (eqPool_same qs vs (hvv.out.trans hvq.out.symm) w11 (oq.reads.below NV) ov.reads (PoolA.short_wide hqS)).mono ?_
  rintro e w12 ⟨rfl, hbX⟩
  have NX : Below w10.heap.size w10 w12 := NV.trans (hbX.mono NV.size)
  refine hK.out _ _ (HRG.out _ NX) (fun hHeld => ?_)
  clear hK K
  refine tk 4 (v := .bool false) rfl (Or.inl ⟨by rfl, ?_⟩) hHeld ?_
  ·intro w' _; go_simp
  refine wpAnyH_done (by kernel_rfl) ?_ _
  clear hHeld hbV hbX ov hvv HRG NV hu1 hu2 hi1 hi2
  replace bx2 := bx2.below NX bx2.lt
  replace bx3 := bx3.below NX bx3.lt
  replace bx6 := bx6.below NX bx6.lt
  replace bx7 := bx7.below NX bx7.lt
  replace bx8 := bx8.below NX bx8.lt
  replace bx9 := bx9.below NX bx9.lt
  replace bx10 := bx10.below NX bx10.lt
  replace bx11 := bx11.below NX bx11.lt
  replace ow := ow.below NX
  replace os := os.below NX
  replace oq := oq.below NX
  replace ou := ou.below NX
  replace og := og.below NX
  replace ok := ok.below NX
  replace BW := BW.trans (NX.mono BW.size)
  have sw12 := NX.size
  clear NX
  have HRG : Hid (∀ x, Below w12.heap.size w12 x → x.rangeAt (w.heap.size + 1) 0 r.cells ∧ x.rangeAt w6.heap.size 0 u.cells) := fun x hx => ⟨pg_rng r (bx3.below hx bx3.lt), pg_rng _ (bx9.below hx bx9.lt)⟩
  have hu1 := HU.out.2
  have hu2 := HU2.out.2
  have hi1 := lpg_info r
  have hi2 := pg_info u
  go_wp2_with fail
  refine wp_region_held_drew (S := fun w' => w'.rangeAt (w.heap.size + 1) 0 r.cells ∧ w'.rangeAt w6.heap.size 0 u.cells) (by kernel_rfl) (HRG.out _ (Below.refl _ _).drew) (fun hHeld => ?_)
  refine tk 0 rfl (yieldsIf_load_mid (by rfl) _ _ rfl _ _ rfl u.cells _ (fun _ h => h.2) hu2 rfl hi2) hHeld ?_
  refine tk 1 rfl (yieldsIf_load_mid (by rfl) _ _ rfl _ _ rfl r.cells _ (fun _ h => h.1) hu1 rfl hi1) hHeld ?_
  refine wpAnyH_ready (rs := [2]) (by kernel_rfl) (by simp) ?_
  refine AllReadyH.cons rfl (fun K hK => ?_) AllReadyH.nil
  go_simp
  refine (toPg_law r _ (hRd _ BW.drew) hlr).mono ?_
  rintro e w13 ⟨vs, rfl, hvv, ov, hbV⟩
  have NV : Below w12.heap.size w12 w13 := ((Below.refl _ _).drew).trans hbV
  refine hK.out _ _ (HRG.out _ NV) (fun hHeld => ?_)
  clear hK K
  refine wpAnyH_ready (rs := [3]) (by kernel_rfl) (by simp) ?_
  refine AllReadyH.cons rfl (fun K hK => ?_) AllReadyH.nil
  go_simp
  refine (eqPg_same u vs (hvv.out.trans hvu.out.symm) w13 (ou.reads.below NV) ov.reads (pg_short_wide huS)).mono ?_
  rintro e w14 ⟨rfl, hbX⟩
  have NX : Below w12.heap.size w12 w14 := NV.trans (hbX.mono NV.size)
  refine hK.out _ _ (HRG.out _ NX) (fun hHeld => ?_)
  clear hK K
  refine tk 4 (v := .bool false) rfl (Or.inl ⟨by rfl, ?_⟩) hHeld ?_
  ·intro w' _; go_simp
  refine wpAnyH_done (by kernel_rfl) ?_ _
  clear hHeld hbV hbX ov hvv HRG NV hu1 hu2 hi1 hi2
  replace bx2 := bx2.below NX bx2.lt
  replace bx3 := bx3.below NX bx3.lt
  replace bx6 := bx6.below NX bx6.lt
  replace bx7 := bx7.below NX bx7.lt
  replace bx8 := bx8.below NX bx8.lt
  replace bx9 := bx9.below NX bx9.lt
  replace bx10 := bx10.below NX bx10.lt
  replace bx11 := bx11.below NX bx11.lt
  replace ow := ow.below NX
  replace os := os.below NX
  replace oq := oq.below NX
  replace ou := ou.below NX
  replace og := og.below NX
  replace ok := ok.below NX
  replace BW := BW.trans (NX.mono BW.size)
  have sw14 := NX.size
  clear NX
  go_wp2_with (first | (guard_target = wpList _ _ _ (Oper.mk (some 79) _ _ _ _ _ :: _) _ _; refine wpList_load_mid rfl 37 (.tmp 11) rfl w4.heap.size 0 rfl (PoolA.cells qs) _ (pool_rng _ bx8) Tryd.underlying37 rfl (pool_info _) ?_) | fail)
  refine (markPool_touch qs w3.heap.size w4.heap.size 1 w14 oq (PoolA.short_wide hqS) (by omega) (countSt_short hqS)).mono ?_
  rintro e w15 ⟨rfl, _, ht15⟩
  have hw15 : Within w3.heap.size w4.heap.size w14 w15 := ht15.within oq.blocks_lt
  have s15 := hw15.size
  replace bx2 := bx2.within hw15 (by omega)
  replace bx3 := bx3.within hw15 (by omega)
  replace bx6 := bx6.within hw15 (by omega)
  replace bx7 := bx7.within hw15 (by omega)
  replace bx8 := bx8.within hw15 (by omega)
  replace bx9 := bx9.within hw15 (by omega)
  replace bx10 := bx10.within hw15 (by omega)
  replace bx11 := bx11.within hw15 (by omega)
  replace ow := ow.within hw15 (by omega)
  replace os := os.within hw15 (by omega)
  replace ou := ou.within hw15 (by omega)
  replace og := og.within hw15 (by omega)
  replace ok := ok.within hw15 (by omega)
  replace BW := BW.trans (hw15.below (by have := BW.size; omega) (by have := BW.size; omega))
  clear ht15 hw15 oq
  have hcq : (qs.count : Int) ≤ 4194304 := countSt_mid hqS
  simp only
  generalize qs.count = cq at *
  go_wp2_with (first | (guard_target = wpList _ _ _ (Oper.mk (some 82) _ _ _ _ _ :: _) _ _; refine wpList_load_mid rfl 43 (.tmp 12) rfl w6.heap.size 0 rfl u.cells _ (pg_rng u bx9) Tryd.underlying43 rfl (pg_info _) ?_) | fail)
  refine (markPg_wide u w5.heap.size w6.heap.size (1 + (cq : Int)) w15 ou (pg_short_wide huS) (by omega) (by omega)).mono ?_
  rintro e w16 ⟨rfl, _, ht16⟩
  have hw16 : Within w5.heap.size w6.heap.size w15 w16 := ht16.within ou.blocks_lt
  have s16 := hw16.size
  replace bx2 := bx2.within hw16 (by omega)
  replace bx3 := bx3.within hw16 (by omega)
  replace bx6 := bx6.within hw16 (by omega)
  replace bx7 := bx7.within hw16 (by omega)
  replace bx8 := bx8.within hw16 (by omega)
  replace bx9 := bx9.within hw16 (by omega)
  replace bx10 := bx10.within hw16 (by omega)
  replace bx11 := bx11.within hw16 (by omega)
  replace ow := ow.within hw16 (by omega)
  replace os := os.within hw16 (by omega)
  replace og := og.within hw16 (by omega)
  replace ok := ok.within hw16 (by omega)
  replace BW := BW.trans (hw16.below (by have := BW.size; omega) (by have := BW.size; omega))
  have hcn : ¬ ((1 : Int) + (cq : Int) + (u.count : Int)) < 0 := by omega
  clear ht16 hw16 ou
  generalize u.count = cu at *
  go_wp2_with (first | (guard_target = wpList _ _ _ (Oper.mk (some 88) _ _ _ _ _ :: _) _ _; refine load_if6 (by rfl) 37 (.tmp 13) rfl w8.heap.size 0 rfl (PoolA.cells tg) _ (pool_rng _ bx10) Tryd.underlying37 rfl (pool_info _) ?_) | (guard_target = wpList _ _ _ (Oper.mk (some 89) _ _ _ _ _ :: _) _ _; refine load_if6 (by rfl) 37 (.tmp 8) rfl B6 0 rfl (PoolA.cells tw) _ (pool_rng _ bx6) Tryd.underlying37 rfl (pool_info _) ?_) | fail)
  refine (eqPool_same tg tw HGW.out w16 og.reads ow.reads (PoolA.short_wide hgS)).mono ?_
  rintro e w17a ⟨rfl, hb17a⟩
  replace bx2 := bx2.below hb17a bx2.lt
  replace bx3 := bx3.below hb17a bx3.lt
  replace bx6 := bx6.below hb17a bx6.lt
  replace bx7 := bx7.below hb17a bx7.lt
  replace bx8 := bx8.below hb17a bx8.lt
  replace bx9 := bx9.below hb17a bx9.lt
  replace bx10 := bx10.below hb17a bx10.lt
  replace bx11 := bx11.below hb17a bx11.lt
  replace ow := ow.below hb17a
  replace os := os.below hb17a
  replace og := og.below hb17a
  replace ok := ok.below hb17a
  replace BW := BW.trans (hb17a.mono BW.size)
  have s17a := hb17a.size
  go_wp2_with (first | (guard_target = wpList _ _ _ (Oper.mk (some 94) _ _ _ _ _ :: _) _ _; refine load_if6 (by rfl) 45 (.tmp 14) rfl (w8.heap.size + 1) 0 rfl (SeatA.cells sg) _ (seat_rng _ bx11) Tryd.underlying45 rfl (seat_info _) ?_) | (guard_target = wpList _ _ _ (Oper.mk (some 95) _ _ _ _ _ :: _) _ _; refine load_if6 (by rfl) 45 (.tmp 9) rfl G6 0 rfl (SeatA.cells sw) _ (seat_rng _ bx7) Tryd.underlying45 rfl (seat_info _) ?_) | fail)
  refine (eqSeat_same sg sw HKW.out w17a ok.reads os.reads hkS.wide).mono ?_
  rintro e w17 ⟨rfl, hb17⟩
  replace bx2 := bx2.below hb17 bx2.lt
  replace bx3 := bx3.below hb17 bx3.lt
  replace bx6 := bx6.below hb17 bx6.lt
  replace bx7 := bx7.below hb17 bx7.lt
  replace bx8 := bx8.below hb17 bx8.lt
  replace bx9 := bx9.below hb17 bx9.lt
  replace bx10 := bx10.below hb17 bx10.lt
  replace bx11 := bx11.below hb17 bx11.lt
  replace ow := ow.below hb17
  replace os := os.below hb17
  replace og := og.below hb17
  replace ok := ok.below hb17
  replace BW := BW.trans (hb17.mono BW.size)
  have s17 := hb17.size
  have HNB : Hid (∀ b off, tg.a = some ⟨b, off, none⟩ → b ∉ sg.blocks) := fun b off ha => rowSt_apart og.row ok b (by rw [ha]; rfl)
  have HNR : Hid (∀ k ∈ sg.blocks, k ∉ tg.rowBlk) := fun k hk hm => rowSt_apart og.row ok k (Option.mem_toList.1 hm) hk
  go_wp2_with (first | (guard_target = wpList _ _ _ (Oper.mk (some 104) _ _ _ _ _ :: _) _ _; refine wpList_load_mid rfl 37 (.tmp 13) rfl w8.heap.size 0 rfl (PoolA.cells tg) _ (pool_rng _ bx10) Tryd.underlying37 rfl (pool_info _) ?_) | fail)
  refine (markPool_row tg w7.heap.size w8.heap.size 1 w17 og (PoolA.short_wide hgS) (by omega) (countSt_short hgS)).mono ?_
  rintro e w18 ⟨rfl, og18, ht18⟩
  have hw18 : Within w7.heap.size w8.heap.size w17 w18 := ht18.within (fun k hk => og.blocks_lt k (List.mem_append.2 (.inl hk)))
  replace ok := SeatA.own.touch ok ht18 HNR.out
  have s18 := hw18.size
  replace bx2 := bx2.within hw18 (by omega)
  replace bx3 := bx3.within hw18 (by omega)
  replace bx6 := bx6.within hw18 (by omega)
  replace bx7 := bx7.within hw18 (by omega)
  replace bx8 := bx8.within hw18 (by omega)
  replace bx9 := bx9.within hw18 (by omega)
  replace bx10 := bx10.within hw18 (by omega)
  replace bx11 := bx11.within hw18 (by omega)
  replace ow := ow.within hw18 (by omega)
  replace os := os.within hw18 (by omega)
  replace BW := BW.trans (hw18.below (by have := BW.size; omega) (by have := BW.size; omega))
  have HROW : RowSts w18 tg.a (markSts tg.seats 1) := (OwnSts.reads og18).rows
  clear ht18 hw18 og og18 HNR
  have hct : (tg.count : Int) ≤ 4194304 := countSt_mid hgS
  have hcn2 : ¬ ((1 : Int) + (tg.count : Int)) < 0 := by omega
  have hcn3 : ¬ ((1 : Int) + (tg.count : Int) + (sg.count : Int)) < 0 := by omega
  simp only
  go_wp2_with (first | (guard_target = wpList _ _ _ (Oper.mk (some 107) _ _ _ _ _ :: _) _ _; refine wpList_load_mid rfl 45 (.tmp 14) rfl (w8.heap.size + 1) 0 rfl (SeatA.cells sg) _ (seat_rng _ bx11) Tryd.underlying45 rfl (seat_info _) ?_) | fail)
  refine (markSeat_touch sg w7.heap.size w8.heap.size (1 + (tg.count : Int)) w18 ok hkS.wide (by omega) (by omega) (by omega)).mono ?_
  rintro e w19 ⟨rfl, ok19, ht19⟩
  have hw19 : Within w7.heap.size w8.heap.size w18 w19 := ht19.within (SeatA.own.blocks_lt ok)
  have s19 := hw19.size
  replace bx2 := bx2.within hw19 (by omega)
  replace bx3 := bx3.within hw19 (by omega)
  replace bx6 := bx6.within hw19 (by omega)
  replace bx7 := bx7.within hw19 (by omega)
  replace bx8 := bx8.within hw19 (by omega)
  replace bx9 := bx9.within hw19 (by omega)
  replace bx10 := bx10.within hw19 (by omega)
  replace bx11 := bx11.within hw19 (by omega)
  replace ow := ow.within hw19 (by omega)
  replace os := os.within hw19 (by omega)
  replace BW := BW.trans (hw19.below (by have := BW.size; omega) (by have := BW.size; omega))
  replace HROW := HROW.touch ht19 HNB.out
  clear ht19 hw19 ok HNB
  simp only
  go_wp2_with (first | (guard_target = wpList _ _ _ (Oper.mk (some 110) _ _ _ _ _ :: _) _ _; refine wpList_load_mid rfl 37 (.tmp 13) rfl w8.heap.size 0 rfl (PoolA.cells tg) _ (pool_rng _ bx10) Tryd.underlying37 rfl (pool_info _) ?_) | fail)
  refine (heldPool_row tg 1 w19 HROW (by have := hgS.len; omega) (by omega) (countSt_short hgS)).mono ?_
  rintro e w20 ⟨rfl, hb20⟩
  replace bx2 := bx2.below hb20 bx2.lt
  replace bx3 := bx3.below hb20 bx3.lt
  replace bx6 := bx6.below hb20 bx6.lt
  replace bx7 := bx7.below hb20 bx7.lt
  replace bx8 := bx8.below hb20 bx8.lt
  replace bx9 := bx9.below hb20 bx9.lt
  replace bx10 := bx10.below hb20 bx10.lt
  replace bx11 := bx11.below hb20 bx11.lt
  replace ow := ow.below hb20
  replace os := os.below hb20
  replace HROW := HROW.below hb20
  replace ok19 := ok19.below hb20
  replace BW := BW.trans (hb20.mono BW.size)
  have s20 := hb20.size
  simp only
  go_wp2_with (first | (guard_target = wpList _ _ _ (Oper.mk (some 115) _ _ _ _ _ :: _) _ _; refine wpList_load_mid rfl 45 (.tmp 14) rfl (w8.heap.size + 1) 0 rfl (SeatA.cells sg) _ (seat_rng _ bx11) Tryd.underlying45 rfl (seat_info _) ?_) | fail)
  refine (heldSeat_any sg w7.heap.size w8.heap.size (1 + (tg.count : Int)) w20 ok19 hkS.wide (by omega) (by omega)).mono ?_
  rintro e w21 ⟨rfl, hb21⟩
  replace bx2 := bx2.below hb21 bx2.lt
  replace bx3 := bx3.below hb21 bx3.lt
  replace bx6 := bx6.below hb21 bx6.lt
  replace bx7 := bx7.below hb21 bx7.lt
  replace bx8 := bx8.below hb21 bx8.lt
  replace bx9 := bx9.below hb21 bx9.lt
  replace bx10 := bx10.below hb21 bx10.lt
  replace bx11 := bx11.below hb21 bx11.lt
  replace ow := ow.below hb21
  replace os := os.below hb21
  replace HROW := HROW.below hb21
  replace ok19 := ok19.below hb21
  replace BW := BW.trans (hb21.mono BW.size)
  have s21 := hb21.size
  simp only
  have HRG : Hid (∀ u, Below w21.heap.size w21 u → u.rangeAt w.heap.size 0 p.cells ∧ u.rangeAt (w.heap.size + 1) 0 r.cells) := fun u hu => ⟨pool_rng p (bx2.below hu bx2.lt), pg_rng r (bx3.below hu bx3.lt)⟩
  go_upto_region 35 with fail
  go_cut [19, 20, 21] from 22 (fun a b c wx => ∃ (Bx Gx : Nat) (aw : PoolA) (ag : SeatA), a = .pointer (some ⟨Bx, 0, none⟩) ∧ b = .pointer (some ⟨Gx, 0, none⟩) ∧ c = .bool RK ∧ Hid (aw.v = RO) ∧ Hid (ag.v = RG) ∧ Box wx Bx (PoolA.cells aw) 37 ∧ Box wx Gx (SeatA.cells ag) 45 ∧ PoolA.own wx w21.heap.size wx.heap.size aw ∧ SeatA.own wx w21.heap.size wx.heap.size ag ∧ Below w21.heap.size w21 wx)
  case first =>
   as_aux_lemma =>
   have hu1 := HU.out.1
   have hu2 := HU.out.2
   have hi1 := lpool_info p
   have hi2 := lpg_info r
   have D0 : Below w21.heap.size w21 w21.drew := (Below.refl _ _).drew
   refine wp_region_held_drew (S := fun w' => w'.rangeAt w.heap.size 0 p.cells ∧ w'.rangeAt (w.heap.size + 1) 0 r.cells) (by kernel_rfl) (HRG.out _ D0) (fun hHeld => ?_)
   refine tk 0 rfl (yieldsIf_load_mid (by rfl) _ _ rfl _ _ rfl p.cells _ (fun _ h => h.1) hu1 rfl hi1) hHeld ?_
   go_simp
   refine tk 2 (v := .int .i64 n) rfl (Or.inl ⟨by rfl, fun w' _ => ?_⟩) hHeld ?_
   ·go_simp
   go_simp
   refine tk 3 rfl (yieldsIf_load_mid (by rfl) _ _ rfl _ _ rfl r.cells _ (fun _ h => h.2) hu2 rfl hi2) hHeld ?_
   go_simp
   generalize hD : w21.drew = d0 at *
   refine wpAnyH_ready (rs := [1, 10, 11]) (by kernel_rfl) (by simp) ?_
   refine AllReadyH.cons rfl (fun K hK => ?_) (AllReadyH.cons rfl (fun K hK => ?_) (AllReadyH.cons rfl (fun K hK => ?_) AllReadyH.nil))
   focus
    go_simp
    refine (toPool_any p _ (hRp _ (BW.trans (D0.mono BW.size))) hl).mono ?_
    rintro e x0a ⟨ts, rfl, hvt, hot, hba⟩
    have D0a : Below w21.heap.size w21 x0a := D0.trans (hba.mono D0.size)
    have za := hba.size
    refine hK.out _ _ (HRG.out _ D0a) (fun hHeld => ?_)
    clear hK K hba
    refine wpAnyH_ready (rs := [4, 10, 11]) (by kernel_rfl) (by simp) ?_
    refine AllReadyH.cons rfl (fun K hK => ?_) (AllReadyH.cons rfl (fun K hK => ?_) (AllReadyH.cons rfl (fun K hK => ?_) AllReadyH.nil))
    focus
     go_simp
     refine (toPg_law r _ (hRd _ (BW.trans (D0a.mono BW.size))) hlr).mono ?_
     rintro e x0ab ⟨uu, rfl, hvu, hou, hbb⟩
     have D0ab : Below w21.heap.size w21 x0ab := D0a.trans (hbb.mono D0a.size)
     replace hot := hot.below hbb
     have zb := hbb.size
     refine hK.out _ _ (HRG.out _ D0ab) (fun hHeld => ?_)
     clear hK K hbb
     refine wpAnyH_ready (rs := [5, 10, 11]) (by kernel_rfl) (by simp) ?_
     refine AllReadyH.cons rfl (fun K hK => ?_) (AllReadyH.cons rfl (fun K hK => ?_) (AllReadyH.cons rfl (fun K hK => ?_) AllReadyH.nil))
     focus
      go_simp
      refine (HIM.out ts uu _ (hgB _ (BW.trans (D0ab.mono BW.size))) hvt.out hvu.out hot (PoolA.short_of hvt.out hl) hou (pg_short_wide (pg_short_of hvu.out hlr))).mono ?_
      rintro e x0abc ⟨aw, ag, rfl, hva, hvg, hoa, hog, hbc⟩
      have D0abc : Below w21.heap.size w21 x0abc := D0ab.trans (hbc.mono D0ab.size)
      have zc := hbc.size
      refine hK.out _ _ (HRG.out _ D0abc) (fun hHeld => ?_)
      clear hK K hbc
      refine tk 6 (v := .tuple #[.agg (PoolA.cells aw).toArray, .agg (SeatA.cells ag).toArray, .bool RK]) rfl (Or.inl ⟨by rfl, fun w' _ => ?_⟩) hHeld ?_
      ·go_simp
      go_simp
      refine tk 7 (v := .agg (PoolA.cells aw).toArray) rfl (Or.inl ⟨by rfl, fun w' _ => ?_⟩) hHeld ?_
      ·go_simp
      go_simp
      refine tk 8 (v := .agg (SeatA.cells ag).toArray) rfl (Or.inl ⟨by rfl, fun w' _ => ?_⟩) hHeld ?_
      ·go_simp
      go_simp
      refine tk 9 (v := .bool RK) rfl (Or.inl ⟨by rfl, fun w' _ => ?_⟩) hHeld ?_
      ·go_simp
      go_simp
      refine wpAnyH_ready (rs := [10, 11]) (by kernel_rfl) (by simp) ?_
      refine AllReadyH.cons rfl (fun K hK => ?_) (AllReadyH.cons rfl (fun K hK => ?_) AllReadyH.nil)
      focus
       go_simp
       obtain ⟨x0abcy, hWA, bA0, hby, zy⟩ := boxes1 x0abc [.slice none 0 0, .int .i64 0] 37
       replace zy : x0abc.heap.size < x0abcy.heap.size := by omega
       rw [hWA.out]
       have bA : Box x0abcy x0abc.heap.size [.slice none 0 0, .int .i64 0] 37 := bA0
       have D0abcy : Below w21.heap.size w21 x0abcy := D0abc.trans (hby.mono D0abc.size)
       replace hoa := hoa.below hby
       replace hog := hog.below hby
       refine hK.out _ _ (HRG.out _ D0abcy) (fun hHeld => ?_)
       clear hK K hWA bA0 hby
       refine wpAnyH_ready (rs := [11]) (by kernel_rfl) (by simp) ?_
       refine AllReadyH.cons rfl (fun K hK => ?_) AllReadyH.nil
       go_simp
       obtain ⟨x0abcyz, hWA, bB0, hbz, zz⟩ := boxes1 x0abcy [.int .i64 0, .int .i64 0, .bool false, .int .i64 0, .slice none 0 0, .slice none 0 0, .bool false, .int .i64 0, .slice none 0 0, .slice none 0 0, .bool false, .int .i64 0, .slice none 0 0, .slice none 0 0, .bool false, .int .i64 0, .slice none 0 0, .slice none 0 0, .bool false, .bool false] 45
       replace zz : x0abcy.heap.size < x0abcyz.heap.size := by omega
       rw [hWA.out]
       have bB : Box x0abcyz x0abcy.heap.size [.int .i64 0, .int .i64 0, .bool false, .int .i64 0, .slice none 0 0, .slice none 0 0, .bool false, .int .i64 0, .slice none 0 0, .slice none 0 0, .bool false, .int .i64 0, .slice none 0 0, .slice none 0 0, .bool false, .int .i64 0, .slice none 0 0, .slice none 0 0, .bool false, .bool false] 45 := bB0
       have D0abcyz : Below w21.heap.size w21 x0abcyz := D0abcy.trans (hbz.mono D0abcy.size)
       replace bA := bA.below hbz bA.lt
       replace hoa := hoa.below hbz
       replace hog := hog.below hbz
       refine hK.out _ _ (HRG.out _ D0abcyz) (fun hHeld => ?_)
       clear hK K hWA bB0 hbz
       obtain ⟨WE, hWE, hwE, hsE, HTE, _, bE⟩ := pool_out aw _ rfl bA
       replace bB := bB.within hwE (by omega)
       obtain ⟨WF, hWF, hwF, hsF, HTF, _, bF⟩ := seat_out ag _ rfl bB
       replace bE := bE.within hwF (by omega)
       have lA := bA.lt
       have lB := bB.lt
       have y1 := D0.size
       have y2 := D0a.size
       have y3 := D0ab.size
       have y4 := D0abc.size
       have y5 := D0abcy.size
       have y6 := D0abcyz.size
       have oF : PoolA.own WF w21.heap.size WF.heap.size aw := ((hoa.within hwE (by omega)).within hwF (by omega)).widen (by omega) (by omega) (Nat.le_refl _)
       have gF : SeatA.own WF w21.heap.size WF.heap.size ag := ((hog.within hwE (by omega)).within hwF (by omega)).widen (by omega) (by omega) (Nat.le_refl _)
       have DE : Below w21.heap.size w21 WE := D0abcyz.trans (hwE.below (by omega) (by omega))
       have DF : Below w21.heap.size w21 WF := DE.trans (hwF.below (by omega) (by omega))
       refine wpAnyH_ready (rs := [12]) (by kernel_rfl) (by simp) ?_
       refine AllReadyH.cons rfl (fun K hK => ?_) AllReadyH.nil
       rw [if_pos (by rfl)]
       refine wp_store_mid 37 (.tmp 19) (.tmp 130) rfl x0abc.heap.size 0 (PoolA.cells aw).toArray rfl rfl HTE.out (by rw [List.size_toArray]; exact pool_info _) (pool_one _) ?_
       have HW : Hid ((x0abcyz).setCells x0abc.heap.size 0 (PoolA.cells aw).toArray.toList = WE) := hWE.out
       rw [HW.out]
       refine hK.out _ _ (HRG.out _ DE) (fun hHeld => ?_)
       clear hK K HW hWE HTE
       simp only [Act.put, zA, zB, zC]
       refine wpAnyH_ready (rs := [13]) (by kernel_rfl) (by simp) ?_
       refine AllReadyH.cons rfl (fun K hK => ?_) AllReadyH.nil
       rw [if_pos (by rfl)]
       refine wp_store_mid 45 (.tmp 20) (.tmp 131) rfl x0abcy.heap.size 0 (SeatA.cells ag).toArray rfl rfl HTF.out (by rw [List.size_toArray]; exact seat_info _) (seat_one _) ?_
       have HW : Hid ((WE).setCells x0abcy.heap.size 0 (SeatA.cells ag).toArray.toList = WF) := hWF.out
       rw [HW.out]
       refine hK.out _ _ (HRG.out _ DF) (fun hHeld => ?_)
       clear hK K HW hWF HTF
       simp only [Act.put, zA, zB, zC]
       refine tk 14 (v := .bool RK) rfl (Or.inl ⟨by rfl, fun w' _ => ?_⟩) hHeld ?_
       ·go_simp
       go_simp
       refine wpAnyH_done (by kernel_rfl) ?_ _
       clear hHeld
       go_wp2_with fail
       go_meet
       case rel => exact ⟨x0abc.heap.size, x0abcy.heap.size, aw, ag, rfl, rfl, rfl, hva, hvg, bE, bF, oF, gF, DF⟩
      focus
       go_simp
       obtain ⟨x0abcz, hWA, bB0, hbz, zz⟩ := boxes1 x0abc [.int .i64 0, .int .i64 0, .bool false, .int .i64 0, .slice none 0 0, .slice none 0 0, .bool false, .int .i64 0, .slice none 0 0, .slice none 0 0, .bool false, .int .i64 0, .slice none 0 0, .slice none 0 0, .bool false, .int .i64 0, .slice none 0 0, .slice none 0 0, .bool false, .bool false] 45
       replace zz : x0abc.heap.size < x0abcz.heap.size := by omega
       rw [hWA.out]
       have bB : Box x0abcz x0abc.heap.size [.int .i64 0, .int .i64 0, .bool false, .int .i64 0, .slice none 0 0, .slice none 0 0, .bool false, .int .i64 0, .slice none 0 0, .slice none 0 0, .bool false, .int .i64 0, .slice none 0 0, .slice none 0 0, .bool false, .int .i64 0, .slice none 0 0, .slice none 0 0, .bool false, .bool false] 45 := bB0
       have D0abcz : Below w21.heap.size w21 x0abcz := D0abc.trans (hbz.mono D0abc.size)
       replace hoa := hoa.below hbz
       replace hog := hog.below hbz
       refine hK.out _ _ (HRG.out _ D0abcz) (fun hHeld => ?_)
       clear hK K hWA bB0 hbz
       refine wpAnyH_ready (rs := [10]) (by kernel_rfl) (by simp) ?_
       refine AllReadyH.cons rfl (fun K hK => ?_) AllReadyH.nil
       go_simp
       obtain ⟨x0abczy, hWA, bA0, hby, zy⟩ := boxes1 x0abcz [.slice none 0 0, .int .i64 0] 37
       replace zy : x0abcz.heap.size < x0abczy.heap.size := by omega
       rw [hWA.out]
       have bA : Box x0abczy x0abcz.heap.size [.slice none 0 0, .int .i64 0] 37 := bA0
       have D0abczy : Below w21.heap.size w21 x0abczy := D0abcz.trans (hby.mono D0abcz.size)
       replace bB := bB.below hby bB.lt
       replace hoa := hoa.below hby
       replace hog := hog.below hby
       refine hK.out _ _ (HRG.out _ D0abczy) (fun hHeld => ?_)
       clear hK K hWA bA0 hby
       obtain ⟨WE, hWE, hwE, hsE, HTE, _, bE⟩ := pool_out aw _ rfl bA
       replace bB := bB.within hwE (by omega)
       obtain ⟨WF, hWF, hwF, hsF, HTF, _, bF⟩ := seat_out ag _ rfl bB
       replace bE := bE.within hwF (by omega)
       have lA := bA.lt
       have lB := bB.lt
       have y1 := D0.size
       have y2 := D0a.size
       have y3 := D0ab.size
       have y4 := D0abc.size
       have y5 := D0abcz.size
       have y6 := D0abczy.size
       have oF : PoolA.own WF w21.heap.size WF.heap.size aw := ((hoa.within hwE (by omega)).within hwF (by omega)).widen (by omega) (by omega) (Nat.le_refl _)
       have gF : SeatA.own WF w21.heap.size WF.heap.size ag := ((hog.within hwE (by omega)).within hwF (by omega)).widen (by omega) (by omega) (Nat.le_refl _)
       have DE : Below w21.heap.size w21 WE := D0abczy.trans (hwE.below (by omega) (by omega))
       have DF : Below w21.heap.size w21 WF := DE.trans (hwF.below (by omega) (by omega))
       refine wpAnyH_ready (rs := [12]) (by kernel_rfl) (by simp) ?_
       refine AllReadyH.cons rfl (fun K hK => ?_) AllReadyH.nil
       rw [if_pos (by rfl)]
       refine wp_store_mid 37 (.tmp 19) (.tmp 130) rfl x0abcz.heap.size 0 (PoolA.cells aw).toArray rfl rfl HTE.out (by rw [List.size_toArray]; exact pool_info _) (pool_one _) ?_
       have HW : Hid ((x0abczy).setCells x0abcz.heap.size 0 (PoolA.cells aw).toArray.toList = WE) := hWE.out
       rw [HW.out]
       refine hK.out _ _ (HRG.out _ DE) (fun hHeld => ?_)
       clear hK K HW hWE HTE
       simp only [Act.put, zA, zB, zC]
       refine wpAnyH_ready (rs := [13]) (by kernel_rfl) (by simp) ?_
       refine AllReadyH.cons rfl (fun K hK => ?_) AllReadyH.nil
       rw [if_pos (by rfl)]
       refine wp_store_mid 45 (.tmp 20) (.tmp 131) rfl x0abc.heap.size 0 (SeatA.cells ag).toArray rfl rfl HTF.out (by rw [List.size_toArray]; exact seat_info _) (seat_one _) ?_
       have HW : Hid ((WE).setCells x0abc.heap.size 0 (SeatA.cells ag).toArray.toList = WF) := hWF.out
       rw [HW.out]
       refine hK.out _ _ (HRG.out _ DF) (fun hHeld => ?_)
       clear hK K HW hWF HTF
       simp only [Act.put, zA, zB, zC]
       refine tk 14 (v := .bool RK) rfl (Or.inl ⟨by rfl, fun w' _ => ?_⟩) hHeld ?_
       ·go_simp
       go_simp
       refine wpAnyH_done (by kernel_rfl) ?_ _
       clear hHeld
       go_wp2_with fail
       go_meet
       case rel => exact ⟨x0abcz.heap.size, x0abc.heap.size, aw, ag, rfl, rfl, rfl, hva, hvg, bE, bF, oF, gF, DF⟩
     focus
      go_simp
      obtain ⟨x0aby, hWA, bA0, hby, zy⟩ := boxes1 x0ab [.slice none 0 0, .int .i64 0] 37
      replace zy : x0ab.heap.size < x0aby.heap.size := by omega
      rw [hWA.out]
      have bA : Box x0aby x0ab.heap.size [.slice none 0 0, .int .i64 0] 37 := bA0
      have D0aby : Below w21.heap.size w21 x0aby := D0ab.trans (hby.mono D0ab.size)
      replace hot := hot.below hby
      replace hou := hou.below hby
      refine hK.out _ _ (HRG.out _ D0aby) (fun hHeld => ?_)
      clear hK K hWA bA0 hby
      refine wpAnyH_ready (rs := [5, 11]) (by kernel_rfl) (by simp) ?_
      refine AllReadyH.cons rfl (fun K hK => ?_) (AllReadyH.cons rfl (fun K hK => ?_) AllReadyH.nil)
      focus
       go_simp
       refine (HIM.out ts uu _ (hgB _ (BW.trans (D0aby.mono BW.size))) hvt.out hvu.out hot (PoolA.short_of hvt.out hl) hou (pg_short_wide (pg_short_of hvu.out hlr))).mono ?_
       rintro e x0abyc ⟨aw, ag, rfl, hva, hvg, hoa, hog, hbc⟩
       have D0abyc : Below w21.heap.size w21 x0abyc := D0aby.trans (hbc.mono D0aby.size)
       replace bA := bA.below hbc bA.lt
       have zc := hbc.size
       refine hK.out _ _ (HRG.out _ D0abyc) (fun hHeld => ?_)
       clear hK K hbc
       refine tk 6 (v := .tuple #[.agg (PoolA.cells aw).toArray, .agg (SeatA.cells ag).toArray, .bool RK]) rfl (Or.inl ⟨by rfl, fun w' _ => ?_⟩) hHeld ?_
       ·go_simp
       go_simp
       refine tk 7 (v := .agg (PoolA.cells aw).toArray) rfl (Or.inl ⟨by rfl, fun w' _ => ?_⟩) hHeld ?_
       ·go_simp
       go_simp
       refine tk 8 (v := .agg (SeatA.cells ag).toArray) rfl (Or.inl ⟨by rfl, fun w' _ => ?_⟩) hHeld ?_
       ·go_simp
       go_simp
       refine tk 9 (v := .bool RK) rfl (Or.inl ⟨by rfl, fun w' _ => ?_⟩) hHeld ?_
       ·go_simp
       go_simp
       refine wpAnyH_ready (rs := [11]) (by kernel_rfl) (by simp) ?_
       refine AllReadyH.cons rfl (fun K hK => ?_) AllReadyH.nil
       go_simp
       obtain ⟨x0abycz, hWA, bB0, hbz, zz⟩ := boxes1 x0abyc [.int .i64 0, .int .i64 0, .bool false, .int .i64 0, .slice none 0 0, .slice none 0 0, .bool false, .int .i64 0, .slice none 0 0, .slice none 0 0, .bool false, .int .i64 0, .slice none 0 0, .slice none 0 0, .bool false, .int .i64 0, .slice none 0 0, .slice none 0 0, .bool false, .bool false] 45
       replace zz : x0abyc.heap.size < x0abycz.heap.size := by omega
       rw [hWA.out]
       have bB : Box x0abycz x0abyc.heap.size [.int .i64 0, .int .i64 0, .bool false, .int .i64 0, .slice none 0 0, .slice none 0 0, .bool false, .int .i64 0, .slice none 0 0, .slice none 0 0, .bool false, .int .i64 0, .slice none 0 0, .slice none 0 0, .bool false, .int .i64 0, .slice none 0 0, .slice none 0 0, .bool false, .bool false] 45 := bB0
       have D0abycz : Below w21.heap.size w21 x0abycz := D0abyc.trans (hbz.mono D0abyc.size)
       replace bA := bA.below hbz bA.lt
       replace hoa := hoa.below hbz
       replace hog := hog.below hbz
       refine hK.out _ _ (HRG.out _ D0abycz) (fun hHeld => ?_)
       clear hK K hWA bB0 hbz
       obtain ⟨WE, hWE, hwE, hsE, HTE, _, bE⟩ := pool_out aw _ rfl bA
       replace bB := bB.within hwE (by omega)
       obtain ⟨WF, hWF, hwF, hsF, HTF, _, bF⟩ := seat_out ag _ rfl bB
       replace bE := bE.within hwF (by omega)
       have lA := bA.lt
       have lB := bB.lt
       have y1 := D0.size
       have y2 := D0a.size
       have y3 := D0ab.size
       have y4 := D0aby.size
       have y5 := D0abyc.size
       have y6 := D0abycz.size
       have oF : PoolA.own WF w21.heap.size WF.heap.size aw := ((hoa.within hwE (by omega)).within hwF (by omega)).widen (by omega) (by omega) (Nat.le_refl _)
       have gF : SeatA.own WF w21.heap.size WF.heap.size ag := ((hog.within hwE (by omega)).within hwF (by omega)).widen (by omega) (by omega) (Nat.le_refl _)
       have DE : Below w21.heap.size w21 WE := D0abycz.trans (hwE.below (by omega) (by omega))
       have DF : Below w21.heap.size w21 WF := DE.trans (hwF.below (by omega) (by omega))
       refine wpAnyH_ready (rs := [12]) (by kernel_rfl) (by simp) ?_
       refine AllReadyH.cons rfl (fun K hK => ?_) AllReadyH.nil
       rw [if_pos (by rfl)]
       refine wp_store_mid 37 (.tmp 19) (.tmp 130) rfl x0ab.heap.size 0 (PoolA.cells aw).toArray rfl rfl HTE.out (by rw [List.size_toArray]; exact pool_info _) (pool_one _) ?_
       have HW : Hid ((x0abycz).setCells x0ab.heap.size 0 (PoolA.cells aw).toArray.toList = WE) := hWE.out
       rw [HW.out]
       refine hK.out _ _ (HRG.out _ DE) (fun hHeld => ?_)
       clear hK K HW hWE HTE
       simp only [Act.put, zA, zB, zC]
       refine wpAnyH_ready (rs := [13]) (by kernel_rfl) (by simp) ?_
       refine AllReadyH.cons rfl (fun K hK => ?_) AllReadyH.nil
       rw [if_pos (by rfl)]
       refine wp_store_mid 45 (.tmp 20) (.tmp 131) rfl x0abyc.heap.size 0 (SeatA.cells ag).toArray rfl rfl HTF.out (by rw [List.size_toArray]; exact seat_info _) (seat_one _) ?_
       have HW : Hid ((WE).setCells x0abyc.heap.size 0 (SeatA.cells ag).toArray.toList = WF) := hWF.out
       rw [HW.out]
       refine hK.out _ _ (HRG.out _ DF) (fun hHeld => ?_)
       clear hK K HW hWF HTF
       simp only [Act.put, zA, zB, zC]
       refine tk 14 (v := .bool RK) rfl (Or.inl ⟨by rfl, fun w' _ => ?_⟩) hHeld ?_
       ·go_simp
       go_simp
       refine wpAnyH_done (by kernel_rfl) ?_ _
       clear hHeld
       go_wp2_with fail
       go_meet
       case rel => exact ⟨x0ab.heap.size, x0abyc.heap.size, aw, ag, rfl, rfl, rfl, hva, hvg, bE, bF, oF, gF, DF⟩
      focus
       go_simp
       obtain ⟨x0abyz, hWA, bB0, hbz, zz⟩ := boxes1 x0aby [.int .i64 0, .int .i64 0, .bool false, .int .i64 0, .slice none 0 0, .slice none 0 0, .bool false, .int .i64 0, .slice none 0 0, .slice none 0 0, .bool false, .int .i64 0, .slice none 0 0, .slice none 0 0, .bool false, .int .i64 0, .slice none 0 0, .slice none 0 0, .bool false, .bool false] 45
       replace zz : x0aby.heap.size < x0abyz.heap.size := by omega
       rw [hWA.out]
       have bB : Box x0abyz x0aby.heap.size [.int .i64 0, .int .i64 0, .bool false, .int .i64 0, .slice none 0 0, .slice none 0 0, .bool false, .int .i64 0, .slice none 0 0, .slice none 0 0, .bool false, .int .i64 0, .slice none 0 0, .slice none 0 0, .bool false, .int .i64 0, .slice none 0 0, .slice none 0 0, .bool false, .bool false] 45 := bB0
       have D0abyz : Below w21.heap.size w21 x0abyz := D0aby.trans (hbz.mono D0aby.size)
       replace bA := bA.below hbz bA.lt
       replace hot := hot.below hbz
       replace hou := hou.below hbz
       refine hK.out _ _ (HRG.out _ D0abyz) (fun hHeld => ?_)
       clear hK K hWA bB0 hbz
       refine wpAnyH_ready (rs := [5]) (by kernel_rfl) (by simp) ?_
       refine AllReadyH.cons rfl (fun K hK => ?_) AllReadyH.nil
       go_simp
       refine (HIM.out ts uu _ (hgB _ (BW.trans (D0abyz.mono BW.size))) hvt.out hvu.out hot (PoolA.short_of hvt.out hl) hou (pg_short_wide (pg_short_of hvu.out hlr))).mono ?_
       rintro e x0abyzc ⟨aw, ag, rfl, hva, hvg, hoa, hog, hbc⟩
       have D0abyzc : Below w21.heap.size w21 x0abyzc := D0abyz.trans (hbc.mono D0abyz.size)
       replace bA := bA.below hbc bA.lt
       replace bB := bB.below hbc bB.lt
       have zc := hbc.size
       refine hK.out _ _ (HRG.out _ D0abyzc) (fun hHeld => ?_)
       clear hK K hbc
       refine tk 6 (v := .tuple #[.agg (PoolA.cells aw).toArray, .agg (SeatA.cells ag).toArray, .bool RK]) rfl (Or.inl ⟨by rfl, fun w' _ => ?_⟩) hHeld ?_
       ·go_simp
       go_simp
       refine tk 7 (v := .agg (PoolA.cells aw).toArray) rfl (Or.inl ⟨by rfl, fun w' _ => ?_⟩) hHeld ?_
       ·go_simp
       go_simp
       refine tk 8 (v := .agg (SeatA.cells ag).toArray) rfl (Or.inl ⟨by rfl, fun w' _ => ?_⟩) hHeld ?_
       ·go_simp
       go_simp
       refine tk 9 (v := .bool RK) rfl (Or.inl ⟨by rfl, fun w' _ => ?_⟩) hHeld ?_
       ·go_simp
       go_simp
       obtain ⟨WE, hWE, hwE, hsE, HTE, _, bE⟩ := pool_out aw _ rfl bA
       replace bB := bB.within hwE (by omega)
       obtain ⟨WF, hWF, hwF, hsF, HTF, _, bF⟩ := seat_out ag _ rfl bB
       replace bE := bE.within hwF (by omega)
       have lA := bA.lt
       have lB := bB.lt
       have y1 := D0.size
       have y2 := D0a.size
       have y3 := D0ab.size
       have y4 := D0aby.size
       have y5 := D0abyz.size
       have y6 := D0abyzc.size
       have oF : PoolA.own WF w21.heap.size WF.heap.size aw := ((hoa.within hwE (by omega)).within hwF (by omega)).widen (by omega) (by omega) (Nat.le_refl _)
       have gF : SeatA.own WF w21.heap.size WF.heap.size ag := ((hog.within hwE (by omega)).within hwF (by omega)).widen (by omega) (by omega) (Nat.le_refl _)
       have DE : Below w21.heap.size w21 WE := D0abyzc.trans (hwE.below (by omega) (by omega))
       have DF : Below w21.heap.size w21 WF := DE.trans (hwF.below (by omega) (by omega))
       refine wpAnyH_ready (rs := [12]) (by kernel_rfl) (by simp) ?_
       refine AllReadyH.cons rfl (fun K hK => ?_) AllReadyH.nil
       rw [if_pos (by rfl)]
       refine wp_store_mid 37 (.tmp 19) (.tmp 130) rfl x0ab.heap.size 0 (PoolA.cells aw).toArray rfl rfl HTE.out (by rw [List.size_toArray]; exact pool_info _) (pool_one _) ?_
       have HW : Hid ((x0abyzc).setCells x0ab.heap.size 0 (PoolA.cells aw).toArray.toList = WE) := hWE.out
       rw [HW.out]
       refine hK.out _ _ (HRG.out _ DE) (fun hHeld => ?_)
       clear hK K HW hWE HTE
       simp only [Act.put, zA, zB, zC]
       refine wpAnyH_ready (rs := [13]) (by kernel_rfl) (by simp) ?_
       refine AllReadyH.cons rfl (fun K hK => ?_) AllReadyH.nil
       rw [if_pos (by rfl)]
       refine wp_store_mid 45 (.tmp 20) (.tmp 131) rfl x0aby.heap.size 0 (SeatA.cells ag).toArray rfl rfl HTF.out (by rw [List.size_toArray]; exact seat_info _) (seat_one _) ?_
       have HW : Hid ((WE).setCells x0aby.heap.size 0 (SeatA.cells ag).toArray.toList = WF) := hWF.out
       rw [HW.out]
       refine hK.out _ _ (HRG.out _ DF) (fun hHeld => ?_)
       clear hK K HW hWF HTF
       simp only [Act.put, zA, zB, zC]
       refine tk 14 (v := .bool RK) rfl (Or.inl ⟨by rfl, fun w' _ => ?_⟩) hHeld ?_
       ·go_simp
       go_simp
       refine wpAnyH_done (by kernel_rfl) ?_ _
       clear hHeld
       go_wp2_with fail
       go_meet
       case rel => exact ⟨x0ab.heap.size, x0aby.heap.size, aw, ag, rfl, rfl, rfl, hva, hvg, bE, bF, oF, gF, DF⟩
     focus
      go_simp
      obtain ⟨x0abz, hWA, bB0, hbz, zz⟩ := boxes1 x0ab [.int .i64 0, .int .i64 0, .bool false, .int .i64 0, .slice none 0 0, .slice none 0 0, .bool false, .int .i64 0, .slice none 0 0, .slice none 0 0, .bool false, .int .i64 0, .slice none 0 0, .slice none 0 0, .bool false, .int .i64 0, .slice none 0 0, .slice none 0 0, .bool false, .bool false] 45
      replace zz : x0ab.heap.size < x0abz.heap.size := by omega
      rw [hWA.out]
      have bB : Box x0abz x0ab.heap.size [.int .i64 0, .int .i64 0, .bool false, .int .i64 0, .slice none 0 0, .slice none 0 0, .bool false, .int .i64 0, .slice none 0 0, .slice none 0 0, .bool false, .int .i64 0, .slice none 0 0, .slice none 0 0, .bool false, .int .i64 0, .slice none 0 0, .slice none 0 0, .bool false, .bool false] 45 := bB0
      have D0abz : Below w21.heap.size w21 x0abz := D0ab.trans (hbz.mono D0ab.size)
      replace hot := hot.below hbz
      replace hou := hou.below hbz
      refine hK.out _ _ (HRG.out _ D0abz) (fun hHeld => ?_)
      clear hK K hWA bB0 hbz
      refine wpAnyH_ready (rs := [5, 10]) (by kernel_rfl) (by simp) ?_
      refine AllReadyH.cons rfl (fun K hK => ?_) (AllReadyH.cons rfl (fun K hK => ?_) AllReadyH.nil)
      focus
       go_simp
       refine (HIM.out ts uu _ (hgB _ (BW.trans (D0abz.mono BW.size))) hvt.out hvu.out hot (PoolA.short_of hvt.out hl) hou (pg_short_wide (pg_short_of hvu.out hlr))).mono ?_
       rintro e x0abzc ⟨aw, ag, rfl, hva, hvg, hoa, hog, hbc⟩
       have D0abzc : Below w21.heap.size w21 x0abzc := D0abz.trans (hbc.mono D0abz.size)
       replace bB := bB.below hbc bB.lt
       have zc := hbc.size
       refine hK.out _ _ (HRG.out _ D0abzc) (fun hHeld => ?_)
       clear hK K hbc
       refine tk 6 (v := .tuple #[.agg (PoolA.cells aw).toArray, .agg (SeatA.cells ag).toArray, .bool RK]) rfl (Or.inl ⟨by rfl, fun w' _ => ?_⟩) hHeld ?_
       ·go_simp
       go_simp
       refine tk 7 (v := .agg (PoolA.cells aw).toArray) rfl (Or.inl ⟨by rfl, fun w' _ => ?_⟩) hHeld ?_
       ·go_simp
       go_simp
       refine tk 8 (v := .agg (SeatA.cells ag).toArray) rfl (Or.inl ⟨by rfl, fun w' _ => ?_⟩) hHeld ?_
       ·go_simp
       go_simp
       refine tk 9 (v := .bool RK) rfl (Or.inl ⟨by rfl, fun w' _ => ?_⟩) hHeld ?_
       ·go_simp
       go_simp
       refine wpAnyH_ready (rs := [10]) (by kernel_rfl) (by simp) ?_
       refine AllReadyH.cons rfl (fun K hK => ?_) AllReadyH.nil
       go_simp
       obtain ⟨x0abzcy, hWA, bA0, hby, zy⟩ := boxes1 x0abzc [.slice none 0 0, .int .i64 0] 37
       replace zy : x0abzc.heap.size < x0abzcy.heap.size := by omega
       rw [hWA.out]
       have bA : Box x0abzcy x0abzc.heap.size [.slice none 0 0, .int .i64 0] 37 := bA0
       have D0abzcy : Below w21.heap.size w21 x0abzcy := D0abzc.trans (hby.mono D0abzc.size)
       replace bB := bB.below hby bB.lt
       replace hoa := hoa.below hby
       replace hog := hog.below hby
       refine hK.out _ _ (HRG.out _ D0abzcy) (fun hHeld => ?_)
       clear hK K hWA bA0 hby
       obtain ⟨WE, hWE, hwE, hsE, HTE, _, bE⟩ := pool_out aw _ rfl bA
       replace bB := bB.within hwE (by omega)
       obtain ⟨WF, hWF, hwF, hsF, HTF, _, bF⟩ := seat_out ag _ rfl bB
       replace bE := bE.within hwF (by omega)
       have lA := bA.lt
       have lB := bB.lt
       have y1 := D0.size
       have y2 := D0a.size
       have y3 := D0ab.size
       have y4 := D0abz.size
       have y5 := D0abzc.size
       have y6 := D0abzcy.size
       have oF : PoolA.own WF w21.heap.size WF.heap.size aw := ((hoa.within hwE (by omega)).within hwF (by omega)).widen (by omega) (by omega) (Nat.le_refl _)
       have gF : SeatA.own WF w21.heap.size WF.heap.size ag := ((hog.within hwE (by omega)).within hwF (by omega)).widen (by omega) (by omega) (Nat.le_refl _)
       have DE : Below w21.heap.size w21 WE := D0abzcy.trans (hwE.below (by omega) (by omega))
       have DF : Below w21.heap.size w21 WF := DE.trans (hwF.below (by omega) (by omega))
       refine wpAnyH_ready (rs := [12]) (by kernel_rfl) (by simp) ?_
       refine AllReadyH.cons rfl (fun K hK => ?_) AllReadyH.nil
       rw [if_pos (by rfl)]
       refine wp_store_mid 37 (.tmp 19) (.tmp 130) rfl x0abzc.heap.size 0 (PoolA.cells aw).toArray rfl rfl HTE.out (by rw [List.size_toArray]; exact pool_info _) (pool_one _) ?_
       have HW : Hid ((x0abzcy).setCells x0abzc.heap.size 0 (PoolA.cells aw).toArray.toList = WE) := hWE.out
       rw [HW.out]
       refine hK.out _ _ (HRG.out _ DE) (fun hHeld => ?_)
       clear hK K HW hWE HTE
       simp only [Act.put, zA, zB, zC]
       refine wpAnyH_ready (rs := [13]) (by kernel_rfl) (by simp) ?_
       refine AllReadyH.cons rfl (fun K hK => ?_) AllReadyH.nil
       rw [if_pos (by rfl)]
       refine wp_store_mid 45 (.tmp 20) (.tmp 131) rfl x0ab.heap.size 0 (SeatA.cells ag).toArray rfl rfl HTF.out (by rw [List.size_toArray]; exact seat_info _) (seat_one _) ?_
       have HW : Hid ((WE).setCells x0ab.heap.size 0 (SeatA.cells ag).toArray.toList = WF) := hWF.out
       rw [HW.out]
       refine hK.out _ _ (HRG.out _ DF) (fun hHeld => ?_)
       clear hK K HW hWF HTF
       simp only [Act.put, zA, zB, zC]
       refine tk 14 (v := .bool RK) rfl (Or.inl ⟨by rfl, fun w' _ => ?_⟩) hHeld ?_
       ·go_simp
       go_simp
       refine wpAnyH_done (by kernel_rfl) ?_ _
       clear hHeld
       go_wp2_with fail
       go_meet
       case rel => exact ⟨x0abzc.heap.size, x0ab.heap.size, aw, ag, rfl, rfl, rfl, hva, hvg, bE, bF, oF, gF, DF⟩
      focus
       go_simp
       obtain ⟨x0abzy, hWA, bA0, hby, zy⟩ := boxes1 x0abz [.slice none 0 0, .int .i64 0] 37
       replace zy : x0abz.heap.size < x0abzy.heap.size := by omega
       rw [hWA.out]
       have bA : Box x0abzy x0abz.heap.size [.slice none 0 0, .int .i64 0] 37 := bA0
       have D0abzy : Below w21.heap.size w21 x0abzy := D0abz.trans (hby.mono D0abz.size)
       replace bB := bB.below hby bB.lt
       replace hot := hot.below hby
       replace hou := hou.below hby
       refine hK.out _ _ (HRG.out _ D0abzy) (fun hHeld => ?_)
       clear hK K hWA bA0 hby
       refine wpAnyH_ready (rs := [5]) (by kernel_rfl) (by simp) ?_
       refine AllReadyH.cons rfl (fun K hK => ?_) AllReadyH.nil
       go_simp
       refine (HIM.out ts uu _ (hgB _ (BW.trans (D0abzy.mono BW.size))) hvt.out hvu.out hot (PoolA.short_of hvt.out hl) hou (pg_short_wide (pg_short_of hvu.out hlr))).mono ?_
       rintro e x0abzyc ⟨aw, ag, rfl, hva, hvg, hoa, hog, hbc⟩
       have D0abzyc : Below w21.heap.size w21 x0abzyc := D0abzy.trans (hbc.mono D0abzy.size)
       replace bA := bA.below hbc bA.lt
       replace bB := bB.below hbc bB.lt
       have zc := hbc.size
       refine hK.out _ _ (HRG.out _ D0abzyc) (fun hHeld => ?_)
       clear hK K hbc
       refine tk 6 (v := .tuple #[.agg (PoolA.cells aw).toArray, .agg (SeatA.cells ag).toArray, .bool RK]) rfl (Or.inl ⟨by rfl, fun w' _ => ?_⟩) hHeld ?_
       ·go_simp
       go_simp
       refine tk 7 (v := .agg (PoolA.cells aw).toArray) rfl (Or.inl ⟨by rfl, fun w' _ => ?_⟩) hHeld ?_
       ·go_simp
       go_simp
       refine tk 8 (v := .agg (SeatA.cells ag).toArray) rfl (Or.inl ⟨by rfl, fun w' _ => ?_⟩) hHeld ?_
       ·go_simp
       go_simp
       refine tk 9 (v := .bool RK) rfl (Or.inl ⟨by rfl, fun w' _ => ?_⟩) hHeld ?_
       ·go_simp
       go_simp
       obtain ⟨WE, hWE, hwE, hsE, HTE, _, bE⟩ := pool_out aw _ rfl bA
       replace bB := bB.within hwE (by omega)
       obtain ⟨WF, hWF, hwF, hsF, HTF, _, bF⟩ := seat_out ag _ rfl bB
       replace bE := bE.within hwF (by omega)
       have lA := bA.lt
       have lB := bB.lt
       have y1 := D0.size
       have y2 := D0a.size
       have y3 := D0ab.size
       have y4 := D0abz.size
       have y5 := D0abzy.size
       have y6 := D0abzyc.size
       have oF : PoolA.own WF w21.heap.size WF.heap.size aw := ((hoa.within hwE (by omega)).within hwF (by omega)).widen (by omega) (by omega) (Nat.le_refl _)
       have gF : SeatA.own WF w21.heap.size WF.heap.size ag := ((hog.within hwE (by omega)).within hwF (by omega)).widen (by omega) (by omega) (Nat.le_refl _)
       have DE : Below w21.heap.size w21 WE := D0abzyc.trans (hwE.below (by omega) (by omega))
       have DF : Below w21.heap.size w21 WF := DE.trans (hwF.below (by omega) (by omega))
       refine wpAnyH_ready (rs := [12]) (by kernel_rfl) (by simp) ?_
       refine AllReadyH.cons rfl (fun K hK => ?_) AllReadyH.nil
       rw [if_pos (by rfl)]
       refine wp_store_mid 37 (.tmp 19) (.tmp 130) rfl x0abz.heap.size 0 (PoolA.cells aw).toArray rfl rfl HTE.out (by rw [List.size_toArray]; exact pool_info _) (pool_one _) ?_
       have HW : Hid ((x0abzyc).setCells x0abz.heap.size 0 (PoolA.cells aw).toArray.toList = WE) := hWE.out
       rw [HW.out]
       refine hK.out _ _ (HRG.out _ DE) (fun hHeld => ?_)
       clear hK K HW hWE HTE
       simp only [Act.put, zA, zB, zC]
       refine wpAnyH_ready (rs := [13]) (by kernel_rfl) (by simp) ?_
       refine AllReadyH.cons rfl (fun K hK => ?_) AllReadyH.nil
       rw [if_pos (by rfl)]
       refine wp_store_mid 45 (.tmp 20) (.tmp 131) rfl x0ab.heap.size 0 (SeatA.cells ag).toArray rfl rfl HTF.out (by rw [List.size_toArray]; exact seat_info _) (seat_one _) ?_
       have HW : Hid ((WE).setCells x0ab.heap.size 0 (SeatA.cells ag).toArray.toList = WF) := hWF.out
       rw [HW.out]
       refine hK.out _ _ (HRG.out _ DF) (fun hHeld => ?_)
       clear hK K HW hWF HTF
       simp only [Act.put, zA, zB, zC]
       refine tk 14 (v := .bool RK) rfl (Or.inl ⟨by rfl, fun w' _ => ?_⟩) hHeld ?_
       ·go_simp
       go_simp
       refine wpAnyH_done (by kernel_rfl) ?_ _
       clear hHeld
       go_wp2_with fail
       go_meet
       case rel => exact ⟨x0abz.heap.size, x0ab.heap.size, aw, ag, rfl, rfl, rfl, hva, hvg, bE, bF, oF, gF, DF⟩
    focus
     go_simp
     obtain ⟨x0ay, hWA, bA0, hby, zy⟩ := boxes1 x0a [.slice none 0 0, .int .i64 0] 37
     replace zy : x0a.heap.size < x0ay.heap.size := by omega
     rw [hWA.out]
     have bA : Box x0ay x0a.heap.size [.slice none 0 0, .int .i64 0] 37 := bA0
     have D0ay : Below w21.heap.size w21 x0ay := D0a.trans (hby.mono D0a.size)
     replace hot := hot.below hby
     refine hK.out _ _ (HRG.out _ D0ay) (fun hHeld => ?_)
     clear hK K hWA bA0 hby
     refine wpAnyH_ready (rs := [4, 11]) (by kernel_rfl) (by simp) ?_
     refine AllReadyH.cons rfl (fun K hK => ?_) (AllReadyH.cons rfl (fun K hK => ?_) AllReadyH.nil)
     focus
      go_simp
      refine (toPg_law r _ (hRd _ (BW.trans (D0ay.mono BW.size))) hlr).mono ?_
      rintro e x0ayb ⟨uu, rfl, hvu, hou, hbb⟩
      have D0ayb : Below w21.heap.size w21 x0ayb := D0ay.trans (hbb.mono D0ay.size)
      replace hot := hot.below hbb
      replace bA := bA.below hbb bA.lt
      have zb := hbb.size
      refine hK.out _ _ (HRG.out _ D0ayb) (fun hHeld => ?_)
      clear hK K hbb
      refine wpAnyH_ready (rs := [5, 11]) (by kernel_rfl) (by simp) ?_
      refine AllReadyH.cons rfl (fun K hK => ?_) (AllReadyH.cons rfl (fun K hK => ?_) AllReadyH.nil)
      focus
       go_simp
       refine (HIM.out ts uu _ (hgB _ (BW.trans (D0ayb.mono BW.size))) hvt.out hvu.out hot (PoolA.short_of hvt.out hl) hou (pg_short_wide (pg_short_of hvu.out hlr))).mono ?_
       rintro e x0aybc ⟨aw, ag, rfl, hva, hvg, hoa, hog, hbc⟩
       have D0aybc : Below w21.heap.size w21 x0aybc := D0ayb.trans (hbc.mono D0ayb.size)
       replace bA := bA.below hbc bA.lt
       have zc := hbc.size
       refine hK.out _ _ (HRG.out _ D0aybc) (fun hHeld => ?_)
       clear hK K hbc
       refine tk 6 (v := .tuple #[.agg (PoolA.cells aw).toArray, .agg (SeatA.cells ag).toArray, .bool RK]) rfl (Or.inl ⟨by rfl, fun w' _ => ?_⟩) hHeld ?_
       ·go_simp
       go_simp
       refine tk 7 (v := .agg (PoolA.cells aw).toArray) rfl (Or.inl ⟨by rfl, fun w' _ => ?_⟩) hHeld ?_
       ·go_simp
       go_simp
       refine tk 8 (v := .agg (SeatA.cells ag).toArray) rfl (Or.inl ⟨by rfl, fun w' _ => ?_⟩) hHeld ?_
       ·go_simp
       go_simp
       refine tk 9 (v := .bool RK) rfl (Or.inl ⟨by rfl, fun w' _ => ?_⟩) hHeld ?_
       ·go_simp
       go_simp
       refine wpAnyH_ready (rs := [11]) (by kernel_rfl) (by simp) ?_
       refine AllReadyH.cons rfl (fun K hK => ?_) AllReadyH.nil
       go_simp
       obtain ⟨x0aybcz, hWA, bB0, hbz, zz⟩ := boxes1 x0aybc [.int .i64 0, .int .i64 0, .bool false, .int .i64 0, .slice none 0 0, .slice none 0 0, .bool false, .int .i64 0, .slice none 0 0, .slice none 0 0, .bool false, .int .i64 0, .slice none 0 0, .slice none 0 0, .bool false, .int .i64 0, .slice none 0 0, .slice none 0 0, .bool false, .bool false] 45
       replace zz : x0aybc.heap.size < x0aybcz.heap.size := by omega
       rw [hWA.out]
       have bB : Box x0aybcz x0aybc.heap.size [.int .i64 0, .int .i64 0, .bool false, .int .i64 0, .slice none 0 0, .slice none 0 0, .bool false, .int .i64 0, .slice none 0 0, .slice none 0 0, .bool false, .int .i64 0, .slice none 0 0, .slice none 0 0, .bool false, .int .i64 0, .slice none 0 0, .slice none 0 0, .bool false, .bool false] 45 := bB0
       have D0aybcz : Below w21.heap.size w21 x0aybcz := D0aybc.trans (hbz.mono D0aybc.size)
       replace bA := bA.below hbz bA.lt
       replace hoa := hoa.below hbz
       replace hog := hog.below hbz
       refine hK.out _ _ (HRG.out _ D0aybcz) (fun hHeld => ?_)
       clear hK K hWA bB0 hbz
       obtain ⟨WE, hWE, hwE, hsE, HTE, _, bE⟩ := pool_out aw _ rfl bA
       replace bB := bB.within hwE (by omega)
       obtain ⟨WF, hWF, hwF, hsF, HTF, _, bF⟩ := seat_out ag _ rfl bB
       replace bE := bE.within hwF (by omega)
       have lA := bA.lt
       have lB := bB.lt
       have y1 := D0.size
       have y2 := D0a.size
       have y3 := D0ay.size
       have y4 := D0ayb.size
       have y5 := D0aybc.size
       have y6 := D0aybcz.size
       have oF : PoolA.own WF w21.heap.size WF.heap.size aw := ((hoa.within hwE (by omega)).within hwF (by omega)).widen (by omega) (by omega) (Nat.le_refl _)
       have gF : SeatA.own WF w21.heap.size WF.heap.size ag := ((hog.within hwE (by omega)).within hwF (by omega)).widen (by omega) (by omega) (Nat.le_refl _)
       have DE : Below w21.heap.size w21 WE := D0aybcz.trans (hwE.below (by omega) (by omega))
       have DF : Below w21.heap.size w21 WF := DE.trans (hwF.below (by omega) (by omega))
       refine wpAnyH_ready (rs := [12]) (by kernel_rfl) (by simp) ?_
       refine AllReadyH.cons rfl (fun K hK => ?_) AllReadyH.nil
       rw [if_pos (by rfl)]
       refine wp_store_mid 37 (.tmp 19) (.tmp 130) rfl x0a.heap.size 0 (PoolA.cells aw).toArray rfl rfl HTE.out (by rw [List.size_toArray]; exact pool_info _) (pool_one _) ?_
       have HW : Hid ((x0aybcz).setCells x0a.heap.size 0 (PoolA.cells aw).toArray.toList = WE) := hWE.out
       rw [HW.out]
       refine hK.out _ _ (HRG.out _ DE) (fun hHeld => ?_)
       clear hK K HW hWE HTE
       simp only [Act.put, zA, zB, zC]
       refine wpAnyH_ready (rs := [13]) (by kernel_rfl) (by simp) ?_
       refine AllReadyH.cons rfl (fun K hK => ?_) AllReadyH.nil
       rw [if_pos (by rfl)]
       refine wp_store_mid 45 (.tmp 20) (.tmp 131) rfl x0aybc.heap.size 0 (SeatA.cells ag).toArray rfl rfl HTF.out (by rw [List.size_toArray]; exact seat_info _) (seat_one _) ?_
       have HW : Hid ((WE).setCells x0aybc.heap.size 0 (SeatA.cells ag).toArray.toList = WF) := hWF.out
       rw [HW.out]
       refine hK.out _ _ (HRG.out _ DF) (fun hHeld => ?_)
       clear hK K HW hWF HTF
       simp only [Act.put, zA, zB, zC]
       refine tk 14 (v := .bool RK) rfl (Or.inl ⟨by rfl, fun w' _ => ?_⟩) hHeld ?_
       ·go_simp
       go_simp
       refine wpAnyH_done (by kernel_rfl) ?_ _
       clear hHeld
       go_wp2_with fail
       go_meet
       case rel => exact ⟨x0a.heap.size, x0aybc.heap.size, aw, ag, rfl, rfl, rfl, hva, hvg, bE, bF, oF, gF, DF⟩
      focus
       go_simp
       obtain ⟨x0aybz, hWA, bB0, hbz, zz⟩ := boxes1 x0ayb [.int .i64 0, .int .i64 0, .bool false, .int .i64 0, .slice none 0 0, .slice none 0 0, .bool false, .int .i64 0, .slice none 0 0, .slice none 0 0, .bool false, .int .i64 0, .slice none 0 0, .slice none 0 0, .bool false, .int .i64 0, .slice none 0 0, .slice none 0 0, .bool false, .bool false] 45
       replace zz : x0ayb.heap.size < x0aybz.heap.size := by omega
       rw [hWA.out]
       have bB : Box x0aybz x0ayb.heap.size [.int .i64 0, .int .i64 0, .bool false, .int .i64 0, .slice none 0 0, .slice none 0 0, .bool false, .int .i64 0, .slice none 0 0, .slice none 0 0, .bool false, .int .i64 0, .slice none 0 0, .slice none 0 0, .bool false, .int .i64 0, .slice none 0 0, .slice none 0 0, .bool false, .bool false] 45 := bB0
       have D0aybz : Below w21.heap.size w21 x0aybz := D0ayb.trans (hbz.mono D0ayb.size)
       replace bA := bA.below hbz bA.lt
       replace hot := hot.below hbz
       replace hou := hou.below hbz
       refine hK.out _ _ (HRG.out _ D0aybz) (fun hHeld => ?_)
       clear hK K hWA bB0 hbz
       refine wpAnyH_ready (rs := [5]) (by kernel_rfl) (by simp) ?_
       refine AllReadyH.cons rfl (fun K hK => ?_) AllReadyH.nil
       go_simp
       refine (HIM.out ts uu _ (hgB _ (BW.trans (D0aybz.mono BW.size))) hvt.out hvu.out hot (PoolA.short_of hvt.out hl) hou (pg_short_wide (pg_short_of hvu.out hlr))).mono ?_
       rintro e x0aybzc ⟨aw, ag, rfl, hva, hvg, hoa, hog, hbc⟩
       have D0aybzc : Below w21.heap.size w21 x0aybzc := D0aybz.trans (hbc.mono D0aybz.size)
       replace bA := bA.below hbc bA.lt
       replace bB := bB.below hbc bB.lt
       have zc := hbc.size
       refine hK.out _ _ (HRG.out _ D0aybzc) (fun hHeld => ?_)
       clear hK K hbc
       refine tk 6 (v := .tuple #[.agg (PoolA.cells aw).toArray, .agg (SeatA.cells ag).toArray, .bool RK]) rfl (Or.inl ⟨by rfl, fun w' _ => ?_⟩) hHeld ?_
       ·go_simp
       go_simp
       refine tk 7 (v := .agg (PoolA.cells aw).toArray) rfl (Or.inl ⟨by rfl, fun w' _ => ?_⟩) hHeld ?_
       ·go_simp
       go_simp
       refine tk 8 (v := .agg (SeatA.cells ag).toArray) rfl (Or.inl ⟨by rfl, fun w' _ => ?_⟩) hHeld ?_
       ·go_simp
       go_simp
       refine tk 9 (v := .bool RK) rfl (Or.inl ⟨by rfl, fun w' _ => ?_⟩) hHeld ?_
       ·go_simp
       go_simp
       obtain ⟨WE, hWE, hwE, hsE, HTE, _, bE⟩ := pool_out aw _ rfl bA
       replace bB := bB.within hwE (by omega)
       obtain ⟨WF, hWF, hwF, hsF, HTF, _, bF⟩ := seat_out ag _ rfl bB
       replace bE := bE.within hwF (by omega)
       have lA := bA.lt
       have lB := bB.lt
       have y1 := D0.size
       have y2 := D0a.size
       have y3 := D0ay.size
       have y4 := D0ayb.size
       have y5 := D0aybz.size
       have y6 := D0aybzc.size
       have oF : PoolA.own WF w21.heap.size WF.heap.size aw := ((hoa.within hwE (by omega)).within hwF (by omega)).widen (by omega) (by omega) (Nat.le_refl _)
       have gF : SeatA.own WF w21.heap.size WF.heap.size ag := ((hog.within hwE (by omega)).within hwF (by omega)).widen (by omega) (by omega) (Nat.le_refl _)
       have DE : Below w21.heap.size w21 WE := D0aybzc.trans (hwE.below (by omega) (by omega))
       have DF : Below w21.heap.size w21 WF := DE.trans (hwF.below (by omega) (by omega))
       refine wpAnyH_ready (rs := [12]) (by kernel_rfl) (by simp) ?_
       refine AllReadyH.cons rfl (fun K hK => ?_) AllReadyH.nil
       rw [if_pos (by rfl)]
       refine wp_store_mid 37 (.tmp 19) (.tmp 130) rfl x0a.heap.size 0 (PoolA.cells aw).toArray rfl rfl HTE.out (by rw [List.size_toArray]; exact pool_info _) (pool_one _) ?_
       have HW : Hid ((x0aybzc).setCells x0a.heap.size 0 (PoolA.cells aw).toArray.toList = WE) := hWE.out
       rw [HW.out]
       refine hK.out _ _ (HRG.out _ DE) (fun hHeld => ?_)
       clear hK K HW hWE HTE
       simp only [Act.put, zA, zB, zC]
       refine wpAnyH_ready (rs := [13]) (by kernel_rfl) (by simp) ?_
       refine AllReadyH.cons rfl (fun K hK => ?_) AllReadyH.nil
       rw [if_pos (by rfl)]
       refine wp_store_mid 45 (.tmp 20) (.tmp 131) rfl x0ayb.heap.size 0 (SeatA.cells ag).toArray rfl rfl HTF.out (by rw [List.size_toArray]; exact seat_info _) (seat_one _) ?_
       have HW : Hid ((WE).setCells x0ayb.heap.size 0 (SeatA.cells ag).toArray.toList = WF) := hWF.out
       rw [HW.out]
       refine hK.out _ _ (HRG.out _ DF) (fun hHeld => ?_)
       clear hK K HW hWF HTF
       simp only [Act.put, zA, zB, zC]
       refine tk 14 (v := .bool RK) rfl (Or.inl ⟨by rfl, fun w' _ => ?_⟩) hHeld ?_
       ·go_simp
       go_simp
       refine wpAnyH_done (by kernel_rfl) ?_ _
       clear hHeld
       go_wp2_with fail
       go_meet
       case rel => exact ⟨x0a.heap.size, x0ayb.heap.size, aw, ag, rfl, rfl, rfl, hva, hvg, bE, bF, oF, gF, DF⟩
     focus
      go_simp
      obtain ⟨x0ayz, hWA, bB0, hbz, zz⟩ := boxes1 x0ay [.int .i64 0, .int .i64 0, .bool false, .int .i64 0, .slice none 0 0, .slice none 0 0, .bool false, .int .i64 0, .slice none 0 0, .slice none 0 0, .bool false, .int .i64 0, .slice none 0 0, .slice none 0 0, .bool false, .int .i64 0, .slice none 0 0, .slice none 0 0, .bool false, .bool false] 45
      replace zz : x0ay.heap.size < x0ayz.heap.size := by omega
      rw [hWA.out]
      have bB : Box x0ayz x0ay.heap.size [.int .i64 0, .int .i64 0, .bool false, .int .i64 0, .slice none 0 0, .slice none 0 0, .bool false, .int .i64 0, .slice none 0 0, .slice none 0 0, .bool false, .int .i64 0, .slice none 0 0, .slice none 0 0, .bool false, .int .i64 0, .slice none 0 0, .slice none 0 0, .bool false, .bool false] 45 := bB0
      have D0ayz : Below w21.heap.size w21 x0ayz := D0ay.trans (hbz.mono D0ay.size)
      replace bA := bA.below hbz bA.lt
      replace hot := hot.below hbz
      refine hK.out _ _ (HRG.out _ D0ayz) (fun hHeld => ?_)
      clear hK K hWA bB0 hbz
      refine wpAnyH_ready (rs := [4]) (by kernel_rfl) (by simp) ?_
      refine AllReadyH.cons rfl (fun K hK => ?_) AllReadyH.nil
      go_simp
      refine (toPg_law r _ (hRd _ (BW.trans (D0ayz.mono BW.size))) hlr).mono ?_
      rintro e x0ayzb ⟨uu, rfl, hvu, hou, hbb⟩
      have D0ayzb : Below w21.heap.size w21 x0ayzb := D0ayz.trans (hbb.mono D0ayz.size)
      replace hot := hot.below hbb
      replace bA := bA.below hbb bA.lt
      replace bB := bB.below hbb bB.lt
      have zb := hbb.size
      refine hK.out _ _ (HRG.out _ D0ayzb) (fun hHeld => ?_)
      clear hK K hbb
      refine wpAnyH_ready (rs := [5]) (by kernel_rfl) (by simp) ?_
      refine AllReadyH.cons rfl (fun K hK => ?_) AllReadyH.nil
      go_simp
      refine (HIM.out ts uu _ (hgB _ (BW.trans (D0ayzb.mono BW.size))) hvt.out hvu.out hot (PoolA.short_of hvt.out hl) hou (pg_short_wide (pg_short_of hvu.out hlr))).mono ?_
      rintro e x0ayzbc ⟨aw, ag, rfl, hva, hvg, hoa, hog, hbc⟩
      have D0ayzbc : Below w21.heap.size w21 x0ayzbc := D0ayzb.trans (hbc.mono D0ayzb.size)
      replace bA := bA.below hbc bA.lt
      replace bB := bB.below hbc bB.lt
      have zc := hbc.size
      refine hK.out _ _ (HRG.out _ D0ayzbc) (fun hHeld => ?_)
      clear hK K hbc
      refine tk 6 (v := .tuple #[.agg (PoolA.cells aw).toArray, .agg (SeatA.cells ag).toArray, .bool RK]) rfl (Or.inl ⟨by rfl, fun w' _ => ?_⟩) hHeld ?_
      ·go_simp
      go_simp
      refine tk 7 (v := .agg (PoolA.cells aw).toArray) rfl (Or.inl ⟨by rfl, fun w' _ => ?_⟩) hHeld ?_
      ·go_simp
      go_simp
      refine tk 8 (v := .agg (SeatA.cells ag).toArray) rfl (Or.inl ⟨by rfl, fun w' _ => ?_⟩) hHeld ?_
      ·go_simp
      go_simp
      refine tk 9 (v := .bool RK) rfl (Or.inl ⟨by rfl, fun w' _ => ?_⟩) hHeld ?_
      ·go_simp
      go_simp
      obtain ⟨WE, hWE, hwE, hsE, HTE, _, bE⟩ := pool_out aw _ rfl bA
      replace bB := bB.within hwE (by omega)
      obtain ⟨WF, hWF, hwF, hsF, HTF, _, bF⟩ := seat_out ag _ rfl bB
      replace bE := bE.within hwF (by omega)
      have lA := bA.lt
      have lB := bB.lt
      have y1 := D0.size
      have y2 := D0a.size
      have y3 := D0ay.size
      have y4 := D0ayz.size
      have y5 := D0ayzb.size
      have y6 := D0ayzbc.size
      have oF : PoolA.own WF w21.heap.size WF.heap.size aw := ((hoa.within hwE (by omega)).within hwF (by omega)).widen (by omega) (by omega) (Nat.le_refl _)
      have gF : SeatA.own WF w21.heap.size WF.heap.size ag := ((hog.within hwE (by omega)).within hwF (by omega)).widen (by omega) (by omega) (Nat.le_refl _)
      have DE : Below w21.heap.size w21 WE := D0ayzbc.trans (hwE.below (by omega) (by omega))
      have DF : Below w21.heap.size w21 WF := DE.trans (hwF.below (by omega) (by omega))
      refine wpAnyH_ready (rs := [12]) (by kernel_rfl) (by simp) ?_
      refine AllReadyH.cons rfl (fun K hK => ?_) AllReadyH.nil
      rw [if_pos (by rfl)]
      refine wp_store_mid 37 (.tmp 19) (.tmp 130) rfl x0a.heap.size 0 (PoolA.cells aw).toArray rfl rfl HTE.out (by rw [List.size_toArray]; exact pool_info _) (pool_one _) ?_
      have HW : Hid ((x0ayzbc).setCells x0a.heap.size 0 (PoolA.cells aw).toArray.toList = WE) := hWE.out
      rw [HW.out]
      refine hK.out _ _ (HRG.out _ DE) (fun hHeld => ?_)
      clear hK K HW hWE HTE
      simp only [Act.put, zA, zB, zC]
      refine wpAnyH_ready (rs := [13]) (by kernel_rfl) (by simp) ?_
      refine AllReadyH.cons rfl (fun K hK => ?_) AllReadyH.nil
      rw [if_pos (by rfl)]
      refine wp_store_mid 45 (.tmp 20) (.tmp 131) rfl x0ay.heap.size 0 (SeatA.cells ag).toArray rfl rfl HTF.out (by rw [List.size_toArray]; exact seat_info _) (seat_one _) ?_
      have HW : Hid ((WE).setCells x0ay.heap.size 0 (SeatA.cells ag).toArray.toList = WF) := hWF.out
      rw [HW.out]
      refine hK.out _ _ (HRG.out _ DF) (fun hHeld => ?_)
      clear hK K HW hWF HTF
      simp only [Act.put, zA, zB, zC]
      refine tk 14 (v := .bool RK) rfl (Or.inl ⟨by rfl, fun w' _ => ?_⟩) hHeld ?_
      ·go_simp
      go_simp
      refine wpAnyH_done (by kernel_rfl) ?_ _
      clear hHeld
      go_wp2_with fail
      go_meet
      case rel => exact ⟨x0a.heap.size, x0ay.heap.size, aw, ag, rfl, rfl, rfl, hva, hvg, bE, bF, oF, gF, DF⟩
    focus
     go_simp
     obtain ⟨x0az, hWA, bB0, hbz, zz⟩ := boxes1 x0a [.int .i64 0, .int .i64 0, .bool false, .int .i64 0, .slice none 0 0, .slice none 0 0, .bool false, .int .i64 0, .slice none 0 0, .slice none 0 0, .bool false, .int .i64 0, .slice none 0 0, .slice none 0 0, .bool false, .int .i64 0, .slice none 0 0, .slice none 0 0, .bool false, .bool false] 45
     replace zz : x0a.heap.size < x0az.heap.size := by omega
     rw [hWA.out]
     have bB : Box x0az x0a.heap.size [.int .i64 0, .int .i64 0, .bool false, .int .i64 0, .slice none 0 0, .slice none 0 0, .bool false, .int .i64 0, .slice none 0 0, .slice none 0 0, .bool false, .int .i64 0, .slice none 0 0, .slice none 0 0, .bool false, .int .i64 0, .slice none 0 0, .slice none 0 0, .bool false, .bool false] 45 := bB0
     have D0az : Below w21.heap.size w21 x0az := D0a.trans (hbz.mono D0a.size)
     replace hot := hot.below hbz
     refine hK.out _ _ (HRG.out _ D0az) (fun hHeld => ?_)
     clear hK K hWA bB0 hbz
     refine wpAnyH_ready (rs := [4, 10]) (by kernel_rfl) (by simp) ?_
     refine AllReadyH.cons rfl (fun K hK => ?_) (AllReadyH.cons rfl (fun K hK => ?_) AllReadyH.nil)
     focus
      go_simp
      refine (toPg_law r _ (hRd _ (BW.trans (D0az.mono BW.size))) hlr).mono ?_
      rintro e x0azb ⟨uu, rfl, hvu, hou, hbb⟩
      have D0azb : Below w21.heap.size w21 x0azb := D0az.trans (hbb.mono D0az.size)
      replace hot := hot.below hbb
      replace bB := bB.below hbb bB.lt
      have zb := hbb.size
      refine hK.out _ _ (HRG.out _ D0azb) (fun hHeld => ?_)
      clear hK K hbb
      refine wpAnyH_ready (rs := [5, 10]) (by kernel_rfl) (by simp) ?_
      refine AllReadyH.cons rfl (fun K hK => ?_) (AllReadyH.cons rfl (fun K hK => ?_) AllReadyH.nil)
      focus
       go_simp
       refine (HIM.out ts uu _ (hgB _ (BW.trans (D0azb.mono BW.size))) hvt.out hvu.out hot (PoolA.short_of hvt.out hl) hou (pg_short_wide (pg_short_of hvu.out hlr))).mono ?_
       rintro e x0azbc ⟨aw, ag, rfl, hva, hvg, hoa, hog, hbc⟩
       have D0azbc : Below w21.heap.size w21 x0azbc := D0azb.trans (hbc.mono D0azb.size)
       replace bB := bB.below hbc bB.lt
       have zc := hbc.size
       refine hK.out _ _ (HRG.out _ D0azbc) (fun hHeld => ?_)
       clear hK K hbc
       refine tk 6 (v := .tuple #[.agg (PoolA.cells aw).toArray, .agg (SeatA.cells ag).toArray, .bool RK]) rfl (Or.inl ⟨by rfl, fun w' _ => ?_⟩) hHeld ?_
       ·go_simp
       go_simp
       refine tk 7 (v := .agg (PoolA.cells aw).toArray) rfl (Or.inl ⟨by rfl, fun w' _ => ?_⟩) hHeld ?_
       ·go_simp
       go_simp
       refine tk 8 (v := .agg (SeatA.cells ag).toArray) rfl (Or.inl ⟨by rfl, fun w' _ => ?_⟩) hHeld ?_
       ·go_simp
       go_simp
       refine tk 9 (v := .bool RK) rfl (Or.inl ⟨by rfl, fun w' _ => ?_⟩) hHeld ?_
       ·go_simp
       go_simp
       refine wpAnyH_ready (rs := [10]) (by kernel_rfl) (by simp) ?_
       refine AllReadyH.cons rfl (fun K hK => ?_) AllReadyH.nil
       go_simp
       obtain ⟨x0azbcy, hWA, bA0, hby, zy⟩ := boxes1 x0azbc [.slice none 0 0, .int .i64 0] 37
       replace zy : x0azbc.heap.size < x0azbcy.heap.size := by omega
       rw [hWA.out]
       have bA : Box x0azbcy x0azbc.heap.size [.slice none 0 0, .int .i64 0] 37 := bA0
       have D0azbcy : Below w21.heap.size w21 x0azbcy := D0azbc.trans (hby.mono D0azbc.size)
       replace bB := bB.below hby bB.lt
       replace hoa := hoa.below hby
       replace hog := hog.below hby
       refine hK.out _ _ (HRG.out _ D0azbcy) (fun hHeld => ?_)
       clear hK K hWA bA0 hby
       obtain ⟨WE, hWE, hwE, hsE, HTE, _, bE⟩ := pool_out aw _ rfl bA
       replace bB := bB.within hwE (by omega)
       obtain ⟨WF, hWF, hwF, hsF, HTF, _, bF⟩ := seat_out ag _ rfl bB
       replace bE := bE.within hwF (by omega)
       have lA := bA.lt
       have lB := bB.lt
       have y1 := D0.size
       have y2 := D0a.size
       have y3 := D0az.size
       have y4 := D0azb.size
       have y5 := D0azbc.size
       have y6 := D0azbcy.size
       have oF : PoolA.own WF w21.heap.size WF.heap.size aw := ((hoa.within hwE (by omega)).within hwF (by omega)).widen (by omega) (by omega) (Nat.le_refl _)
       have gF : SeatA.own WF w21.heap.size WF.heap.size ag := ((hog.within hwE (by omega)).within hwF (by omega)).widen (by omega) (by omega) (Nat.le_refl _)
       have DE : Below w21.heap.size w21 WE := D0azbcy.trans (hwE.below (by omega) (by omega))
       have DF : Below w21.heap.size w21 WF := DE.trans (hwF.below (by omega) (by omega))
       refine wpAnyH_ready (rs := [12]) (by kernel_rfl) (by simp) ?_
       refine AllReadyH.cons rfl (fun K hK => ?_) AllReadyH.nil
       rw [if_pos (by rfl)]
       refine wp_store_mid 37 (.tmp 19) (.tmp 130) rfl x0azbc.heap.size 0 (PoolA.cells aw).toArray rfl rfl HTE.out (by rw [List.size_toArray]; exact pool_info _) (pool_one _) ?_
       have HW : Hid ((x0azbcy).setCells x0azbc.heap.size 0 (PoolA.cells aw).toArray.toList = WE) := hWE.out
       rw [HW.out]
       refine hK.out _ _ (HRG.out _ DE) (fun hHeld => ?_)
       clear hK K HW hWE HTE
       simp only [Act.put, zA, zB, zC]
       refine wpAnyH_ready (rs := [13]) (by kernel_rfl) (by simp) ?_
       refine AllReadyH.cons rfl (fun K hK => ?_) AllReadyH.nil
       rw [if_pos (by rfl)]
       refine wp_store_mid 45 (.tmp 20) (.tmp 131) rfl x0a.heap.size 0 (SeatA.cells ag).toArray rfl rfl HTF.out (by rw [List.size_toArray]; exact seat_info _) (seat_one _) ?_
       have HW : Hid ((WE).setCells x0a.heap.size 0 (SeatA.cells ag).toArray.toList = WF) := hWF.out
       rw [HW.out]
       refine hK.out _ _ (HRG.out _ DF) (fun hHeld => ?_)
       clear hK K HW hWF HTF
       simp only [Act.put, zA, zB, zC]
       refine tk 14 (v := .bool RK) rfl (Or.inl ⟨by rfl, fun w' _ => ?_⟩) hHeld ?_
       ·go_simp
       go_simp
       refine wpAnyH_done (by kernel_rfl) ?_ _
       clear hHeld
       go_wp2_with fail
       go_meet
       case rel => exact ⟨x0azbc.heap.size, x0a.heap.size, aw, ag, rfl, rfl, rfl, hva, hvg, bE, bF, oF, gF, DF⟩
      focus
       go_simp
       obtain ⟨x0azby, hWA, bA0, hby, zy⟩ := boxes1 x0azb [.slice none 0 0, .int .i64 0] 37
       replace zy : x0azb.heap.size < x0azby.heap.size := by omega
       rw [hWA.out]
       have bA : Box x0azby x0azb.heap.size [.slice none 0 0, .int .i64 0] 37 := bA0
       have D0azby : Below w21.heap.size w21 x0azby := D0azb.trans (hby.mono D0azb.size)
       replace bB := bB.below hby bB.lt
       replace hot := hot.below hby
       replace hou := hou.below hby
       refine hK.out _ _ (HRG.out _ D0azby) (fun hHeld => ?_)
       clear hK K hWA bA0 hby
       refine wpAnyH_ready (rs := [5]) (by kernel_rfl) (by simp) ?_
       refine AllReadyH.cons rfl (fun K hK => ?_) AllReadyH.nil
       go_simp
       refine (HIM.out ts uu _ (hgB _ (BW.trans (D0azby.mono BW.size))) hvt.out hvu.out hot (PoolA.short_of hvt.out hl) hou (pg_short_wide (pg_short_of hvu.out hlr))).mono ?_
       rintro e x0azbyc ⟨aw, ag, rfl, hva, hvg, hoa, hog, hbc⟩
       have D0azbyc : Below w21.heap.size w21 x0azbyc := D0azby.trans (hbc.mono D0azby.size)
       replace bA := bA.below hbc bA.lt
       replace bB := bB.below hbc bB.lt
       have zc := hbc.size
       refine hK.out _ _ (HRG.out _ D0azbyc) (fun hHeld => ?_)
       clear hK K hbc
       refine tk 6 (v := .tuple #[.agg (PoolA.cells aw).toArray, .agg (SeatA.cells ag).toArray, .bool RK]) rfl (Or.inl ⟨by rfl, fun w' _ => ?_⟩) hHeld ?_
       ·go_simp
       go_simp
       refine tk 7 (v := .agg (PoolA.cells aw).toArray) rfl (Or.inl ⟨by rfl, fun w' _ => ?_⟩) hHeld ?_
       ·go_simp
       go_simp
       refine tk 8 (v := .agg (SeatA.cells ag).toArray) rfl (Or.inl ⟨by rfl, fun w' _ => ?_⟩) hHeld ?_
       ·go_simp
       go_simp
       refine tk 9 (v := .bool RK) rfl (Or.inl ⟨by rfl, fun w' _ => ?_⟩) hHeld ?_
       ·go_simp
       go_simp
       obtain ⟨WE, hWE, hwE, hsE, HTE, _, bE⟩ := pool_out aw _ rfl bA
       replace bB := bB.within hwE (by omega)
       obtain ⟨WF, hWF, hwF, hsF, HTF, _, bF⟩ := seat_out ag _ rfl bB
       replace bE := bE.within hwF (by omega)
       have lA := bA.lt
       have lB := bB.lt
       have y1 := D0.size
       have y2 := D0a.size
       have y3 := D0az.size
       have y4 := D0azb.size
       have y5 := D0azby.size
       have y6 := D0azbyc.size
       have oF : PoolA.own WF w21.heap.size WF.heap.size aw := ((hoa.within hwE (by omega)).within hwF (by omega)).widen (by omega) (by omega) (Nat.le_refl _)
       have gF : SeatA.own WF w21.heap.size WF.heap.size ag := ((hog.within hwE (by omega)).within hwF (by omega)).widen (by omega) (by omega) (Nat.le_refl _)
       have DE : Below w21.heap.size w21 WE := D0azbyc.trans (hwE.below (by omega) (by omega))
       have DF : Below w21.heap.size w21 WF := DE.trans (hwF.below (by omega) (by omega))
       refine wpAnyH_ready (rs := [12]) (by kernel_rfl) (by simp) ?_
       refine AllReadyH.cons rfl (fun K hK => ?_) AllReadyH.nil
       rw [if_pos (by rfl)]
       refine wp_store_mid 37 (.tmp 19) (.tmp 130) rfl x0azb.heap.size 0 (PoolA.cells aw).toArray rfl rfl HTE.out (by rw [List.size_toArray]; exact pool_info _) (pool_one _) ?_
       have HW : Hid ((x0azbyc).setCells x0azb.heap.size 0 (PoolA.cells aw).toArray.toList = WE) := hWE.out
       rw [HW.out]
       refine hK.out _ _ (HRG.out _ DE) (fun hHeld => ?_)
       clear hK K HW hWE HTE
       simp only [Act.put, zA, zB, zC]
       refine wpAnyH_ready (rs := [13]) (by kernel_rfl) (by simp) ?_
       refine AllReadyH.cons rfl (fun K hK => ?_) AllReadyH.nil
       rw [if_pos (by rfl)]
       refine wp_store_mid 45 (.tmp 20) (.tmp 131) rfl x0a.heap.size 0 (SeatA.cells ag).toArray rfl rfl HTF.out (by rw [List.size_toArray]; exact seat_info _) (seat_one _) ?_
       have HW : Hid ((WE).setCells x0a.heap.size 0 (SeatA.cells ag).toArray.toList = WF) := hWF.out
       rw [HW.out]
       refine hK.out _ _ (HRG.out _ DF) (fun hHeld => ?_)
       clear hK K HW hWF HTF
       simp only [Act.put, zA, zB, zC]
       refine tk 14 (v := .bool RK) rfl (Or.inl ⟨by rfl, fun w' _ => ?_⟩) hHeld ?_
       ·go_simp
       go_simp
       refine wpAnyH_done (by kernel_rfl) ?_ _
       clear hHeld
       go_wp2_with fail
       go_meet
       case rel => exact ⟨x0azb.heap.size, x0a.heap.size, aw, ag, rfl, rfl, rfl, hva, hvg, bE, bF, oF, gF, DF⟩
     focus
      go_simp
      obtain ⟨x0azy, hWA, bA0, hby, zy⟩ := boxes1 x0az [.slice none 0 0, .int .i64 0] 37
      replace zy : x0az.heap.size < x0azy.heap.size := by omega
      rw [hWA.out]
      have bA : Box x0azy x0az.heap.size [.slice none 0 0, .int .i64 0] 37 := bA0
      have D0azy : Below w21.heap.size w21 x0azy := D0az.trans (hby.mono D0az.size)
      replace bB := bB.below hby bB.lt
      replace hot := hot.below hby
      refine hK.out _ _ (HRG.out _ D0azy) (fun hHeld => ?_)
      clear hK K hWA bA0 hby
      refine wpAnyH_ready (rs := [4]) (by kernel_rfl) (by simp) ?_
      refine AllReadyH.cons rfl (fun K hK => ?_) AllReadyH.nil
      go_simp
      refine (toPg_law r _ (hRd _ (BW.trans (D0azy.mono BW.size))) hlr).mono ?_
      rintro e x0azyb ⟨uu, rfl, hvu, hou, hbb⟩
      have D0azyb : Below w21.heap.size w21 x0azyb := D0azy.trans (hbb.mono D0azy.size)
      replace hot := hot.below hbb
      replace bA := bA.below hbb bA.lt
      replace bB := bB.below hbb bB.lt
      have zb := hbb.size
      refine hK.out _ _ (HRG.out _ D0azyb) (fun hHeld => ?_)
      clear hK K hbb
      refine wpAnyH_ready (rs := [5]) (by kernel_rfl) (by simp) ?_
      refine AllReadyH.cons rfl (fun K hK => ?_) AllReadyH.nil
      go_simp
      refine (HIM.out ts uu _ (hgB _ (BW.trans (D0azyb.mono BW.size))) hvt.out hvu.out hot (PoolA.short_of hvt.out hl) hou (pg_short_wide (pg_short_of hvu.out hlr))).mono ?_
      rintro e x0azybc ⟨aw, ag, rfl, hva, hvg, hoa, hog, hbc⟩
      have D0azybc : Below w21.heap.size w21 x0azybc := D0azyb.trans (hbc.mono D0azyb.size)
      replace bA := bA.below hbc bA.lt
      replace bB := bB.below hbc bB.lt
      have zc := hbc.size
      refine hK.out _ _ (HRG.out _ D0azybc) (fun hHeld => ?_)
      clear hK K hbc
      refine tk 6 (v := .tuple #[.agg (PoolA.cells aw).toArray, .agg (SeatA.cells ag).toArray, .bool RK]) rfl (Or.inl ⟨by rfl, fun w' _ => ?_⟩) hHeld ?_
      ·go_simp
      go_simp
      refine tk 7 (v := .agg (PoolA.cells aw).toArray) rfl (Or.inl ⟨by rfl, fun w' _ => ?_⟩) hHeld ?_
      ·go_simp
      go_simp
      refine tk 8 (v := .agg (SeatA.cells ag).toArray) rfl (Or.inl ⟨by rfl, fun w' _ => ?_⟩) hHeld ?_
      ·go_simp
      go_simp
      refine tk 9 (v := .bool RK) rfl (Or.inl ⟨by rfl, fun w' _ => ?_⟩) hHeld ?_
      ·go_simp
      go_simp
      obtain ⟨WE, hWE, hwE, hsE, HTE, _, bE⟩ := pool_out aw _ rfl bA
      replace bB := bB.within hwE (by omega)
      obtain ⟨WF, hWF, hwF, hsF, HTF, _, bF⟩ := seat_out ag _ rfl bB
      replace bE := bE.within hwF (by omega)
      have lA := bA.lt
      have lB := bB.lt
      have y1 := D0.size
      have y2 := D0a.size
      have y3 := D0az.size
      have y4 := D0azy.size
      have y5 := D0azyb.size
      have y6 := D0azybc.size
      have oF : PoolA.own WF w21.heap.size WF.heap.size aw := ((hoa.within hwE (by omega)).within hwF (by omega)).widen (by omega) (by omega) (Nat.le_refl _)
      have gF : SeatA.own WF w21.heap.size WF.heap.size ag := ((hog.within hwE (by omega)).within hwF (by omega)).widen (by omega) (by omega) (Nat.le_refl _)
      have DE : Below w21.heap.size w21 WE := D0azybc.trans (hwE.below (by omega) (by omega))
      have DF : Below w21.heap.size w21 WF := DE.trans (hwF.below (by omega) (by omega))
      refine wpAnyH_ready (rs := [12]) (by kernel_rfl) (by simp) ?_
      refine AllReadyH.cons rfl (fun K hK => ?_) AllReadyH.nil
      rw [if_pos (by rfl)]
      refine wp_store_mid 37 (.tmp 19) (.tmp 130) rfl x0az.heap.size 0 (PoolA.cells aw).toArray rfl rfl HTE.out (by rw [List.size_toArray]; exact pool_info _) (pool_one _) ?_
      have HW : Hid ((x0azybc).setCells x0az.heap.size 0 (PoolA.cells aw).toArray.toList = WE) := hWE.out
      rw [HW.out]
      refine hK.out _ _ (HRG.out _ DE) (fun hHeld => ?_)
      clear hK K HW hWE HTE
      simp only [Act.put, zA, zB, zC]
      refine wpAnyH_ready (rs := [13]) (by kernel_rfl) (by simp) ?_
      refine AllReadyH.cons rfl (fun K hK => ?_) AllReadyH.nil
      rw [if_pos (by rfl)]
      refine wp_store_mid 45 (.tmp 20) (.tmp 131) rfl x0a.heap.size 0 (SeatA.cells ag).toArray rfl rfl HTF.out (by rw [List.size_toArray]; exact seat_info _) (seat_one _) ?_
      have HW : Hid ((WE).setCells x0a.heap.size 0 (SeatA.cells ag).toArray.toList = WF) := hWF.out
      rw [HW.out]
      refine hK.out _ _ (HRG.out _ DF) (fun hHeld => ?_)
      clear hK K HW hWF HTF
      simp only [Act.put, zA, zB, zC]
      refine tk 14 (v := .bool RK) rfl (Or.inl ⟨by rfl, fun w' _ => ?_⟩) hHeld ?_
      ·go_simp
      go_simp
      refine wpAnyH_done (by kernel_rfl) ?_ _
      clear hHeld
      go_wp2_with fail
      go_meet
      case rel => exact ⟨x0az.heap.size, x0a.heap.size, aw, ag, rfl, rfl, rfl, hva, hvg, bE, bF, oF, gF, DF⟩
   focus
    go_simp
    obtain ⟨x0y, hWA, bA0, hby, zy⟩ := boxes1 d0 [.slice none 0 0, .int .i64 0] 37
    replace zy : d0.heap.size < x0y.heap.size := by omega
    rw [hWA.out]
    have bA : Box x0y d0.heap.size [.slice none 0 0, .int .i64 0] 37 := bA0
    have D0y : Below w21.heap.size w21 x0y := D0.trans (hby.mono D0.size)
    refine hK.out _ _ (HRG.out _ D0y) (fun hHeld => ?_)
    clear hK K hWA bA0 hby
    refine wpAnyH_ready (rs := [1, 11]) (by kernel_rfl) (by simp) ?_
    refine AllReadyH.cons rfl (fun K hK => ?_) (AllReadyH.cons rfl (fun K hK => ?_) AllReadyH.nil)
    focus
     go_simp
     refine (toPool_any p _ (hRp _ (BW.trans (D0y.mono BW.size))) hl).mono ?_
     rintro e x0ya ⟨ts, rfl, hvt, hot, hba⟩
     have D0ya : Below w21.heap.size w21 x0ya := D0y.trans (hba.mono D0y.size)
     replace bA := bA.below hba bA.lt
     have za := hba.size
     refine hK.out _ _ (HRG.out _ D0ya) (fun hHeld => ?_)
     clear hK K hba
     refine wpAnyH_ready (rs := [4, 11]) (by kernel_rfl) (by simp) ?_
     refine AllReadyH.cons rfl (fun K hK => ?_) (AllReadyH.cons rfl (fun K hK => ?_) AllReadyH.nil)
     focus
      go_simp
      refine (toPg_law r _ (hRd _ (BW.trans (D0ya.mono BW.size))) hlr).mono ?_
      rintro e x0yab ⟨uu, rfl, hvu, hou, hbb⟩
      have D0yab : Below w21.heap.size w21 x0yab := D0ya.trans (hbb.mono D0ya.size)
      replace hot := hot.below hbb
      replace bA := bA.below hbb bA.lt
      have zb := hbb.size
      refine hK.out _ _ (HRG.out _ D0yab) (fun hHeld => ?_)
      clear hK K hbb
      refine wpAnyH_ready (rs := [5, 11]) (by kernel_rfl) (by simp) ?_
      refine AllReadyH.cons rfl (fun K hK => ?_) (AllReadyH.cons rfl (fun K hK => ?_) AllReadyH.nil)
      focus
       go_simp
       refine (HIM.out ts uu _ (hgB _ (BW.trans (D0yab.mono BW.size))) hvt.out hvu.out hot (PoolA.short_of hvt.out hl) hou (pg_short_wide (pg_short_of hvu.out hlr))).mono ?_
       rintro e x0yabc ⟨aw, ag, rfl, hva, hvg, hoa, hog, hbc⟩
       have D0yabc : Below w21.heap.size w21 x0yabc := D0yab.trans (hbc.mono D0yab.size)
       replace bA := bA.below hbc bA.lt
       have zc := hbc.size
       refine hK.out _ _ (HRG.out _ D0yabc) (fun hHeld => ?_)
       clear hK K hbc
       refine tk 6 (v := .tuple #[.agg (PoolA.cells aw).toArray, .agg (SeatA.cells ag).toArray, .bool RK]) rfl (Or.inl ⟨by rfl, fun w' _ => ?_⟩) hHeld ?_
       ·go_simp
       go_simp
       refine tk 7 (v := .agg (PoolA.cells aw).toArray) rfl (Or.inl ⟨by rfl, fun w' _ => ?_⟩) hHeld ?_
       ·go_simp
       go_simp
       refine tk 8 (v := .agg (SeatA.cells ag).toArray) rfl (Or.inl ⟨by rfl, fun w' _ => ?_⟩) hHeld ?_
       ·go_simp
       go_simp
       refine tk 9 (v := .bool RK) rfl (Or.inl ⟨by rfl, fun w' _ => ?_⟩) hHeld ?_
       ·go_simp
       go_simp
       refine wpAnyH_ready (rs := [11]) (by kernel_rfl) (by simp) ?_
       refine AllReadyH.cons rfl (fun K hK => ?_) AllReadyH.nil
       go_simp
       obtain ⟨x0yabcz, hWA, bB0, hbz, zz⟩ := boxes1 x0yabc [.int .i64 0, .int .i64 0, .bool false, .int .i64 0, .slice none 0 0, .slice none 0 0, .bool false, .int .i64 0, .slice none 0 0, .slice none 0 0, .bool false, .int .i64 0, .slice none 0 0, .slice none 0 0, .bool false, .int .i64 0, .slice none 0 0, .slice none 0 0, .bool false, .bool false] 45
       replace zz : x0yabc.heap.size < x0yabcz.heap.size := by omega
       rw [hWA.out]
       have bB : Box x0yabcz x0yabc.heap.size [.int .i64 0, .int .i64 0, .bool false, .int .i64 0, .slice none 0 0, .slice none 0 0, .bool false, .int .i64 0, .slice none 0 0, .slice none 0 0, .bool false, .int .i64 0, .slice none 0 0, .slice none 0 0, .bool false, .int .i64 0, .slice none 0 0, .slice none 0 0, .bool false, .bool false] 45 := bB0
       have D0yabcz : Below w21.heap.size w21 x0yabcz := D0yabc.trans (hbz.mono D0yabc.size)
       replace bA := bA.below hbz bA.lt
       replace hoa := hoa.below hbz
       replace hog := hog.below hbz
       refine hK.out _ _ (HRG.out _ D0yabcz) (fun hHeld => ?_)
       clear hK K hWA bB0 hbz
       obtain ⟨WE, hWE, hwE, hsE, HTE, _, bE⟩ := pool_out aw _ rfl bA
       replace bB := bB.within hwE (by omega)
       obtain ⟨WF, hWF, hwF, hsF, HTF, _, bF⟩ := seat_out ag _ rfl bB
       replace bE := bE.within hwF (by omega)
       have lA := bA.lt
       have lB := bB.lt
       have y1 := D0.size
       have y2 := D0y.size
       have y3 := D0ya.size
       have y4 := D0yab.size
       have y5 := D0yabc.size
       have y6 := D0yabcz.size
       have oF : PoolA.own WF w21.heap.size WF.heap.size aw := ((hoa.within hwE (by omega)).within hwF (by omega)).widen (by omega) (by omega) (Nat.le_refl _)
       have gF : SeatA.own WF w21.heap.size WF.heap.size ag := ((hog.within hwE (by omega)).within hwF (by omega)).widen (by omega) (by omega) (Nat.le_refl _)
       have DE : Below w21.heap.size w21 WE := D0yabcz.trans (hwE.below (by omega) (by omega))
       have DF : Below w21.heap.size w21 WF := DE.trans (hwF.below (by omega) (by omega))
       refine wpAnyH_ready (rs := [12]) (by kernel_rfl) (by simp) ?_
       refine AllReadyH.cons rfl (fun K hK => ?_) AllReadyH.nil
       rw [if_pos (by rfl)]
       refine wp_store_mid 37 (.tmp 19) (.tmp 130) rfl d0.heap.size 0 (PoolA.cells aw).toArray rfl rfl HTE.out (by rw [List.size_toArray]; exact pool_info _) (pool_one _) ?_
       have HW : Hid ((x0yabcz).setCells d0.heap.size 0 (PoolA.cells aw).toArray.toList = WE) := hWE.out
       rw [HW.out]
       refine hK.out _ _ (HRG.out _ DE) (fun hHeld => ?_)
       clear hK K HW hWE HTE
       simp only [Act.put, zA, zB, zC]
       refine wpAnyH_ready (rs := [13]) (by kernel_rfl) (by simp) ?_
       refine AllReadyH.cons rfl (fun K hK => ?_) AllReadyH.nil
       rw [if_pos (by rfl)]
       refine wp_store_mid 45 (.tmp 20) (.tmp 131) rfl x0yabc.heap.size 0 (SeatA.cells ag).toArray rfl rfl HTF.out (by rw [List.size_toArray]; exact seat_info _) (seat_one _) ?_
       have HW : Hid ((WE).setCells x0yabc.heap.size 0 (SeatA.cells ag).toArray.toList = WF) := hWF.out
       rw [HW.out]
       refine hK.out _ _ (HRG.out _ DF) (fun hHeld => ?_)
       clear hK K HW hWF HTF
       simp only [Act.put, zA, zB, zC]
       refine tk 14 (v := .bool RK) rfl (Or.inl ⟨by rfl, fun w' _ => ?_⟩) hHeld ?_
       ·go_simp
       go_simp
       refine wpAnyH_done (by kernel_rfl) ?_ _
       clear hHeld
       go_wp2_with fail
       go_meet
       case rel => exact ⟨d0.heap.size, x0yabc.heap.size, aw, ag, rfl, rfl, rfl, hva, hvg, bE, bF, oF, gF, DF⟩
      focus
       go_simp
       obtain ⟨x0yabz, hWA, bB0, hbz, zz⟩ := boxes1 x0yab [.int .i64 0, .int .i64 0, .bool false, .int .i64 0, .slice none 0 0, .slice none 0 0, .bool false, .int .i64 0, .slice none 0 0, .slice none 0 0, .bool false, .int .i64 0, .slice none 0 0, .slice none 0 0, .bool false, .int .i64 0, .slice none 0 0, .slice none 0 0, .bool false, .bool false] 45
       replace zz : x0yab.heap.size < x0yabz.heap.size := by omega
       rw [hWA.out]
       have bB : Box x0yabz x0yab.heap.size [.int .i64 0, .int .i64 0, .bool false, .int .i64 0, .slice none 0 0, .slice none 0 0, .bool false, .int .i64 0, .slice none 0 0, .slice none 0 0, .bool false, .int .i64 0, .slice none 0 0, .slice none 0 0, .bool false, .int .i64 0, .slice none 0 0, .slice none 0 0, .bool false, .bool false] 45 := bB0
       have D0yabz : Below w21.heap.size w21 x0yabz := D0yab.trans (hbz.mono D0yab.size)
       replace bA := bA.below hbz bA.lt
       replace hot := hot.below hbz
       replace hou := hou.below hbz
       refine hK.out _ _ (HRG.out _ D0yabz) (fun hHeld => ?_)
       clear hK K hWA bB0 hbz
       refine wpAnyH_ready (rs := [5]) (by kernel_rfl) (by simp) ?_
       refine AllReadyH.cons rfl (fun K hK => ?_) AllReadyH.nil
       go_simp
       refine (HIM.out ts uu _ (hgB _ (BW.trans (D0yabz.mono BW.size))) hvt.out hvu.out hot (PoolA.short_of hvt.out hl) hou (pg_short_wide (pg_short_of hvu.out hlr))).mono ?_
       rintro e x0yabzc ⟨aw, ag, rfl, hva, hvg, hoa, hog, hbc⟩
       have D0yabzc : Below w21.heap.size w21 x0yabzc := D0yabz.trans (hbc.mono D0yabz.size)
       replace bA := bA.below hbc bA.lt
       replace bB := bB.below hbc bB.lt
       have zc := hbc.size
       refine hK.out _ _ (HRG.out _ D0yabzc) (fun hHeld => ?_)
       clear hK K hbc
       refine tk 6 (v := .tuple #[.agg (PoolA.cells aw).toArray, .agg (SeatA.cells ag).toArray, .bool RK]) rfl (Or.inl ⟨by rfl, fun w' _ => ?_⟩) hHeld ?_
       ·go_simp
       go_simp
       refine tk 7 (v := .agg (PoolA.cells aw).toArray) rfl (Or.inl ⟨by rfl, fun w' _ => ?_⟩) hHeld ?_
       ·go_simp
       go_simp
       refine tk 8 (v := .agg (SeatA.cells ag).toArray) rfl (Or.inl ⟨by rfl, fun w' _ => ?_⟩) hHeld ?_
       ·go_simp
       go_simp
       refine tk 9 (v := .bool RK) rfl (Or.inl ⟨by rfl, fun w' _ => ?_⟩) hHeld ?_
       ·go_simp
       go_simp
       obtain ⟨WE, hWE, hwE, hsE, HTE, _, bE⟩ := pool_out aw _ rfl bA
       replace bB := bB.within hwE (by omega)
       obtain ⟨WF, hWF, hwF, hsF, HTF, _, bF⟩ := seat_out ag _ rfl bB
       replace bE := bE.within hwF (by omega)
       have lA := bA.lt
       have lB := bB.lt
       have y1 := D0.size
       have y2 := D0y.size
       have y3 := D0ya.size
       have y4 := D0yab.size
       have y5 := D0yabz.size
       have y6 := D0yabzc.size
       have oF : PoolA.own WF w21.heap.size WF.heap.size aw := ((hoa.within hwE (by omega)).within hwF (by omega)).widen (by omega) (by omega) (Nat.le_refl _)
       have gF : SeatA.own WF w21.heap.size WF.heap.size ag := ((hog.within hwE (by omega)).within hwF (by omega)).widen (by omega) (by omega) (Nat.le_refl _)
       have DE : Below w21.heap.size w21 WE := D0yabzc.trans (hwE.below (by omega) (by omega))
       have DF : Below w21.heap.size w21 WF := DE.trans (hwF.below (by omega) (by omega))
       refine wpAnyH_ready (rs := [12]) (by kernel_rfl) (by simp) ?_
       refine AllReadyH.cons rfl (fun K hK => ?_) AllReadyH.nil
       rw [if_pos (by rfl)]
       refine wp_store_mid 37 (.tmp 19) (.tmp 130) rfl d0.heap.size 0 (PoolA.cells aw).toArray rfl rfl HTE.out (by rw [List.size_toArray]; exact pool_info _) (pool_one _) ?_
       have HW : Hid ((x0yabzc).setCells d0.heap.size 0 (PoolA.cells aw).toArray.toList = WE) := hWE.out
       rw [HW.out]
       refine hK.out _ _ (HRG.out _ DE) (fun hHeld => ?_)
       clear hK K HW hWE HTE
       simp only [Act.put, zA, zB, zC]
       refine wpAnyH_ready (rs := [13]) (by kernel_rfl) (by simp) ?_
       refine AllReadyH.cons rfl (fun K hK => ?_) AllReadyH.nil
       rw [if_pos (by rfl)]
       refine wp_store_mid 45 (.tmp 20) (.tmp 131) rfl x0yab.heap.size 0 (SeatA.cells ag).toArray rfl rfl HTF.out (by rw [List.size_toArray]; exact seat_info _) (seat_one _) ?_
       have HW : Hid ((WE).setCells x0yab.heap.size 0 (SeatA.cells ag).toArray.toList = WF) := hWF.out
       rw [HW.out]
       refine hK.out _ _ (HRG.out _ DF) (fun hHeld => ?_)
       clear hK K HW hWF HTF
       simp only [Act.put, zA, zB, zC]
       refine tk 14 (v := .bool RK) rfl (Or.inl ⟨by rfl, fun w' _ => ?_⟩) hHeld ?_
       ·go_simp
       go_simp
       refine wpAnyH_done (by kernel_rfl) ?_ _
       clear hHeld
       go_wp2_with fail
       go_meet
       case rel => exact ⟨d0.heap.size, x0yab.heap.size, aw, ag, rfl, rfl, rfl, hva, hvg, bE, bF, oF, gF, DF⟩
     focus
      go_simp
      obtain ⟨x0yaz, hWA, bB0, hbz, zz⟩ := boxes1 x0ya [.int .i64 0, .int .i64 0, .bool false, .int .i64 0, .slice none 0 0, .slice none 0 0, .bool false, .int .i64 0, .slice none 0 0, .slice none 0 0, .bool false, .int .i64 0, .slice none 0 0, .slice none 0 0, .bool false, .int .i64 0, .slice none 0 0, .slice none 0 0, .bool false, .bool false] 45
      replace zz : x0ya.heap.size < x0yaz.heap.size := by omega
      rw [hWA.out]
      have bB : Box x0yaz x0ya.heap.size [.int .i64 0, .int .i64 0, .bool false, .int .i64 0, .slice none 0 0, .slice none 0 0, .bool false, .int .i64 0, .slice none 0 0, .slice none 0 0, .bool false, .int .i64 0, .slice none 0 0, .slice none 0 0, .bool false, .int .i64 0, .slice none 0 0, .slice none 0 0, .bool false, .bool false] 45 := bB0
      have D0yaz : Below w21.heap.size w21 x0yaz := D0ya.trans (hbz.mono D0ya.size)
      replace bA := bA.below hbz bA.lt
      replace hot := hot.below hbz
      refine hK.out _ _ (HRG.out _ D0yaz) (fun hHeld => ?_)
      clear hK K hWA bB0 hbz
      refine wpAnyH_ready (rs := [4]) (by kernel_rfl) (by simp) ?_
      refine AllReadyH.cons rfl (fun K hK => ?_) AllReadyH.nil
      go_simp
      refine (toPg_law r _ (hRd _ (BW.trans (D0yaz.mono BW.size))) hlr).mono ?_
      rintro e x0yazb ⟨uu, rfl, hvu, hou, hbb⟩
      have D0yazb : Below w21.heap.size w21 x0yazb := D0yaz.trans (hbb.mono D0yaz.size)
      replace hot := hot.below hbb
      replace bA := bA.below hbb bA.lt
      replace bB := bB.below hbb bB.lt
      have zb := hbb.size
      refine hK.out _ _ (HRG.out _ D0yazb) (fun hHeld => ?_)
      clear hK K hbb
      refine wpAnyH_ready (rs := [5]) (by kernel_rfl) (by simp) ?_
      refine AllReadyH.cons rfl (fun K hK => ?_) AllReadyH.nil
      go_simp
      refine (HIM.out ts uu _ (hgB _ (BW.trans (D0yazb.mono BW.size))) hvt.out hvu.out hot (PoolA.short_of hvt.out hl) hou (pg_short_wide (pg_short_of hvu.out hlr))).mono ?_
      rintro e x0yazbc ⟨aw, ag, rfl, hva, hvg, hoa, hog, hbc⟩
      have D0yazbc : Below w21.heap.size w21 x0yazbc := D0yazb.trans (hbc.mono D0yazb.size)
      replace bA := bA.below hbc bA.lt
      replace bB := bB.below hbc bB.lt
      have zc := hbc.size
      refine hK.out _ _ (HRG.out _ D0yazbc) (fun hHeld => ?_)
      clear hK K hbc
      refine tk 6 (v := .tuple #[.agg (PoolA.cells aw).toArray, .agg (SeatA.cells ag).toArray, .bool RK]) rfl (Or.inl ⟨by rfl, fun w' _ => ?_⟩) hHeld ?_
      ·go_simp
      go_simp
      refine tk 7 (v := .agg (PoolA.cells aw).toArray) rfl (Or.inl ⟨by rfl, fun w' _ => ?_⟩) hHeld ?_
      ·go_simp
      go_simp
      refine tk 8 (v := .agg (SeatA.cells ag).toArray) rfl (Or.inl ⟨by rfl, fun w' _ => ?_⟩) hHeld ?_
      ·go_simp
      go_simp
      refine tk 9 (v := .bool RK) rfl (Or.inl ⟨by rfl, fun w' _ => ?_⟩) hHeld ?_
      ·go_simp
      go_simp
      obtain ⟨WE, hWE, hwE, hsE, HTE, _, bE⟩ := pool_out aw _ rfl bA
      replace bB := bB.within hwE (by omega)
      obtain ⟨WF, hWF, hwF, hsF, HTF, _, bF⟩ := seat_out ag _ rfl bB
      replace bE := bE.within hwF (by omega)
      have lA := bA.lt
      have lB := bB.lt
      have y1 := D0.size
      have y2 := D0y.size
      have y3 := D0ya.size
      have y4 := D0yaz.size
      have y5 := D0yazb.size
      have y6 := D0yazbc.size
      have oF : PoolA.own WF w21.heap.size WF.heap.size aw := ((hoa.within hwE (by omega)).within hwF (by omega)).widen (by omega) (by omega) (Nat.le_refl _)
      have gF : SeatA.own WF w21.heap.size WF.heap.size ag := ((hog.within hwE (by omega)).within hwF (by omega)).widen (by omega) (by omega) (Nat.le_refl _)
      have DE : Below w21.heap.size w21 WE := D0yazbc.trans (hwE.below (by omega) (by omega))
      have DF : Below w21.heap.size w21 WF := DE.trans (hwF.below (by omega) (by omega))
      refine wpAnyH_ready (rs := [12]) (by kernel_rfl) (by simp) ?_
      refine AllReadyH.cons rfl (fun K hK => ?_) AllReadyH.nil
      rw [if_pos (by rfl)]
      refine wp_store_mid 37 (.tmp 19) (.tmp 130) rfl d0.heap.size 0 (PoolA.cells aw).toArray rfl rfl HTE.out (by rw [List.size_toArray]; exact pool_info _) (pool_one _) ?_
      have HW : Hid ((x0yazbc).setCells d0.heap.size 0 (PoolA.cells aw).toArray.toList = WE) := hWE.out
      rw [HW.out]
      refine hK.out _ _ (HRG.out _ DE) (fun hHeld => ?_)
      clear hK K HW hWE HTE
      simp only [Act.put, zA, zB, zC]
      refine wpAnyH_ready (rs := [13]) (by kernel_rfl) (by simp) ?_
      refine AllReadyH.cons rfl (fun K hK => ?_) AllReadyH.nil
      rw [if_pos (by rfl)]
      refine wp_store_mid 45 (.tmp 20) (.tmp 131) rfl x0ya.heap.size 0 (SeatA.cells ag).toArray rfl rfl HTF.out (by rw [List.size_toArray]; exact seat_info _) (seat_one _) ?_
      have HW : Hid ((WE).setCells x0ya.heap.size 0 (SeatA.cells ag).toArray.toList = WF) := hWF.out
      rw [HW.out]
      refine hK.out _ _ (HRG.out _ DF) (fun hHeld => ?_)
      clear hK K HW hWF HTF
      simp only [Act.put, zA, zB, zC]
      refine tk 14 (v := .bool RK) rfl (Or.inl ⟨by rfl, fun w' _ => ?_⟩) hHeld ?_
      ·go_simp
      go_simp
      refine wpAnyH_done (by kernel_rfl) ?_ _
      clear hHeld
      go_wp2_with fail
      go_meet
      case rel => exact ⟨d0.heap.size, x0ya.heap.size, aw, ag, rfl, rfl, rfl, hva, hvg, bE, bF, oF, gF, DF⟩
    focus
     go_simp
     obtain ⟨x0yz, hWA, bB0, hbz, zz⟩ := boxes1 x0y [.int .i64 0, .int .i64 0, .bool false, .int .i64 0, .slice none 0 0, .slice none 0 0, .bool false, .int .i64 0, .slice none 0 0, .slice none 0 0, .bool false, .int .i64 0, .slice none 0 0, .slice none 0 0, .bool false, .int .i64 0, .slice none 0 0, .slice none 0 0, .bool false, .bool false] 45
     replace zz : x0y.heap.size < x0yz.heap.size := by omega
     rw [hWA.out]
     have bB : Box x0yz x0y.heap.size [.int .i64 0, .int .i64 0, .bool false, .int .i64 0, .slice none 0 0, .slice none 0 0, .bool false, .int .i64 0, .slice none 0 0, .slice none 0 0, .bool false, .int .i64 0, .slice none 0 0, .slice none 0 0, .bool false, .int .i64 0, .slice none 0 0, .slice none 0 0, .bool false, .bool false] 45 := bB0
     have D0yz : Below w21.heap.size w21 x0yz := D0y.trans (hbz.mono D0y.size)
     replace bA := bA.below hbz bA.lt
     refine hK.out _ _ (HRG.out _ D0yz) (fun hHeld => ?_)
     clear hK K hWA bB0 hbz
     refine wpAnyH_ready (rs := [1]) (by kernel_rfl) (by simp) ?_
     refine AllReadyH.cons rfl (fun K hK => ?_) AllReadyH.nil
     go_simp
     refine (toPool_any p _ (hRp _ (BW.trans (D0yz.mono BW.size))) hl).mono ?_
     rintro e x0yza ⟨ts, rfl, hvt, hot, hba⟩
     have D0yza : Below w21.heap.size w21 x0yza := D0yz.trans (hba.mono D0yz.size)
     replace bA := bA.below hba bA.lt
     replace bB := bB.below hba bB.lt
     have za := hba.size
     refine hK.out _ _ (HRG.out _ D0yza) (fun hHeld => ?_)
     clear hK K hba
     refine wpAnyH_ready (rs := [4]) (by kernel_rfl) (by simp) ?_
     refine AllReadyH.cons rfl (fun K hK => ?_) AllReadyH.nil
     go_simp
     refine (toPg_law r _ (hRd _ (BW.trans (D0yza.mono BW.size))) hlr).mono ?_
     rintro e x0yzab ⟨uu, rfl, hvu, hou, hbb⟩
     have D0yzab : Below w21.heap.size w21 x0yzab := D0yza.trans (hbb.mono D0yza.size)
     replace hot := hot.below hbb
     replace bA := bA.below hbb bA.lt
     replace bB := bB.below hbb bB.lt
     have zb := hbb.size
     refine hK.out _ _ (HRG.out _ D0yzab) (fun hHeld => ?_)
     clear hK K hbb
     refine wpAnyH_ready (rs := [5]) (by kernel_rfl) (by simp) ?_
     refine AllReadyH.cons rfl (fun K hK => ?_) AllReadyH.nil
     go_simp
     refine (HIM.out ts uu _ (hgB _ (BW.trans (D0yzab.mono BW.size))) hvt.out hvu.out hot (PoolA.short_of hvt.out hl) hou (pg_short_wide (pg_short_of hvu.out hlr))).mono ?_
     rintro e x0yzabc ⟨aw, ag, rfl, hva, hvg, hoa, hog, hbc⟩
     have D0yzabc : Below w21.heap.size w21 x0yzabc := D0yzab.trans (hbc.mono D0yzab.size)
     replace bA := bA.below hbc bA.lt
     replace bB := bB.below hbc bB.lt
     have zc := hbc.size
     refine hK.out _ _ (HRG.out _ D0yzabc) (fun hHeld => ?_)
     clear hK K hbc
     refine tk 6 (v := .tuple #[.agg (PoolA.cells aw).toArray, .agg (SeatA.cells ag).toArray, .bool RK]) rfl (Or.inl ⟨by rfl, fun w' _ => ?_⟩) hHeld ?_
     ·go_simp
     go_simp
     refine tk 7 (v := .agg (PoolA.cells aw).toArray) rfl (Or.inl ⟨by rfl, fun w' _ => ?_⟩) hHeld ?_
     ·go_simp
     go_simp
     refine tk 8 (v := .agg (SeatA.cells ag).toArray) rfl (Or.inl ⟨by rfl, fun w' _ => ?_⟩) hHeld ?_
     ·go_simp
     go_simp
     refine tk 9 (v := .bool RK) rfl (Or.inl ⟨by rfl, fun w' _ => ?_⟩) hHeld ?_
     ·go_simp
     go_simp
     obtain ⟨WE, hWE, hwE, hsE, HTE, _, bE⟩ := pool_out aw _ rfl bA
     replace bB := bB.within hwE (by omega)
     obtain ⟨WF, hWF, hwF, hsF, HTF, _, bF⟩ := seat_out ag _ rfl bB
     replace bE := bE.within hwF (by omega)
     have lA := bA.lt
     have lB := bB.lt
     have y1 := D0.size
     have y2 := D0y.size
     have y3 := D0yz.size
     have y4 := D0yza.size
     have y5 := D0yzab.size
     have y6 := D0yzabc.size
     have oF : PoolA.own WF w21.heap.size WF.heap.size aw := ((hoa.within hwE (by omega)).within hwF (by omega)).widen (by omega) (by omega) (Nat.le_refl _)
     have gF : SeatA.own WF w21.heap.size WF.heap.size ag := ((hog.within hwE (by omega)).within hwF (by omega)).widen (by omega) (by omega) (Nat.le_refl _)
     have DE : Below w21.heap.size w21 WE := D0yzabc.trans (hwE.below (by omega) (by omega))
     have DF : Below w21.heap.size w21 WF := DE.trans (hwF.below (by omega) (by omega))
     refine wpAnyH_ready (rs := [12]) (by kernel_rfl) (by simp) ?_
     refine AllReadyH.cons rfl (fun K hK => ?_) AllReadyH.nil
     rw [if_pos (by rfl)]
     refine wp_store_mid 37 (.tmp 19) (.tmp 130) rfl d0.heap.size 0 (PoolA.cells aw).toArray rfl rfl HTE.out (by rw [List.size_toArray]; exact pool_info _) (pool_one _) ?_
     have HW : Hid ((x0yzabc).setCells d0.heap.size 0 (PoolA.cells aw).toArray.toList = WE) := hWE.out
     rw [HW.out]
     refine hK.out _ _ (HRG.out _ DE) (fun hHeld => ?_)
     clear hK K HW hWE HTE
     simp only [Act.put, zA, zB, zC]
     refine wpAnyH_ready (rs := [13]) (by kernel_rfl) (by simp) ?_
     refine AllReadyH.cons rfl (fun K hK => ?_) AllReadyH.nil
     rw [if_pos (by rfl)]
     refine wp_store_mid 45 (.tmp 20) (.tmp 131) rfl x0y.heap.size 0 (SeatA.cells ag).toArray rfl rfl HTF.out (by rw [List.size_toArray]; exact seat_info _) (seat_one _) ?_
     have HW : Hid ((WE).setCells x0y.heap.size 0 (SeatA.cells ag).toArray.toList = WF) := hWF.out
     rw [HW.out]
     refine hK.out _ _ (HRG.out _ DF) (fun hHeld => ?_)
     clear hK K HW hWF HTF
     simp only [Act.put, zA, zB, zC]
     refine tk 14 (v := .bool RK) rfl (Or.inl ⟨by rfl, fun w' _ => ?_⟩) hHeld ?_
     ·go_simp
     go_simp
     refine wpAnyH_done (by kernel_rfl) ?_ _
     clear hHeld
     go_wp2_with fail
     go_meet
     case rel => exact ⟨d0.heap.size, x0y.heap.size, aw, ag, rfl, rfl, rfl, hva, hvg, bE, bF, oF, gF, DF⟩
   focus
    go_simp
    obtain ⟨x0z, hWA, bB0, hbz, zz⟩ := boxes1 d0 [.int .i64 0, .int .i64 0, .bool false, .int .i64 0, .slice none 0 0, .slice none 0 0, .bool false, .int .i64 0, .slice none 0 0, .slice none 0 0, .bool false, .int .i64 0, .slice none 0 0, .slice none 0 0, .bool false, .int .i64 0, .slice none 0 0, .slice none 0 0, .bool false, .bool false] 45
    replace zz : d0.heap.size < x0z.heap.size := by omega
    rw [hWA.out]
    have bB : Box x0z d0.heap.size [.int .i64 0, .int .i64 0, .bool false, .int .i64 0, .slice none 0 0, .slice none 0 0, .bool false, .int .i64 0, .slice none 0 0, .slice none 0 0, .bool false, .int .i64 0, .slice none 0 0, .slice none 0 0, .bool false, .int .i64 0, .slice none 0 0, .slice none 0 0, .bool false, .bool false] 45 := bB0
    have D0z : Below w21.heap.size w21 x0z := D0.trans (hbz.mono D0.size)
    refine hK.out _ _ (HRG.out _ D0z) (fun hHeld => ?_)
    clear hK K hWA bB0 hbz
    refine wpAnyH_ready (rs := [1, 10]) (by kernel_rfl) (by simp) ?_
    refine AllReadyH.cons rfl (fun K hK => ?_) (AllReadyH.cons rfl (fun K hK => ?_) AllReadyH.nil)
    focus
     go_simp
     refine (toPool_any p _ (hRp _ (BW.trans (D0z.mono BW.size))) hl).mono ?_
     rintro e x0za ⟨ts, rfl, hvt, hot, hba⟩
     have D0za : Below w21.heap.size w21 x0za := D0z.trans (hba.mono D0z.size)
     replace bB := bB.below hba bB.lt
     have za := hba.size
     refine hK.out _ _ (HRG.out _ D0za) (fun hHeld => ?_)
     clear hK K hba
     refine wpAnyH_ready (rs := [4, 10]) (by kernel_rfl) (by simp) ?_
     refine AllReadyH.cons rfl (fun K hK => ?_) (AllReadyH.cons rfl (fun K hK => ?_) AllReadyH.nil)
     focus
      go_simp
      refine (toPg_law r _ (hRd _ (BW.trans (D0za.mono BW.size))) hlr).mono ?_
      rintro e x0zab ⟨uu, rfl, hvu, hou, hbb⟩
      have D0zab : Below w21.heap.size w21 x0zab := D0za.trans (hbb.mono D0za.size)
      replace hot := hot.below hbb
      replace bB := bB.below hbb bB.lt
      have zb := hbb.size
      refine hK.out _ _ (HRG.out _ D0zab) (fun hHeld => ?_)
      clear hK K hbb
      refine wpAnyH_ready (rs := [5, 10]) (by kernel_rfl) (by simp) ?_
      refine AllReadyH.cons rfl (fun K hK => ?_) (AllReadyH.cons rfl (fun K hK => ?_) AllReadyH.nil)
      focus
       go_simp
       refine (HIM.out ts uu _ (hgB _ (BW.trans (D0zab.mono BW.size))) hvt.out hvu.out hot (PoolA.short_of hvt.out hl) hou (pg_short_wide (pg_short_of hvu.out hlr))).mono ?_
       rintro e x0zabc ⟨aw, ag, rfl, hva, hvg, hoa, hog, hbc⟩
       have D0zabc : Below w21.heap.size w21 x0zabc := D0zab.trans (hbc.mono D0zab.size)
       replace bB := bB.below hbc bB.lt
       have zc := hbc.size
       refine hK.out _ _ (HRG.out _ D0zabc) (fun hHeld => ?_)
       clear hK K hbc
       refine tk 6 (v := .tuple #[.agg (PoolA.cells aw).toArray, .agg (SeatA.cells ag).toArray, .bool RK]) rfl (Or.inl ⟨by rfl, fun w' _ => ?_⟩) hHeld ?_
       ·go_simp
       go_simp
       refine tk 7 (v := .agg (PoolA.cells aw).toArray) rfl (Or.inl ⟨by rfl, fun w' _ => ?_⟩) hHeld ?_
       ·go_simp
       go_simp
       refine tk 8 (v := .agg (SeatA.cells ag).toArray) rfl (Or.inl ⟨by rfl, fun w' _ => ?_⟩) hHeld ?_
       ·go_simp
       go_simp
       refine tk 9 (v := .bool RK) rfl (Or.inl ⟨by rfl, fun w' _ => ?_⟩) hHeld ?_
       ·go_simp
       go_simp
       refine wpAnyH_ready (rs := [10]) (by kernel_rfl) (by simp) ?_
       refine AllReadyH.cons rfl (fun K hK => ?_) AllReadyH.nil
       go_simp
       obtain ⟨x0zabcy, hWA, bA0, hby, zy⟩ := boxes1 x0zabc [.slice none 0 0, .int .i64 0] 37
       replace zy : x0zabc.heap.size < x0zabcy.heap.size := by omega
       rw [hWA.out]
       have bA : Box x0zabcy x0zabc.heap.size [.slice none 0 0, .int .i64 0] 37 := bA0
       have D0zabcy : Below w21.heap.size w21 x0zabcy := D0zabc.trans (hby.mono D0zabc.size)
       replace bB := bB.below hby bB.lt
       replace hoa := hoa.below hby
       replace hog := hog.below hby
       refine hK.out _ _ (HRG.out _ D0zabcy) (fun hHeld => ?_)
       clear hK K hWA bA0 hby
       obtain ⟨WE, hWE, hwE, hsE, HTE, _, bE⟩ := pool_out aw _ rfl bA
       replace bB := bB.within hwE (by omega)
       obtain ⟨WF, hWF, hwF, hsF, HTF, _, bF⟩ := seat_out ag _ rfl bB
       replace bE := bE.within hwF (by omega)
       have lA := bA.lt
       have lB := bB.lt
       have y1 := D0.size
       have y2 := D0z.size
       have y3 := D0za.size
       have y4 := D0zab.size
       have y5 := D0zabc.size
       have y6 := D0zabcy.size
       have oF : PoolA.own WF w21.heap.size WF.heap.size aw := ((hoa.within hwE (by omega)).within hwF (by omega)).widen (by omega) (by omega) (Nat.le_refl _)
       have gF : SeatA.own WF w21.heap.size WF.heap.size ag := ((hog.within hwE (by omega)).within hwF (by omega)).widen (by omega) (by omega) (Nat.le_refl _)
       have DE : Below w21.heap.size w21 WE := D0zabcy.trans (hwE.below (by omega) (by omega))
       have DF : Below w21.heap.size w21 WF := DE.trans (hwF.below (by omega) (by omega))
       refine wpAnyH_ready (rs := [12]) (by kernel_rfl) (by simp) ?_
       refine AllReadyH.cons rfl (fun K hK => ?_) AllReadyH.nil
       rw [if_pos (by rfl)]
       refine wp_store_mid 37 (.tmp 19) (.tmp 130) rfl x0zabc.heap.size 0 (PoolA.cells aw).toArray rfl rfl HTE.out (by rw [List.size_toArray]; exact pool_info _) (pool_one _) ?_
       have HW : Hid ((x0zabcy).setCells x0zabc.heap.size 0 (PoolA.cells aw).toArray.toList = WE) := hWE.out
       rw [HW.out]
       refine hK.out _ _ (HRG.out _ DE) (fun hHeld => ?_)
       clear hK K HW hWE HTE
       simp only [Act.put, zA, zB, zC]
       refine wpAnyH_ready (rs := [13]) (by kernel_rfl) (by simp) ?_
       refine AllReadyH.cons rfl (fun K hK => ?_) AllReadyH.nil
       rw [if_pos (by rfl)]
       refine wp_store_mid 45 (.tmp 20) (.tmp 131) rfl d0.heap.size 0 (SeatA.cells ag).toArray rfl rfl HTF.out (by rw [List.size_toArray]; exact seat_info _) (seat_one _) ?_
       have HW : Hid ((WE).setCells d0.heap.size 0 (SeatA.cells ag).toArray.toList = WF) := hWF.out
       rw [HW.out]
       refine hK.out _ _ (HRG.out _ DF) (fun hHeld => ?_)
       clear hK K HW hWF HTF
       simp only [Act.put, zA, zB, zC]
       refine tk 14 (v := .bool RK) rfl (Or.inl ⟨by rfl, fun w' _ => ?_⟩) hHeld ?_
       ·go_simp
       go_simp
       refine wpAnyH_done (by kernel_rfl) ?_ _
       clear hHeld
       go_wp2_with fail
       go_meet
       case rel => exact ⟨x0zabc.heap.size, d0.heap.size, aw, ag, rfl, rfl, rfl, hva, hvg, bE, bF, oF, gF, DF⟩
      focus
       go_simp
       obtain ⟨x0zaby, hWA, bA0, hby, zy⟩ := boxes1 x0zab [.slice none 0 0, .int .i64 0] 37
       replace zy : x0zab.heap.size < x0zaby.heap.size := by omega
       rw [hWA.out]
       have bA : Box x0zaby x0zab.heap.size [.slice none 0 0, .int .i64 0] 37 := bA0
       have D0zaby : Below w21.heap.size w21 x0zaby := D0zab.trans (hby.mono D0zab.size)
       replace bB := bB.below hby bB.lt
       replace hot := hot.below hby
       replace hou := hou.below hby
       refine hK.out _ _ (HRG.out _ D0zaby) (fun hHeld => ?_)
       clear hK K hWA bA0 hby
       refine wpAnyH_ready (rs := [5]) (by kernel_rfl) (by simp) ?_
       refine AllReadyH.cons rfl (fun K hK => ?_) AllReadyH.nil
       go_simp
       refine (HIM.out ts uu _ (hgB _ (BW.trans (D0zaby.mono BW.size))) hvt.out hvu.out hot (PoolA.short_of hvt.out hl) hou (pg_short_wide (pg_short_of hvu.out hlr))).mono ?_
       rintro e x0zabyc ⟨aw, ag, rfl, hva, hvg, hoa, hog, hbc⟩
       have D0zabyc : Below w21.heap.size w21 x0zabyc := D0zaby.trans (hbc.mono D0zaby.size)
       replace bA := bA.below hbc bA.lt
       replace bB := bB.below hbc bB.lt
       have zc := hbc.size
       refine hK.out _ _ (HRG.out _ D0zabyc) (fun hHeld => ?_)
       clear hK K hbc
       refine tk 6 (v := .tuple #[.agg (PoolA.cells aw).toArray, .agg (SeatA.cells ag).toArray, .bool RK]) rfl (Or.inl ⟨by rfl, fun w' _ => ?_⟩) hHeld ?_
       ·go_simp
       go_simp
       refine tk 7 (v := .agg (PoolA.cells aw).toArray) rfl (Or.inl ⟨by rfl, fun w' _ => ?_⟩) hHeld ?_
       ·go_simp
       go_simp
       refine tk 8 (v := .agg (SeatA.cells ag).toArray) rfl (Or.inl ⟨by rfl, fun w' _ => ?_⟩) hHeld ?_
       ·go_simp
       go_simp
       refine tk 9 (v := .bool RK) rfl (Or.inl ⟨by rfl, fun w' _ => ?_⟩) hHeld ?_
       ·go_simp
       go_simp
       obtain ⟨WE, hWE, hwE, hsE, HTE, _, bE⟩ := pool_out aw _ rfl bA
       replace bB := bB.within hwE (by omega)
       obtain ⟨WF, hWF, hwF, hsF, HTF, _, bF⟩ := seat_out ag _ rfl bB
       replace bE := bE.within hwF (by omega)
       have lA := bA.lt
       have lB := bB.lt
       have y1 := D0.size
       have y2 := D0z.size
       have y3 := D0za.size
       have y4 := D0zab.size
       have y5 := D0zaby.size
       have y6 := D0zabyc.size
       have oF : PoolA.own WF w21.heap.size WF.heap.size aw := ((hoa.within hwE (by omega)).within hwF (by omega)).widen (by omega) (by omega) (Nat.le_refl _)
       have gF : SeatA.own WF w21.heap.size WF.heap.size ag := ((hog.within hwE (by omega)).within hwF (by omega)).widen (by omega) (by omega) (Nat.le_refl _)
       have DE : Below w21.heap.size w21 WE := D0zabyc.trans (hwE.below (by omega) (by omega))
       have DF : Below w21.heap.size w21 WF := DE.trans (hwF.below (by omega) (by omega))
       refine wpAnyH_ready (rs := [12]) (by kernel_rfl) (by simp) ?_
       refine AllReadyH.cons rfl (fun K hK => ?_) AllReadyH.nil
       rw [if_pos (by rfl)]
       refine wp_store_mid 37 (.tmp 19) (.tmp 130) rfl x0zab.heap.size 0 (PoolA.cells aw).toArray rfl rfl HTE.out (by rw [List.size_toArray]; exact pool_info _) (pool_one _) ?_
       have HW : Hid ((x0zabyc).setCells x0zab.heap.size 0 (PoolA.cells aw).toArray.toList = WE) := hWE.out
       rw [HW.out]
       refine hK.out _ _ (HRG.out _ DE) (fun hHeld => ?_)
       clear hK K HW hWE HTE
       simp only [Act.put, zA, zB, zC]
       refine wpAnyH_ready (rs := [13]) (by kernel_rfl) (by simp) ?_
       refine AllReadyH.cons rfl (fun K hK => ?_) AllReadyH.nil
       rw [if_pos (by rfl)]
       refine wp_store_mid 45 (.tmp 20) (.tmp 131) rfl d0.heap.size 0 (SeatA.cells ag).toArray rfl rfl HTF.out (by rw [List.size_toArray]; exact seat_info _) (seat_one _) ?_
       have HW : Hid ((WE).setCells d0.heap.size 0 (SeatA.cells ag).toArray.toList = WF) := hWF.out
       rw [HW.out]
       refine hK.out _ _ (HRG.out _ DF) (fun hHeld => ?_)
       clear hK K HW hWF HTF
       simp only [Act.put, zA, zB, zC]
       refine tk 14 (v := .bool RK) rfl (Or.inl ⟨by rfl, fun w' _ => ?_⟩) hHeld ?_
       ·go_simp
       go_simp
       refine wpAnyH_done (by kernel_rfl) ?_ _
       clear hHeld
       go_wp2_with fail
       go_meet
       case rel => exact ⟨x0zab.heap.size, d0.heap.size, aw, ag, rfl, rfl, rfl, hva, hvg, bE, bF, oF, gF, DF⟩
     focus
      go_simp
      obtain ⟨x0zay, hWA, bA0, hby, zy⟩ := boxes1 x0za [.slice none 0 0, .int .i64 0] 37
      replace zy : x0za.heap.size < x0zay.heap.size := by omega
      rw [hWA.out]
      have bA : Box x0zay x0za.heap.size [.slice none 0 0, .int .i64 0] 37 := bA0
      have D0zay : Below w21.heap.size w21 x0zay := D0za.trans (hby.mono D0za.size)
      replace bB := bB.below hby bB.lt
      replace hot := hot.below hby
      refine hK.out _ _ (HRG.out _ D0zay) (fun hHeld => ?_)
      clear hK K hWA bA0 hby
      refine wpAnyH_ready (rs := [4]) (by kernel_rfl) (by simp) ?_
      refine AllReadyH.cons rfl (fun K hK => ?_) AllReadyH.nil
      go_simp
      refine (toPg_law r _ (hRd _ (BW.trans (D0zay.mono BW.size))) hlr).mono ?_
      rintro e x0zayb ⟨uu, rfl, hvu, hou, hbb⟩
      have D0zayb : Below w21.heap.size w21 x0zayb := D0zay.trans (hbb.mono D0zay.size)
      replace hot := hot.below hbb
      replace bA := bA.below hbb bA.lt
      replace bB := bB.below hbb bB.lt
      have zb := hbb.size
      refine hK.out _ _ (HRG.out _ D0zayb) (fun hHeld => ?_)
      clear hK K hbb
      refine wpAnyH_ready (rs := [5]) (by kernel_rfl) (by simp) ?_
      refine AllReadyH.cons rfl (fun K hK => ?_) AllReadyH.nil
      go_simp
      refine (HIM.out ts uu _ (hgB _ (BW.trans (D0zayb.mono BW.size))) hvt.out hvu.out hot (PoolA.short_of hvt.out hl) hou (pg_short_wide (pg_short_of hvu.out hlr))).mono ?_
      rintro e x0zaybc ⟨aw, ag, rfl, hva, hvg, hoa, hog, hbc⟩
      have D0zaybc : Below w21.heap.size w21 x0zaybc := D0zayb.trans (hbc.mono D0zayb.size)
      replace bA := bA.below hbc bA.lt
      replace bB := bB.below hbc bB.lt
      have zc := hbc.size
      refine hK.out _ _ (HRG.out _ D0zaybc) (fun hHeld => ?_)
      clear hK K hbc
      refine tk 6 (v := .tuple #[.agg (PoolA.cells aw).toArray, .agg (SeatA.cells ag).toArray, .bool RK]) rfl (Or.inl ⟨by rfl, fun w' _ => ?_⟩) hHeld ?_
      ·go_simp
      go_simp
      refine tk 7 (v := .agg (PoolA.cells aw).toArray) rfl (Or.inl ⟨by rfl, fun w' _ => ?_⟩) hHeld ?_
      ·go_simp
      go_simp
      refine tk 8 (v := .agg (SeatA.cells ag).toArray) rfl (Or.inl ⟨by rfl, fun w' _ => ?_⟩) hHeld ?_
      ·go_simp
      go_simp
      refine tk 9 (v := .bool RK) rfl (Or.inl ⟨by rfl, fun w' _ => ?_⟩) hHeld ?_
      ·go_simp
      go_simp
      obtain ⟨WE, hWE, hwE, hsE, HTE, _, bE⟩ := pool_out aw _ rfl bA
      replace bB := bB.within hwE (by omega)
      obtain ⟨WF, hWF, hwF, hsF, HTF, _, bF⟩ := seat_out ag _ rfl bB
      replace bE := bE.within hwF (by omega)
      have lA := bA.lt
      have lB := bB.lt
      have y1 := D0.size
      have y2 := D0z.size
      have y3 := D0za.size
      have y4 := D0zay.size
      have y5 := D0zayb.size
      have y6 := D0zaybc.size
      have oF : PoolA.own WF w21.heap.size WF.heap.size aw := ((hoa.within hwE (by omega)).within hwF (by omega)).widen (by omega) (by omega) (Nat.le_refl _)
      have gF : SeatA.own WF w21.heap.size WF.heap.size ag := ((hog.within hwE (by omega)).within hwF (by omega)).widen (by omega) (by omega) (Nat.le_refl _)
      have DE : Below w21.heap.size w21 WE := D0zaybc.trans (hwE.below (by omega) (by omega))
      have DF : Below w21.heap.size w21 WF := DE.trans (hwF.below (by omega) (by omega))
      refine wpAnyH_ready (rs := [12]) (by kernel_rfl) (by simp) ?_
      refine AllReadyH.cons rfl (fun K hK => ?_) AllReadyH.nil
      rw [if_pos (by rfl)]
      refine wp_store_mid 37 (.tmp 19) (.tmp 130) rfl x0za.heap.size 0 (PoolA.cells aw).toArray rfl rfl HTE.out (by rw [List.size_toArray]; exact pool_info _) (pool_one _) ?_
      have HW : Hid ((x0zaybc).setCells x0za.heap.size 0 (PoolA.cells aw).toArray.toList = WE) := hWE.out
      rw [HW.out]
      refine hK.out _ _ (HRG.out _ DE) (fun hHeld => ?_)
      clear hK K HW hWE HTE
      simp only [Act.put, zA, zB, zC]
      refine wpAnyH_ready (rs := [13]) (by kernel_rfl) (by simp) ?_
      refine AllReadyH.cons rfl (fun K hK => ?_) AllReadyH.nil
      rw [if_pos (by rfl)]
      refine wp_store_mid 45 (.tmp 20) (.tmp 131) rfl d0.heap.size 0 (SeatA.cells ag).toArray rfl rfl HTF.out (by rw [List.size_toArray]; exact seat_info _) (seat_one _) ?_
      have HW : Hid ((WE).setCells d0.heap.size 0 (SeatA.cells ag).toArray.toList = WF) := hWF.out
      rw [HW.out]
      refine hK.out _ _ (HRG.out _ DF) (fun hHeld => ?_)
      clear hK K HW hWF HTF
      simp only [Act.put, zA, zB, zC]
      refine tk 14 (v := .bool RK) rfl (Or.inl ⟨by rfl, fun w' _ => ?_⟩) hHeld ?_
      ·go_simp
      go_simp
      refine wpAnyH_done (by kernel_rfl) ?_ _
      clear hHeld
      go_wp2_with fail
      go_meet
      case rel => exact ⟨x0za.heap.size, d0.heap.size, aw, ag, rfl, rfl, rfl, hva, hvg, bE, bF, oF, gF, DF⟩
    focus
     go_simp
     obtain ⟨x0zy, hWA, bA0, hby, zy⟩ := boxes1 x0z [.slice none 0 0, .int .i64 0] 37
     replace zy : x0z.heap.size < x0zy.heap.size := by omega
     rw [hWA.out]
     have bA : Box x0zy x0z.heap.size [.slice none 0 0, .int .i64 0] 37 := bA0
     have D0zy : Below w21.heap.size w21 x0zy := D0z.trans (hby.mono D0z.size)
     replace bB := bB.below hby bB.lt
     refine hK.out _ _ (HRG.out _ D0zy) (fun hHeld => ?_)
     clear hK K hWA bA0 hby
     refine wpAnyH_ready (rs := [1]) (by kernel_rfl) (by simp) ?_
     refine AllReadyH.cons rfl (fun K hK => ?_) AllReadyH.nil
     go_simp
     refine (toPool_any p _ (hRp _ (BW.trans (D0zy.mono BW.size))) hl).mono ?_
     rintro e x0zya ⟨ts, rfl, hvt, hot, hba⟩
     have D0zya : Below w21.heap.size w21 x0zya := D0zy.trans (hba.mono D0zy.size)
     replace bA := bA.below hba bA.lt
     replace bB := bB.below hba bB.lt
     have za := hba.size
     refine hK.out _ _ (HRG.out _ D0zya) (fun hHeld => ?_)
     clear hK K hba
     refine wpAnyH_ready (rs := [4]) (by kernel_rfl) (by simp) ?_
     refine AllReadyH.cons rfl (fun K hK => ?_) AllReadyH.nil
     go_simp
     refine (toPg_law r _ (hRd _ (BW.trans (D0zya.mono BW.size))) hlr).mono ?_
     rintro e x0zyab ⟨uu, rfl, hvu, hou, hbb⟩
     have D0zyab : Below w21.heap.size w21 x0zyab := D0zya.trans (hbb.mono D0zya.size)
     replace hot := hot.below hbb
     replace bA := bA.below hbb bA.lt
     replace bB := bB.below hbb bB.lt
     have zb := hbb.size
     refine hK.out _ _ (HRG.out _ D0zyab) (fun hHeld => ?_)
     clear hK K hbb
     refine wpAnyH_ready (rs := [5]) (by kernel_rfl) (by simp) ?_
     refine AllReadyH.cons rfl (fun K hK => ?_) AllReadyH.nil
     go_simp
     refine (HIM.out ts uu _ (hgB _ (BW.trans (D0zyab.mono BW.size))) hvt.out hvu.out hot (PoolA.short_of hvt.out hl) hou (pg_short_wide (pg_short_of hvu.out hlr))).mono ?_
     rintro e x0zyabc ⟨aw, ag, rfl, hva, hvg, hoa, hog, hbc⟩
     have D0zyabc : Below w21.heap.size w21 x0zyabc := D0zyab.trans (hbc.mono D0zyab.size)
     replace bA := bA.below hbc bA.lt
     replace bB := bB.below hbc bB.lt
     have zc := hbc.size
     refine hK.out _ _ (HRG.out _ D0zyabc) (fun hHeld => ?_)
     clear hK K hbc
     refine tk 6 (v := .tuple #[.agg (PoolA.cells aw).toArray, .agg (SeatA.cells ag).toArray, .bool RK]) rfl (Or.inl ⟨by rfl, fun w' _ => ?_⟩) hHeld ?_
     ·go_simp
     go_simp
     refine tk 7 (v := .agg (PoolA.cells aw).toArray) rfl (Or.inl ⟨by rfl, fun w' _ => ?_⟩) hHeld ?_
     ·go_simp
     go_simp
     refine tk 8 (v := .agg (SeatA.cells ag).toArray) rfl (Or.inl ⟨by rfl, fun w' _ => ?_⟩) hHeld ?_
     ·go_simp
     go_simp
     refine tk 9 (v := .bool RK) rfl (Or.inl ⟨by rfl, fun w' _ => ?_⟩) hHeld ?_
     ·go_simp
     go_simp
     obtain ⟨WE, hWE, hwE, hsE, HTE, _, bE⟩ := pool_out aw _ rfl bA
     replace bB := bB.within hwE (by omega)
     obtain ⟨WF, hWF, hwF, hsF, HTF, _, bF⟩ := seat_out ag _ rfl bB
     replace bE := bE.within hwF (by omega)
     have lA := bA.lt
     have lB := bB.lt
     have y1 := D0.size
     have y2 := D0z.size
     have y3 := D0zy.size
     have y4 := D0zya.size
     have y5 := D0zyab.size
     have y6 := D0zyabc.size
     have oF : PoolA.own WF w21.heap.size WF.heap.size aw := ((hoa.within hwE (by omega)).within hwF (by omega)).widen (by omega) (by omega) (Nat.le_refl _)
     have gF : SeatA.own WF w21.heap.size WF.heap.size ag := ((hog.within hwE (by omega)).within hwF (by omega)).widen (by omega) (by omega) (Nat.le_refl _)
     have DE : Below w21.heap.size w21 WE := D0zyabc.trans (hwE.below (by omega) (by omega))
     have DF : Below w21.heap.size w21 WF := DE.trans (hwF.below (by omega) (by omega))
     refine wpAnyH_ready (rs := [12]) (by kernel_rfl) (by simp) ?_
     refine AllReadyH.cons rfl (fun K hK => ?_) AllReadyH.nil
     rw [if_pos (by rfl)]
     refine wp_store_mid 37 (.tmp 19) (.tmp 130) rfl x0z.heap.size 0 (PoolA.cells aw).toArray rfl rfl HTE.out (by rw [List.size_toArray]; exact pool_info _) (pool_one _) ?_
     have HW : Hid ((x0zyabc).setCells x0z.heap.size 0 (PoolA.cells aw).toArray.toList = WE) := hWE.out
     rw [HW.out]
     refine hK.out _ _ (HRG.out _ DE) (fun hHeld => ?_)
     clear hK K HW hWE HTE
     simp only [Act.put, zA, zB, zC]
     refine wpAnyH_ready (rs := [13]) (by kernel_rfl) (by simp) ?_
     refine AllReadyH.cons rfl (fun K hK => ?_) AllReadyH.nil
     rw [if_pos (by rfl)]
     refine wp_store_mid 45 (.tmp 20) (.tmp 131) rfl d0.heap.size 0 (SeatA.cells ag).toArray rfl rfl HTF.out (by rw [List.size_toArray]; exact seat_info _) (seat_one _) ?_
     have HW : Hid ((WE).setCells d0.heap.size 0 (SeatA.cells ag).toArray.toList = WF) := hWF.out
     rw [HW.out]
     refine hK.out _ _ (HRG.out _ DF) (fun hHeld => ?_)
     clear hK K HW hWF HTF
     simp only [Act.put, zA, zB, zC]
     refine tk 14 (v := .bool RK) rfl (Or.inl ⟨by rfl, fun w' _ => ?_⟩) hHeld ?_
     ·go_simp
     go_simp
     refine wpAnyH_done (by kernel_rfl) ?_ _
     clear hHeld
     go_wp2_with fail
     go_meet
     case rel => exact ⟨x0z.heap.size, d0.heap.size, aw, ag, rfl, rfl, rfl, hva, hvg, bE, bF, oF, gF, DF⟩
  case rest =>
   obtain ⟨B15, G15, th, sh, rfl, rfl, rfl, HVH, HVI, bx15, bx16, oh, oi, hb22⟩ := hcut
   generalize wc = w22 at *
   have hhS := (HSM.out hlr hl).1 th HVH.out
   have hiS := (HSM.out hlr hl).2 sh HVI.out
   have HHW : Hid (tw.v = th.v) := HVW.out.trans HVH.out.symm
   have HIW : Hid (sw.v = sh.v) := HVS.out.trans HVI.out.symm
   replace bx2 := bx2.below hb22 bx2.lt
   replace bx3 := bx3.below hb22 bx3.lt
   replace bx6 := bx6.below hb22 bx6.lt
   replace bx7 := bx7.below hb22 bx7.lt
   replace bx8 := bx8.below hb22 bx8.lt
   replace bx9 := bx9.below hb22 bx9.lt
   replace bx10 := bx10.below hb22 bx10.lt
   replace bx11 := bx11.below hb22 bx11.lt
   replace ow := ow.below hb22
   replace os := os.below hb22
   replace HROW := HROW.below hb22
   replace ok19 := ok19.below hb22
   replace BW := BW.trans (hb22.mono BW.size)
   have s22 := hb22.size
   clear HRG
   go_wp2_with (first | (guard_target = wpList _ _ _ (Oper.mk (some 133) _ _ _ _ _ :: _) _ _; refine wpList_load_mid rfl 37 (.tmp 19) rfl B15 0 rfl (PoolA.cells th) _ (pool_rng _ bx15) Tryd.underlying37 rfl (pool_info _) ?_) | (guard_target = wpList _ _ _ (Oper.mk (some 134) _ _ _ _ _ :: _) _ _; refine wpList_load_mid rfl 37 (.tmp 8) rfl B6 0 rfl (PoolA.cells tw) _ (pool_rng _ bx6) Tryd.underlying37 rfl (pool_info _) ?_) | fail)
   refine (eqPool_same th tw HHW.out w22 oh.reads ow.reads (PoolA.short_wide hhS)).mono ?_
   rintro e w23 ⟨rfl, hb23⟩
   replace bx2 := bx2.below hb23 bx2.lt
   replace bx3 := bx3.below hb23 bx3.lt
   replace bx6 := bx6.below hb23 bx6.lt
   replace bx7 := bx7.below hb23 bx7.lt
   replace bx8 := bx8.below hb23 bx8.lt
   replace bx9 := bx9.below hb23 bx9.lt
   replace bx10 := bx10.below hb23 bx10.lt
   replace bx11 := bx11.below hb23 bx11.lt
   replace bx15 := bx15.below hb23 bx15.lt
   replace bx16 := bx16.below hb23 bx16.lt
   replace ow := ow.below hb23
   replace os := os.below hb23
   replace HROW := HROW.below hb23
   replace ok19 := ok19.below hb23
   replace oh := oh.below hb23
   replace oi := oi.below hb23
   replace BW := BW.trans (hb23.mono BW.size)
   have s23 := hb23.size
   go_wp2_with (first | (guard_target = wpList _ _ _ (Oper.mk (some 138) _ _ _ _ _ :: _) _ _; refine load_if6 (by rfl) 45 (.tmp 20) rfl G15 0 rfl (SeatA.cells sh) _ (seat_rng _ bx16) Tryd.underlying45 rfl (seat_info _) ?_) | (guard_target = wpList _ _ _ (Oper.mk (some 139) _ _ _ _ _ :: _) _ _; refine load_if6 (by rfl) 45 (.tmp 9) rfl G6 0 rfl (SeatA.cells sw) _ (seat_rng _ bx7) Tryd.underlying45 rfl (seat_info _) ?_) | fail)
   refine (eqSeat_same sh sw HIW.out w23 oi.reads os.reads hiS.wide).mono ?_
   rintro e w24 ⟨rfl, hb24⟩
   replace bx2 := bx2.below hb24 bx2.lt
   replace bx3 := bx3.below hb24 bx3.lt
   replace bx6 := bx6.below hb24 bx6.lt
   replace bx7 := bx7.below hb24 bx7.lt
   replace bx8 := bx8.below hb24 bx8.lt
   replace bx9 := bx9.below hb24 bx9.lt
   replace bx10 := bx10.below hb24 bx10.lt
   replace bx11 := bx11.below hb24 bx11.lt
   replace bx15 := bx15.below hb24 bx15.lt
   replace bx16 := bx16.below hb24 bx16.lt
   replace ow := ow.below hb24
   replace os := os.below hb24
   replace HROW := HROW.below hb24
   replace ok19 := ok19.below hb24
   replace oh := oh.below hb24
   replace oi := oi.below hb24
   replace BW := BW.trans (hb24.mono BW.size)
   have s24 := hb24.size
   go_wp2_with (first | (guard_target = wpList _ _ _ (Oper.mk (some 148) _ _ _ _ _ :: _) _ _; refine wpList_load_mid rfl 37 (.tmp 13) rfl w8.heap.size 0 rfl (PoolA.cells tg) _ (pool_rng _ bx10) Tryd.underlying37 rfl (pool_info _) ?_) | fail)
   refine (heldPool_row tg 1 w24 HROW (by have := hgS.len; omega) (by omega) (countSt_short hgS)).mono ?_
   rintro e w25 ⟨rfl, hb25⟩
   replace bx2 := bx2.below hb25 bx2.lt
   replace bx3 := bx3.below hb25 bx3.lt
   replace bx6 := bx6.below hb25 bx6.lt
   replace bx7 := bx7.below hb25 bx7.lt
   replace bx8 := bx8.below hb25 bx8.lt
   replace bx9 := bx9.below hb25 bx9.lt
   replace bx10 := bx10.below hb25 bx10.lt
   replace bx11 := bx11.below hb25 bx11.lt
   replace bx15 := bx15.below hb25 bx15.lt
   replace bx16 := bx16.below hb25 bx16.lt
   replace ow := ow.below hb25
   replace os := os.below hb25
   replace HROW := HROW.below hb25
   replace ok19 := ok19.below hb25
   replace oh := oh.below hb25
   replace oi := oi.below hb25
   replace BW := BW.trans (hb25.mono BW.size)
   have s25 := hb25.size
   simp only
   go_wp2_with (first | (guard_target = wpList _ _ _ (Oper.mk (some 153) _ _ _ _ _ :: _) _ _; refine wpList_load_mid rfl 45 (.tmp 14) rfl (w8.heap.size + 1) 0 rfl (SeatA.cells sg) _ (seat_rng _ bx11) Tryd.underlying45 rfl (seat_info _) ?_) | fail)
   refine (heldSeat_any sg w7.heap.size w8.heap.size (1 + (tg.count : Int)) w25 ok19 hkS.wide (by omega) (by omega)).mono ?_
   rintro e w26 ⟨rfl, hb26⟩
   replace BW := BW.trans (hb26.mono BW.size)
   simp only
   go_wp2
   go_ret
   exact ⟨rfl, hbW.trans (BW.mono hbW.size)⟩
end Go.Proofs.YtoboickdkednkabDoor