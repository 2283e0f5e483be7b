/- Several texts in one, in their order. -/
import Derived.Test.YtickiokdcbeefabDoorPVictimx8
import Derived.Test.YtickiokdcbeefabDoorPVictimx9
import Derived.Test.YtickiokdcbeefabDoorPVictimx7
import Derived.Test.YtickiokdcbeefabDoorPVictimx10
import Derived.Deep.RegionHeld3
import Derived.Test.YtickiokdcbeefabDoorPVictimx5
/- The walk of spec.Crc: it comes to crcOf. -/
namespace Go.Proofs.YtickiokdcbeefabDoor
open Go.RowKit

theorem i64_byte (c : Nat) (h : c < 256) : wrap64 (c : Int) = c := by unfold wrap64; omega

theorem spec_odd (x y : Nat) (hx : x < 4294967296) (h : (x : Int) % 2 = 1) (hy : y = crcBit x) : bits .xor .i64 ((x : Int) / 2) 3988292384 = (y : Int) := by
  rw [hy, crcBit_odd x h]
  have := i64_xor_nat (x / 2) 3988292384 (by omega) (by omega)
  rw [← this]
  rfl

theorem spec_end (x y : Nat) (hx : x < 4294967296) (hy : y = 4294967295 ^^^ x) : bits .xor .i64 (x : Int) 4294967295 = (y : Int) := by
  have := i64_xor_nat x 4294967295 hx (by omega)
  rw [hy, Nat.xor_comm, ← this]
  rfl

end Go.Proofs.YtickiokdcbeefabDoor

/- The walk of spec.l1Four. -/
namespace Go.Proofs.YtickiokdcbeefabDoor
open Go.RowKit

end Go.Proofs.YtickiokdcbeefabDoor

/- The walk of spec.Frame: it comes to frameOf. -/
namespace Go.Proofs.YtickiokdcbeefabDoor
open Go.RowKit

end Go.Proofs.YtickiokdcbeefabDoor

/- The walks of spec.l3PutSlot and spec.PutPage. -/
namespace Go.Proofs.YtickiokdcbeefabDoor
open Go.RowKit

theorem flatS_step (ss : List SlotA) (k : Nat) (h : k < ss.length) : ((ss.take (k + 1)).map (·.v)).flatMap putSlotOf = ((ss.take k).map (·.v)).flatMap putSlotOf ++ putSlotOf (ss.getD k zeroS).v := by
  rw [List.take_add_one, List.map_append, List.flatMap_append]
  simp [List.getD, h]

end Go.Proofs.YtickiokdcbeefabDoor

/- The walk of spec.PutRec. -/
namespace Go.Proofs.YtickiokdcbeefabDoor
open Go.RowKit

def putLive (l : LiveV) : List Int := (putOf l.tx ++ putOf l.last) ++ putOf (if l.aborts then 1 else 0)
def headR (r : RecV) : List Int := [r.lsn, r.tx, r.prev, r.kind, r.oid, r.next]
def bodyR (r : RecV) : List Int := ((((headR r).flatMap putOf ++ putSlotOf r.bf) ++ putSlotOf r.af) ++ putOf r.txs.length) ++ r.txs.flatMap putLive
/-- The bytes of a record. -/
def putRecOf (r : RecV) : List Int := if okR r then bodyR r else []
theorem putRec_ok {r : RecV} (h : okR r = true) : putRecOf r = bodyR r := by unfold putRecOf; rw [if_pos h]
theorem putRec_no {r : RecV} (h : okR r = false) : putRecOf r = [] := by unfold putRecOf; rw [if_neg (by rw [h]; decide)]
theorem flatN_len (ns : List Int) : (ns.flatMap putOf).length ≤ ns.length * 65 := by
  induction ns with
  | nil => simp
  | cons n r ih => have := (putOf_len n).2; simp only [List.flatMap_cons, List.length_append, List.length_cons]; omega
theorem putLive_len (l : LiveV) : (putLive l).length ≤ 195 := by
  have h1 := (putOf_len l.tx).2
  have h2 := (putOf_len l.last).2
  have h3 := (putOf_len (if l.aborts then 1 else 0)).2
  simp only [putLive, List.length_append]
  omega
theorem flatL_len (ls : List LiveV) : (ls.flatMap putLive).length ≤ ls.length * 195 := by
  induction ls with
  | nil => simp
  | cons n r ih => have := putLive_len n; simp only [List.flatMap_cons, List.length_append, List.length_cons]; omega
theorem flatL_step (ls : List LiveV) (k : Nat) (h : k < ls.length) : (ls.take (k + 1)).flatMap putLive = (ls.take k).flatMap putLive ++ putLive (ls.getD k zeroL) := by
  rw [List.take_add_one, List.flatMap_append]
  simp [List.getD, h]
theorem flatI_step (ns : List Int) (k : Nat) (h : k < ns.length) : (ns.take (k + 1)).flatMap putOf = (ns.take k).flatMap putOf ++ putOf (ns.getD k 0) := by
  rw [List.take_add_one, List.flatMap_append]
  simp [List.getD, h]
theorem okR_txs {r : RecV} (h : okR r = true) : r.txs.length ≤ 20 := by
  unfold okR at h
  simp only [Bool.and_eq_true] at h
  have h4 := h.2.2.2
  by_cases h6 : r.kind == 6
  · rw [if_pos h6] at h4
    simp [livesB] at h4
    exact h4.2.2
  · rw [if_neg h6] at h4
    have h5 := (Bool.and_eq_true _ _ ▸ (Bool.and_eq_true _ _ ▸ h4).2).2
    have hz : ∀ a b c d, zeroB r a b c d false = true → r.txs.length ≤ 20 := by
      intro a b c d hz
      simp only [zeroB, Bool.and_eq_true, Bool.false_or, decide_eq_true_eq] at hz
      omega
    split at h5
    · exact hz _ _ _ _ (Bool.and_eq_true _ _ ▸ h5).1
    · split at h5
      · exact hz _ _ _ _ (Bool.and_eq_true _ _ ▸ h5).1
      · split at h5
        · exact hz _ _ _ _ h5
        · split at h5
          · exact hz _ _ _ _ h5
          · split at h5
            · exact hz _ _ _ _ h5
            · exact absurd h5 (by decide)

end Go.Proofs.YtickiokdcbeefabDoor

/- The walk of laws.toPage. -/
namespace Go.Proofs.YtickiokdcbeefabDoor
open Go.RowKit

set_option maxHeartbeats 1000000 in
set_option maxRecDepth 100000 in
theorem toPage_own (p : PageA) (h4 : p.ss.length = 4) (w : World) (hr : ReadsS w p.ss) (hl : ∀ s ∈ p.ss, s.v.o.ints.length ≤ 1099511627776 ∧ s.v.o.refs.length ≤ 1099511627776) :
    Calls Tryd.prog 15 #[.agg p.cells.toArray] w fun e w' => ∃ ts : List SlotA, e = .returned (.agg (PageA.cells ⟨p.lsn, ts⟩).toArray) ∧ Hid (ts.map (·.v) = p.ss.map (·.v)) ∧ OwnS w' w.heap.size w'.heap.size ts ∧ Below w.heap.size w w' := by
  obtain ⟨n, ss⟩ := p
  simp only [PageA.cells] at *
  obtain ⟨W, hW, b0, b1, b2, hbW, hsW⟩ := boxes3 w (.int .i64 n :: cellsS ss) [.int .i64 0, .bool false, .int .i64 0, .slice none 0 0, .slice none 0 0, .bool false, .int .i64 0, .slice none 0 0, .slice none 0 0, .bool false, .int .i64 0, .slice none 0 0, .slice none 0 0, .bool false, .int .i64 0, .slice none 0 0, .slice none 0 0] [.int .i64 n, .bool false, .int .i64 0, .slice none 0 0, .slice none 0 0, .bool false, .int .i64 0, .slice none 0 0, .slice none 0 0, .bool false, .int .i64 0, .slice none 0 0, .slice none 0 0, .bool false, .int .i64 0, .slice none 0 0, .slice none 0 0] 42 49 49
  have b1' : Box W (w.heap.size + 1) ([] ++ ((.int .i64 0 :: cellsS zero4) ++ [])) 49 := b1
  have b2' : Box W (w.heap.size + 1 + 1) ([.int .i64 n] ++ (cellsS zero4 ++ [])) 49 := b2
  have hsW' : w.heap.size + 1 + 1 < W.heap.size := by omega
  clear b1 b2 hsW
  have hc0 := (box_new w (.int .i64 n :: cellsS ss) 42).cell 0 _ rfl
  have hrg0 : W.rangeAt w.heap.size 1 (cellsS ss) := Box.range [.int .i64 n] (cellsS ss) [] (by simpa using b0)
  have hi0 : (Tryd.prog.info? 40).map (·.size) = some (cellsS ss).length := by rw [cellsS_len, h4]; kernel_rfl
  go_enter Tryd.func15, Tryd.ntmps15
  go_wp2_with (first | (guard_target = wpList _ _ _ (Oper.mk (some 8) _ _ _ _ _ :: _) _ _; refine wpList_load_mid rfl 40 (.tmp 7) rfl w.heap.size 1 rfl (cellsS ss) _ (by rw [hW.out]; exact hrg0) Tryd.underlying40 rfl hi0 ?_) | fail)
  rw [hW.out]
  clear hW hrg0 hi0 hc0
  refine (toSlotA4_own ss h4 W (hr.below hbW) hl).mono ?_
  rintro e w1 ⟨ts, rfl, hv, ho, hb1⟩
  have htl : ts.length = 4 := by have := congrArg List.length hv.out; simp only [List.length_map] at this; omega
  have hs1 := hb1.size
  have b11 := b1'.below hb1 b1'.lt
  have b21 := b2'.below hb1 b2'.lt
  obtain ⟨W2, hW2, b22, hw2, hs2⟩ := range_fill [.int .i64 n] (cellsS zero4) (cellsS ts) [] b21 (by rw [cellsS_len, cellsS_len, htl]; rfl)
  have hW2' : w1.setCells (w.heap.size + 1 + 1) 1 (cellsS ts) = W2 := hW2.out
  have b12 := b11.within hw2 (by omega)
  obtain ⟨WF, hWF, bF, hwF, hsF⟩ := range_fill [] (.int .i64 0 :: cellsS zero4) (.int .i64 n :: cellsS ts) [] b12 (by simp only [List.length_cons, cellsS_len, htl]; rfl)
  have hWF' : W2.setCells (w.heap.size + 1) 0 (.int .i64 n :: cellsS ts) = WF := hWF.out
  have ht2 : w1.there (w.heap.size + 1 + 1) 1 (cellsS ts).toArray.size := b21.there 1 _ (by simp only [List.size_toArray, cellsS_len, htl, List.length_append, List.length_cons, List.length_nil]; decide)
  have hr2 : W2.rangeAt (w.heap.size + 1 + 1) 0 (.int .i64 n :: cellsS ts) := Box.range [] (.int .i64 n :: cellsS ts) [] (by simpa using b22)
  have htF : W2.there (w.heap.size + 1) 0 (.int .i64 n :: cellsS ts).toArray.size := b12.there 0 _ (by simp only [List.size_toArray, cellsS_len, htl, List.length_append, List.length_cons, List.length_nil]; decide)
  have hrF : WF.rangeAt (w.heap.size + 1) 0 (.int .i64 n :: cellsS ts) := Box.range [] (.int .i64 n :: cellsS ts) [] (by simpa using bF)
  have hi4 : (Tryd.prog.info? 47).map (·.size) = some (cellsS ts).toArray.size := by rw [List.size_toArray, cellsS_len, htl]; kernel_rfl
  have hi7 : (Tryd.prog.info? 49).map (·.size) = some (.int .i64 n :: cellsS ts).length := by rw [List.length_cons, cellsS_len, htl]; kernel_rfl
  have h1S := all_oneCell_toArray (oneS ts)
  have h1P := all_oneCell_toArray (oneP ⟨n, ts⟩)
  simp only [PageA.cells] at h1P
  have hlF := run_loadVar_mid (P := Tryd.prog) WF (w.heap.size + 1) 0 49 (.int .i64 n :: cellsS ts) _ hrF Tryd.underlying49 rfl hi7
  have hbF : Below w.heap.size w WF := ((hbW.trans (hb1.mono (by omega))).trans (hw2.below (by omega) (by omega))).trans (hwF.below (by omega) (by omega))
  have hoF : OwnS WF w.heap.size WF.heap.size ts := ((ho.within hw2 (.inr (by omega))).within hwF (.inr (by omega))).widen (by omega) (by omega) (Nat.le_refl _)
  have HF : Hid (_ ∧ _ ∧ _) := ⟨hlF, hbF, hoF⟩
  have HA : Hid (_ ∧ _ ∧ _) := ⟨ht2, hr2, htF⟩
  have HI : Hid (_ ∧ _) := ⟨hi4, hi7⟩
  have HO : Hid (_ ∧ _) := ⟨h1S, h1P⟩
  have HW2 : Hid (_ = _) := hW2'
  have HWF : Hid (_ = _) := hWF'
  clear hlF hbF hoF ht2 hr2 htF hi4 hi7 h1S h1P hW2' hWF' hrF hs2 hsF hw2 hwF b22 b12 b11 b21 bF hW2 hWF b0 b1' b2' hb1 hbW htl
  go_wp2_with (first | (guard_target = wpList _ _ _ (Oper.mk none (Op.store _ (Operand.tmp 10) _) _ _ _ _ :: _) _ _; refine wpList_store_mid rfl 47 (.tmp 10) (.tmp 9) rfl (w.heap.size + 1 + 1) 1 (cellsS ts).toArray rfl rfl HA.out.1 HI.out.1 HO.out.1 ?_) | (guard_target = wpList _ _ _ (Oper.mk (some 11) _ _ _ _ _ :: _) _ _; refine wpList_load_mid rfl 49 (.tmp 3) rfl (w.heap.size + 1 + 1) 0 rfl (.int .i64 n :: cellsS ts) _ (by rw [HW2.out]; exact HA.out.2.1) Tryd.underlying49 rfl HI.out.2 ?_) | (guard_target = wpList _ _ _ (Oper.mk none (Op.store _ (Operand.tmp 2) _) _ _ _ _ :: _) _ _; refine wpList_store_mid rfl 49 (.tmp 2) (.tmp 11) rfl (w.heap.size + 1) 0 (.int .i64 n :: cellsS ts).toArray rfl rfl (by rw [HW2.out]; exact HA.out.2.2) (by rw [List.size_toArray]; exact HI.out.2) HO.out.2 ?_) | fail)
  rw [HW2.out, HWF.out]
  exact bodyPost_ret (v := .agg (.int .i64 n :: cellsS ts).toArray) (results_one Tryd.results15 rfl HF.out.1) rfl ⟨ts, rfl, hv, HF.out.2.2, HF.out.2.1⟩
end Go.Proofs.YtickiokdcbeefabDoor
