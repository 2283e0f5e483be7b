/- Several texts in one, in their order. -/
import Derived.Test.YtoboickdkednkabGreatDoorPEngineOkx6
import Derived.Test.YtoboickdkednkabGreatDoorPEngineOkx4
import Derived.Deep.CutRange
import Derived.Deep.RegionLaw
import Derived.Deep.DrawnRows
import Derived.Deep.RegionHeld3
import Derived.Test.YtoboickdkednkabGreatDoorPEngineOkx5
import Derived.Test.YtoboickdkednkabGreatDoorPEngineOkx1
import Derived.Test.YtoboickdkednkabGreatDoorPEngineOkx2
import Derived.Deep.QuietTactic
import Derived.BigQuiet
set_option maxHeartbeats 8000000
set_option maxRecDepth 100000
namespace Go.Proofs.YtoboickdkednkabGreatDoor
open Go.RowKit
def liveFrom (tx : Int) : List LiveV → Nat → Int
 | [], _ => -1
 | l :: r, k => if l.tx = tx then (k : Int) else liveFrom tx r (k + 1)
def liveOf (ls : List LiveV) (tx : Int) : Int := liveFrom tx ls 0
def seatFrom (no : Int) : List SeatV → Nat → Int
 | [], _ => -1
 | l :: r, k => if l.no = no then (k : Int) else seatFrom no r (k + 1)
def seatedOf (ss : List SeatV) (no : Int) : Int := seatFrom no ss 0
def lastFrom (tx : Int) (rs : List RecV) : Nat → Int
 | 0 => 0
 | k + 1 => if (rs.getD k zeroR.v).tx = tx then (k : Int) + 1 else lastFrom tx rs k
def lastOf (rs : List RecV) (tx : Int) : Int := lastFrom tx rs rs.length
theorem dropL_at (ls : List LiveV) (k : Nat) (h : k < ls.length) : ls.drop k = ls.getD k zeroL :: ls.drop (k + 1) := by
 rw [List.drop_eq_getElem_cons h]
 simp [List.getD, h]
theorem dropSt_at (ls : List SeatA) (k : Nat) (h : k < ls.length) : (ls.map SeatA.v).drop k = (ls.getD k zeroSt).v :: (ls.map SeatA.v).drop (k + 1) := by
 rw [List.drop_eq_getElem_cons (by simpa using h)]
 simp [List.getD, h]
theorem l7Live_any (e : EngA) (hsh : e.shape) (tx : Int) (w : World) (hr : ReadsL w e.aT e.txs) (hl : e.txs.length ≤ 1099511627776) :
  Calls Tryz.prog 73 #[.agg e.cells.toArray, .int .i64 tx] w fun r w' => r = .returned (.int .i64 (liveOf e.txs tx)) ∧ Below w.heap.size w w' := by
 obtain ⟨W, hW, b0, hbW, hsW⟩ := boxes1 w e.cells 59
 have HT : Hid (∀ u, Below W.heap.size W u → u.cell? ⟨w.heap.size, 140, none⟩ = some (.slice e.aT e.txs.length e.cT)) := fun u hu => EngA.cell_at hsh (b0.below hu b0.lt) 4 _ rfl
 have HR : Hid (∀ u, Below W.heap.size W u → ReadsL u e.aT e.txs) := fun u hu => hr.below (hbW.trans (hu.mono hbW.size))
 have HF : Hid (liveFrom tx (e.txs.drop 0) 0 = liveOf e.txs tx) := rfl
 generalize liveOf e.txs tx = R at *
 generalize e.cells = cs at *
 generalize e.txs = ls at *
 generalize e.aT = a at *
 generalize e.cT = c at *
 clear hsW b0 hsh hr
 go_enter Tryz.func73, Tryz.ntmps73
 go_wp2_with fail
 rw [hW.out]
 clear hW
 go_loopw [5] (fun i wr => ∃ (k : Nat), i = .int .i64 k ∧ k ≤ ls.length ∧ Hid (liveFrom tx (ls.drop k) k = R) ∧ Below W.heap.size W wr)
  (fun i _ => ls.length - (intOf i).toNat)
 case atStart => exact ⟨0, rfl, by omega, HF, Below.refl _ _⟩
 case round =>
  obtain ⟨k, rfl, hk, hR, hbl⟩ := hrel
  have x0 := HT.out wr hbl
  have hrr := HR.out wr hbl
  have hbT : Below w.heap.size w wr := hbW.trans (hbl.mono hbW.size)
  by_cases hlt : k < ls.length
  ·obtain ⟨b, off, rfl, hcell⟩ := hrr (by rintro rfl; simp at hlt)
   obtain ⟨c0, _, _⟩ := hcell k hlt
   clear hcell
   have hkk : (k : Int) < (ls.length : Int) := by omega
   have hi0 : (0 : Int) ≤ (k : Int) := by omega
   have HR2 : Hid ((if (ls.getD k zeroL).tx = tx then (k : Int) else liveFrom tx (ls.drop (k + 1)) (k + 1)) = R) := by
    have h := hR.out
    rw [dropL_at ls k hlt, liveFrom] at h
    exact h
   generalize ls.getD k zeroL = z at *
   by_cases hq : z.tx = tx
   ·have HR3 : Hid ((k : Int) = R) := by have h := HR2.out; rw [if_pos hq] at h; exact h
    have hqb : (z.tx == tx) = true := by simpa using hq
    clear hq hR HR2
    go_wp2
    go_ret
    exact ⟨ret_int HR3.out, hbT⟩
   ·have HR3 : Hid (liveFrom tx (ls.drop (k + 1)) (k + 1) = R) := by have h := HR2.out; rw [if_neg hq] at h; exact h
    have hqb : (z.tx == tx) = false := by simpa using hq
    clear hq hR HR2
    go_wp2_with fail
    go_roundw
    case rel => exact ⟨k + 1, by go_num, by omega, HR3, hbl⟩
    case measure => simp [intOf]; omega
  ·have hkk : ¬ (k : Int) < (ls.length : Int) := by omega
   have HR' : Hid (-1 = R) := by
    have h := hR.out
    rw [List.drop_eq_nil_of_le (by omega), liveFrom] at h
    exact h
   clear hR
   go_wp2
   go_ret
   exact ⟨ret_int HR'.out, hbT⟩
theorem recV_at (rs : List RecA) (k : Nat) : (rs.map RecA.v).getD k zeroR.v = (rs.getD k zeroR).v := by
 simp only [List.getD, List.getElem?_map]
 cases rs[k]? <;> rfl
theorem l7Last_any (l : LogA) (tx : Int) (w : World) (hr : l.reads w) (hl : l.recs.length ≤ 1099511627776) :
  Calls Tryz.prog 90 #[.agg l.cells.toArray, .int .i64 tx] w fun r w' => r = .returned (.int .i64 (lastOf (l.recs.map RecA.v) tx)) ∧ Below w.heap.size w w' := by
 obtain ⟨rs, sure, a, c⟩ := l
 simp only [LogA.cells, LogA.reads] at *
 obtain ⟨W, hW, b0, hbW, hsW⟩ := boxes1 w [.slice a rs.length c, .int .i64 sure] 55
 have HT : Hid (∀ u, Below W.heap.size W u → u.cell? ⟨w.heap.size, 0, none⟩ = some (.slice a rs.length c)) := fun u hu => (b0.below hu b0.lt).cell 0 _ rfl
 have HR : Hid (∀ u, Below W.heap.size W u → ReadsRs u a rs) := fun u hu => hr.below (hbW.trans (hu.mono hbW.size))
 have HF : Hid (lastFrom tx (rs.map RecA.v) rs.length = lastOf (rs.map RecA.v) tx) := by rw [Hid, lastOf, List.length_map]
 generalize lastOf (rs.map RecA.v) tx = R at *
 have x0 := HT.out W (Below.refl _ _)
 clear hsW b0 hr
 go_enter Tryz.func90, Tryz.ntmps90
 go_wp2_with fail
 rw [hW.out]
 clear hW x0
 go_loopw [5] (fun i wr => ∃ (k : Nat), i = .int .i64 ((k : Int) - 1) ∧ k ≤ rs.length ∧ Hid (lastFrom tx (rs.map RecA.v) k = R) ∧ Below W.heap.size W wr)
  (fun i _ => (intOf i + 1).toNat)
 case atStart => exact ⟨rs.length, by go_num, by omega, HF, Below.refl _ _⟩
 case round =>
  obtain ⟨k, rfl, hk, hR, hbl⟩ := hrel
  have x0 := HT.out wr hbl
  have hrr := HR.out wr hbl
  have hbT : Below w.heap.size w wr := hbW.trans (hbl.mono hbW.size)
  cases k with
  | zero =>
   have HR' : Hid (0 = R) := hR.out
   clear hR
   go_wp2
   go_ret
   exact ⟨ret_int HR'.out, hbT⟩
  | succ k =>
   obtain ⟨b, off, rfl, hcell⟩ := hrr (by rintro rfl; simp at hk)
   have c0 := (hcell k (by omega)).1 1 _ rfl
   clear hcell
   have hkk : (k : Int) < (rs.length : Int) := by omega
   have hi0 : (0 : Int) ≤ (k : Int) := by omega
   have HR2 : Hid ((if (rs.getD k zeroR).tx = tx then (k : Int) + 1 else lastFrom tx (rs.map RecA.v) k) = R) := by
    have h := hR.out
    rw [lastFrom, recV_at] at h
    exact h
   have hk1 : ((k + 1 : Nat) : Int) - 1 = (k : Int) := by omega
   rw [hk1]
   generalize rs.getD k zeroR = z at *
   by_cases hq : z.tx = tx
   ·have HR3 : Hid ((k : Int) + 1 = R) := by have h := HR2.out; rw [if_pos hq] at h; exact h
    have hqb : (z.tx == tx) = true := by simpa using hq
    clear hq hR HR2
    go_wp2
    go_ret
    exact ⟨ret_int HR3.out, hbT⟩
   ·have HR3 : Hid (lastFrom tx (rs.map RecA.v) k = R) := by have h := HR2.out; rw [if_neg hq] at h; exact h
    have hqb : (z.tx == tx) = false := by simpa using hq
    clear hq hR HR2
    go_wp2_with fail
    go_roundw
    case rel => exact ⟨k, by go_num, by omega, HR3, hbl⟩
    case measure => simp [intOf]
def RecA.with (r : RecA) (t1 t2 : SlotA) (aL : Option Addr) (cL : Nat) : RecA := ⟨r.lsn, r.tx, r.prev, r.kind, r.oid, t1, t2, r.next, r.txs, aL, cL⟩
end Go.Proofs.YtoboickdkednkabGreatDoor
namespace Go.Proofs.YtoboickdkednkabGreatDoor
open Go.RowKit
attribute [local go_sem ↓] Go.wp_at_zero Go.wp_at_succ
end Go.Proofs.YtoboickdkednkabGreatDoor
namespace Go.Proofs.YtoboickdkednkabGreatDoor
open Go.RowKit
theorem rep_len (n : Nat) (r : RecA) : (List.replicate n r).length = n := by simp
theorem zero_cellsRs (n : Nat) : (madeCells (Value.agg zeroR.cells.toArray).cells (n * 15)).toList = cellsRs (List.replicate n zeroR) := by
 apply List.ext_getElem?
 intro i
 by_cases h : i < n * 15
 ·have e := cellsRs_at (List.replicate n zeroR) (i / 15) (i % 15) (by simp; omega) (Nat.mod_lt _ (by omega))
  rw [show i / 15 * 15 + i % 15 = i by omega] at e
  rw [e]
  have hg : (List.replicate n zeroR).getD (i / 15) zeroR = zeroR := by simp [List.getD, show i / 15 < n by omega]
  rw [hg]
  simp only [madeCells, Array.toList_map, List.getElem?_map, Array.toList_range, List.getElem?_range h, Option.map_some]
  have hm : i % 15 < 15 := Nat.mod_lt _ (by omega)
  have hz : ∀ j, j < 15 → some ((Value.agg zeroR.cells.toArray).cells[j]!) = zeroR.cells[j]? := by
   intro j hj
   rcases (by omega : j = 0 ∨ j = 1 ∨ j = 2 ∨ j = 3 ∨ j = 4 ∨ j = 5 ∨ j = 6 ∨ j = 7 ∨ j = 8 ∨ j = 9 ∨ j = 10 ∨ j = 11 ∨ j = 12 ∨ j = 13 ∨ j = 14) with rfl | rfl | rfl | rfl | rfl | rfl | rfl | rfl | rfl | rfl | rfl | rfl | rfl | rfl | rfl <;> rfl
  exact hz _ hm
 ·rw [List.getElem?_eq_none (by simp [size_madeCells]; omega), List.getElem?_eq_none (by rw [cellsRs_len]; simp; omega)]
theorem own_zeroRs {w : World} {lo hi g c : Nat} (n : Nat) (h : w.ownsRow lo 85 15 (.slice (some ⟨g, 0, none⟩) n c) n (cellsRs (List.replicate n zeroR))) (ht : hi ≤ w.heap.size) (hg : g < hi) : OwnRs w lo hi (some ⟨g, 0, none⟩) c (List.replicate n zeroR) := by
 refine ⟨by rw [rep_len]; exact h, ht, fun k hk => by cases hk; exact hg, fun r hr => ?_, ?_⟩
 ·rw [(List.mem_replicate.1 hr).2]
  exact own_zeroR w lo hi ht
 ·have e : (List.replicate n zeroR).flatMap RecA.blocks = [] := by
   rw [List.flatMap_eq_nil_iff]
   intro r hr
   rw [(List.mem_replicate.1 hr).2]
   rfl
  rw [e]
  simp [Value.ownBlock]
def Came (rs ts : List RecA) (k : Nat) : Prop := ts.length = k ∧ ts.map RecA.v = (rs.take k).map RecA.v
theorem came_none (rs : List RecA) : Came rs [] 0 := ⟨rfl, by simp⟩
theorem Came.snoc {rs ts : List RecA} {k : Nat} (h : Came rs ts k) (hk : k < rs.length) {q : RecA} (hq : q.v = (rs.getD k zeroR).v) : Came rs (ts ++ [q]) (k + 1) := by
 refine ⟨by simp [h.1], ?_⟩
 have e : rs.getD k zeroR = rs[k] := by simp [List.getD, hk]
 rw [List.map_append, h.2, List.take_succ_eq_append_getElem hk, List.map_append, List.map_singleton, List.map_singleton, hq, e]
theorem Came.all {rs ts : List RecA} (h : Came rs ts rs.length) : ts.map RecA.v = rs.map RecA.v := by
 have := h.2
 rwa [List.take_length] at this
theorem range_below {w w' : World} {b o : Nat} {r : RecA} (h : w.rangeAt b o r.cells) (hb : Below w.heap.size w w') : w'.rangeAt b o r.cells := rangeAt_below h hb (rangeR_lt h)
theorem toRecS_any (a : Option Addr) (cap : Nat) (rs : List RecA) (w : World) (hr : ReadsRs w a rs) (hl : rs.length ≤ 1048576) (hs : ∀ r ∈ rs, r.short 1048576) :
  Calls Tryz.prog 94 #[.slice a rs.length cap] w fun e w' => ∃ a' c' ts, e = .returned (.slice a' ts.length c') ∧ Hid (ts.map RecA.v = rs.map RecA.v) ∧ OwnRs w' w.heap.size w'.heap.size a' c' ts ∧ Below w.heap.size w w' := by
 obtain ⟨i0, hi, hz0, hz1, hz2⟩ := info_parts Tryz.infoRec
 have HI : Hid ((Tryz.prog.info? 183).map (·.size) = some 15) := by rw [Hid]; kernel_rfl
 have HJ : Hid ((Tryz.prog.info? 85).map (·.size) = some 15) := by rw [Hid]; kernel_rfl
 rcases hr.cases with rfl | ⟨b, off, rfl, hpos, hcell⟩
 ·go_enter Tryz.func94, Tryz.ntmps94
  go_wp2_with (at_make; refine wpList_make_full _ rfl _ _ 53 rfl w.heap.size 85 i0 (.agg zeroR.cells.toArray) 15 Tryz.underlying53 hi hz0 hz1 _ _ _ _ 0 rfl rfl (by simp) (by simp) (by omega) (by simp [maxLen]) (Nat.le_refl _) ?_)
  intro w0 hown0 hgrow0
  have hB : Below w.heap.size w w0 := (Below.refl _ _).grown hgrow0 (Nat.le_refl _) (fun k h => by cases h)
  have ho : w0.ownsRow w.heap.size 85 15 (.slice (some ⟨w.heap.size, 0, none⟩) 0 0) 0 (cellsRs (List.replicate 0 zeroR)) := by
   rw [← zero_cellsRs]
   exact hown0
  have HO : Hid (OwnRs w0 w.heap.size w0.heap.size (some ⟨w.heap.size, 0, none⟩) 0 []) := own_zeroRs 0 ho (Nat.le_refl _) (ho.lt _ rfl).2
  clear hown0 hgrow0 ho
  go_wp2
  refine wp_loop_rounds 1 ?_
  rw [rounds_succ]
  go_wp2
  go_ret
  exact ⟨_, _, [], rfl, rfl, HO.out, hB⟩
 ·have hbB : b < w.heap.size := rangeR_lt (hcell 0 hpos).1
  go_enter Tryz.func94, Tryz.ntmps94
  go_wp2_with (at_make; refine wpList_make_full _ rfl _ _ 53 rfl w.heap.size 85 i0 (.agg zeroR.cells.toArray) 15 Tryz.underlying53 hi hz0 hz1 _ _ _ _ rs.length rfl rfl rfl rfl (by rw [hz2]; omega) (by simp [maxLen]; omega) (Nat.le_refl _) ?_)
  intro w0 hown0 hgrow0
  have hb0 : Below w.heap.size w w0 := (Below.refl _ _).grown hgrow0 (Nat.le_refl _) (fun k h => by cases h)
  have ho : w0.ownsRow w.heap.size 85 15 (.slice (some ⟨w.heap.size, 0, none⟩) rs.length rs.length) rs.length (cellsRs (List.replicate rs.length zeroR)) := by
   rw [← zero_cellsRs]
   exact hown0
  have HO : Hid (OwnRs w0 w.heap.size w0.heap.size (some ⟨w.heap.size, 0, none⟩) rs.length (List.replicate rs.length zeroR)) := own_zeroRs _ ho (Nat.le_refl _) (ho.lt _ rfl).2
  clear hown0 hgrow0 ho
  go_wp2
  go_loopw [4] (fun i wr => ∃ (k : Nat) (ts : List RecA), k ≤ rs.length ∧ i = .int .i64 k ∧ Hid (Came rs ts k) ∧ Hid (OwnRs wr w.heap.size wr.heap.size (some ⟨w.heap.size, 0, none⟩) rs.length (ts ++ List.replicate (rs.length - k) zeroR)) ∧ Below w.heap.size w wr)
   (fun i _ => rs.length - (intOf i).toNat)
  case atStart => exact ⟨0, [], Nat.zero_le _, rfl, came_none rs, HO, hb0⟩
  case round =>
   obtain ⟨k, ts, hk, rfl, hc, hown, hnx⟩ := hrel
   by_cases hlt : k < rs.length
   ·obtain ⟨c0, c1⟩ := hcell k hlt
    have HR : Hid (wr.rangeAt b (off + k * 15) (rs.getD k zeroR).cells) := rangeAt_below c0 hnx hbB
    have hrd : (rs.getD k zeroR).reads wr := c1.below hnx
    have hsh : (rs.getD k zeroR).short 1048576 := hs _ (recD_mem rs k hlt)
    have C := toRec_law (rs.getD k zeroR) wr hrd hsh
    have HS : Hid (∀ q : RecA, q.v = (rs.getD k zeroR).v → Came rs (ts ++ [q]) (k + 1)) := fun q hq => hc.out.snoc hlt hq
    have HP : Hid (ts ++ List.replicate (rs.length - k) zeroR = ts ++ zeroR :: List.replicate (rs.length - (k + 1)) zeroR ∧ (ts ++ zeroR :: List.replicate (rs.length - (k + 1)) zeroR).length = rs.length ∧ ts.length = k) := by
     have e : rs.length - k = (rs.length - (k + 1)) + 1 := by omega
     refine ⟨by rw [e, List.replicate_succ], ?_, hc.out.1⟩
     have := hc.out.1
     simp
     omega
    clear c0 c1 hcell hb0 HO hs hrd hsh
    generalize rs.getD k zeroR = z at *
    go_wp2_with (first | (guard_target = wpList _ _ _ (Oper.mk (some 19) _ _ _ _ _ :: _) _ _; refine wpList_load_mid rfl 183 (.tmp 18) rfl b (off + k * 15) rfl z.cells _ HR.out Tryz.underlying183 rfl HI.out ?_) | fail)
    refine C.mono ?_
    clear C HR
    rintro e w1 ⟨q, rfl, hq, hqo, hb1⟩
    have hs1 := hb1.size
    have ho1 := hown.out.below hb1
    rw [HP.out.1] at ho1
    obtain ⟨W2, hW2, ho2, ht2, hs2⟩ := ho1.fill q hqo (Nat.le_refl _) (by have := hnx.size; omega) (Nat.le_refl _)
    rw [HP.out.2.2] at hW2
    have HT : Hid (w1.there w.heap.size (k * 15) 15) := (row_rec ho1.row rfl k (by rw [HP.out.2.1]; exact hlt)).2
    have hB2 : Below w.heap.size w W2 := (hnx.trans (hb1.mono hnx.size)).trans ((ht2.within (lo := w.heap.size) (hi := w.heap.size + 1) (fun j hj => by obtain rfl := List.mem_singleton.1 hj; omega)).below (Nat.le_refl _) (by have := hnx.size; omega))
    have HH : Hid (OwnRs W2 w.heap.size W2.heap.size (some ⟨w.heap.size, 0, none⟩) rs.length ((ts ++ [q]) ++ List.replicate (rs.length - (k + 1)) zeroR)) := by
     have := ho2.widen (Nat.le_refl _) (show max wr.heap.size w1.heap.size ≤ W2.heap.size by omega) (Nat.le_refl _)
     rw [List.append_assoc, List.singleton_append]
     exact this
    have HB : Hid _ := hB2
    have HC := HS.out q hq.out
    have HO1 := rec_one q
    clear ho1 ho2 ht2 hs2 hB2 hqo hb1 hnx hown hq HS hs1
    go_wp2_with (first | (guard_target = wpList _ _ _ (Oper.mk none (Op.store _ (Operand.tmp 21) _) _ _ _ _ :: _) _ _; refine wpList_store_mid rfl 85 (.tmp 21) (.tmp 20) rfl w.heap.size (k * 15) q.cells.toArray rfl rfl HT.out HJ.out HO1 ?_) | fail)
    rw [hW2.out]
    go_roundw
    case rel => exact ⟨k + 1, ts ++ [q], by omega, by go_num, HC, HH, HB.out⟩
    case measure => simp [intOf]; omega
   ·have HE : Hid (ts.map RecA.v = rs.map RecA.v ∧ OwnRs wr w.heap.size wr.heap.size (some ⟨w.heap.size, 0, none⟩) rs.length ts ∧ ts.length = rs.length) := by
     have e : k = rs.length := by omega
     rw [e] at hown hc
     rw [Nat.sub_self, List.replicate_zero, List.append_nil] at hown
     exact ⟨hc.out.all, hown.out, hc.out.1⟩
    go_wp2
    go_ret
    exact ⟨some ⟨w.heap.size, 0, none⟩, rs.length, ts, by rw [HE.out.2.2]; rfl, HE.out.1, HE.out.2.1, hnx⟩
theorem mapV_nil {ts : List RecA} (h : ts.map RecA.v = ([] : List RecA).map RecA.v) : ts = [] := by simpa using h
theorem toLog_any (l : LogA) (w : World) (hr : l.reads w) (hl : l.short 1048576) :
  Calls Tryz.prog 38 #[.agg l.cells.toArray] w fun e w' => ∃ t : LogA, e = .returned (.agg t.cells.toArray) ∧ Hid (t.v = l.v) ∧ t.own w' w.heap.size w'.heap.size ∧ Below w.heap.size w w' := by
 obtain ⟨rs, s, a, c⟩ := l
 obtain ⟨hl1, hl2⟩ := hl
 simp only [LogA.reads, LogA.cells, LogA.own] at *
 obtain ⟨W, hW, b0, b1, b2, hbW, hsW⟩ := boxes3 w [.slice a rs.length c, .int .i64 s] [.slice none 0 0, .int .i64 0] [.slice none 0 0, .int .i64 0] 36 55 55
 have C := toRecS_any a c rs W (hr.below hbW) hl1 hl2
 go_enter Tryz.func38, Tryz.ntmps38
 go_wp2_with fail
 rw [hW.out]
 clear hW
 have hs0 : w.heap.size + 1 + 1 < W.heap.size := by omega
 clear hsW
 refine C.mono ?_
 clear C
 rintro e w1 ⟨a', c', ts, rfl, hv, ho1, hb1⟩
 have hs1 := hb1.size
 have b01 := b0.below hb1 b0.lt
 have b11 := b1.below hb1 b1.lt
 have b21 := b2.below hb1 b2.lt
 have x1 := b01.cell 1 _ rfl
 have y0 := b21.cell 0 _ rfl
 have y1 := b21.cell 1 _ rfl
 have f0 := b21.frozen 0
 have f1 := b21.frozen 1
 have z0 := b11.cell 0 _ rfl
 have z1 := b11.cell 1 _ rfl
 have g0 := b11.frozen 0
 have g1 := b11.frozen 1
 obtain ⟨W2, hW2, b22, hw2, hs2⟩ := box_set b21 0 (.slice a' ts.length c')
 obtain ⟨W3, hW3, b23, hw3, hs3⟩ := box_set b22 1 (.int .i64 s)
 have b13 := (b11.within hw2 (by omega)).within hw3 (by omega)
 obtain ⟨W4, hW4, b14, hw4, hs4⟩ := box_set b13 0 (.slice a' ts.length c')
 obtain ⟨W5, hW5, b15, hw5, hs5⟩ := box_set b14 1 (.int .i64 s)
 simp only [List.set] at b15
 have q0 := b15.cell 0 _ rfl
 have q1 := b15.cell 1 _ rfl
 have hB5 : Below w.heap.size w W5 := ((((hbW.trans (hb1.mono (by omega))).trans (hw2.below (by omega) (by omega))).trans (hw3.below (by omega) (by omega))).trans (hw4.below (by omega) (by omega))).trans (hw5.below (by omega) (by omega))
 have ho5 := ((((ho1.within hw2 (.inr (by omega))).within hw3 (.inr (by omega))).within hw4 (.inr (by omega))).within hw5 (.inr (by omega))).widen (show w.heap.size ≤ W.heap.size by omega) (show w1.heap.size ≤ W5.heap.size by omega) (Nat.le_refl _)
 have HH : Hid (_ ∧ _ ∧ _) := ⟨ho5, hB5, hv.out⟩
 clear ho5 hB5 hv ho1 hb1 hw2 hw3 hw4 hw5 hs2 hs3 hs4 hs5 b01 b11 b21 b22 b23 b13 b14 b15 b0 b1 b2 hbW
 have h34 : Hid (((((w1.setCell ⟨w.heap.size + 1 + 1, 0, none⟩ (.slice a' ts.length c')).setCell ⟨w.heap.size + 1 + 1, 1, none⟩ (.int .i64 s)).setCell ⟨w.heap.size + 1, 0, none⟩ (.slice a' ts.length c')).setCell ⟨w.heap.size + 1, 1, none⟩ (.int .i64 s)) = W5) := by rw [Hid, hW2.out, hW3.out, hW4.out, hW5.out]
 clear hW2 hW3 hW4 hW5
 go_wp2
 rw [h34.out]
 exact bodyPost_ret (v := .agg #[.slice a' ts.length c', .int .i64 s]) (by simp [results, Tryz.results38, go_sem, q0, q1]) rfl ⟨⟨ts, s, a', c'⟩, rfl, by simp only [Hid, LogA.v]; rw [HH.out.2.2], HH.out.1, HH.out.2.1⟩
theorem eqRecS_same (a b : Option Addr) (ca cb : Nat) (rs ts : List RecA) (he : ts.map RecA.v = rs.map RecA.v) (w : World) (ha : ReadsRs w a rs) (hb : ReadsRs w b ts) (hl : rs.length ≤ 1099511627776) (hs : ∀ r ∈ rs, r.short 1099511627776) :
  Calls Tryz.prog 108 #[.slice a rs.length ca, .slice b ts.length cb] w fun e w' => e = .returned (.bool true) ∧ Below w.heap.size w w' := by
 rcases ha.cases with rfl | ⟨b1, o1, rfl, hpos, hc1⟩
 ·obtain rfl := mapV_nil he
  go_enter Tryz.func108, Tryz.ntmps108
  go_wp2
  refine wp_loop_rounds 1 ?_
  rw [rounds_succ]
  go_wp2
  go_ret
  exact ⟨rfl, Below.refl _ _⟩
 ·have hlen := mapV_len he
  rcases hb.cases with rfl | ⟨b2, o2, rfl, _, hc2⟩
  ·simp at hlen; omega
  ·have HV : Hid (∀ k, k < rs.length → (ts.getD k zeroR).v = (rs.getD k zeroR).v) := fun k hk => mapV_at he k hk
   have HS : Hid (∀ k, k < rs.length → (rs.getD k zeroR).short 1099511627776) := fun k hk => hs _ (recD_mem rs k hk)
   have HI : Hid ((Tryz.prog.info? 85).map (·.size) = some 15) := by rw [Hid]; kernel_rfl
   have hu := Tryz.underlying85
   rw [hlen] at hc2 ⊢
   clear he hs hlen
   go_enter Tryz.func108, Tryz.ntmps108
   go_wp2
   go_loopw [5] (fun i wr => ∃ k : Nat, k ≤ rs.length ∧ i = .int .i64 k ∧ Below w.heap.size w wr) (fun i _ => rs.length - (intOf i).toNat)
   case atStart => exact ⟨0, Nat.zero_le _, rfl, Below.refl _ _⟩
   case round =>
    obtain ⟨k, hk, rfl, hbl⟩ := hrel
    by_cases hlt : k < rs.length
    ·obtain ⟨h1, r1⟩ := hc1 k hlt
     obtain ⟨h2, r2⟩ := hc2 k hlt
     have hv := HV.out k hlt
     have hsh := HS.out k hlt
     clear hc1 hc2
     generalize rs.getD k zeroR = z at *
     generalize ts.getD k zeroR = y at *
     have HR : Hid (∀ w1, Below w.heap.size w w1 → w1.rangeAt b1 (o1 + k * 15) z.cells ∧ w1.rangeAt b2 (o2 + k * 15) y.cells) := fun w1 hh => ⟨range_below h1 hh, range_below h2 hh⟩
     have HD : Hid (∀ w1, Below w.heap.size w w1 → z.reads w1 ∧ y.reads w1) := fun w1 hh => ⟨r1.below hh, r2.below hh⟩
     clear h1 h2 r1 r2
     go_wp2_with fail
     refine wp_region_held_drew (S := fun w' => w'.rangeAt b1 (o1 + k * 15) z.cells ∧ w'.rangeAt b2 (o2 + k * 15) y.cells) (by kernel_rfl) ?_ (fun hHeld => ?_)
     ·exact HR.out _ hbl.drew
     refine tk 0 (v := .slice (some ⟨b1, o1, none⟩) rs.length ca) rfl (Or.inl ⟨by rfl, ?_⟩) hHeld ?_
     ·intro w' hSw
      go_simp <;> rfl
     try simp only [Act.put, zA, zB, zD, zE, zF]
     refine tk 1 (v := .int .i64 k) rfl (Or.inl ⟨by rfl, ?_⟩) hHeld ?_
     ·intro w' hSw
      go_simp <;> rfl
     try simp only [Act.put, zA, zB, zC, zD, zE, zF]
     refine tk 2 (v := .pointer (some ⟨b1, o1 + k * 15, none⟩)) rfl (Or.inl ⟨by rfl, ?_⟩) hHeld ?_
     ·intro w' hSw
      go_simp <;> rfl
     try simp only [Act.put, zA, zB, zC, zD, zE, zF]
     refine tk 3 rfl (yieldsIf_load_mid (by rfl) _ _ rfl _ _ rfl z.cells _ (fun _ h => h.1) Tryz.underlying85 rfl HI.out) hHeld ?_
     try simp only [Act.put, zA, zB, zC, zD, zE, zF]
     refine tk 4 (v := .slice (some ⟨b2, o2, none⟩) rs.length cb) rfl (Or.inl ⟨by rfl, ?_⟩) hHeld ?_
     ·intro w' hSw
      go_simp <;> rfl
     try simp only [Act.put, zA, zB, zC, zD, zE, zF]
     refine tk 5 (v := .int .i64 k) rfl (Or.inl ⟨by rfl, ?_⟩) hHeld ?_
     ·intro w' hSw
      go_simp <;> rfl
     try simp only [Act.put, zA, zB, zC, zD, zE, zF]
     refine tk 6 (v := .pointer (some ⟨b2, o2 + k * 15, none⟩)) rfl (Or.inl ⟨by rfl, ?_⟩) hHeld ?_
     ·intro w' hSw
      go_simp <;> rfl
     try simp only [Act.put, zA, zB, zC, zD, zE, zF]
     refine tk 7 rfl (yieldsIf_load_mid (by rfl) _ _ rfl _ _ rfl y.cells _ (fun _ h => h.2) Tryz.underlying85 rfl HI.out) hHeld ?_
     try simp only [Act.put, zA, zB, zC, zD, zE, zF]
     refine wpAnyH_ready (rs := [8]) (by kernel_rfl) (by simp) ?_
     refine AllReadyH.cons rfl (fun K hK => ?_) AllReadyH.nil
     go_simp
     refine (eqRec_same z y hv _ (HD.out _ hbl.drew).1 (HD.out _ hbl.drew).2 hsh).mono ?_
     rintro e w2 ⟨rfl, hb2⟩
     have hw2 : Below w.heap.size w w2 := (hbl.drew).trans (hb2.mono hbl.size)
     refine hK.out _ _ (HR.out _ hw2) (fun hHeld => ?_)
     clear hK K
     try simp only [Act.put, zA, zB, zC, zD, zE, zF]
     refine tk 9 (v := .bool false) rfl (Or.inl ⟨by rfl, ?_⟩) hHeld ?_
     ·intro w' hSw
      go_simp <;> rfl
     try simp only [Act.put, zA, zB, zC, zD, zE, zF]
     refine wpAnyH_done (by kernel_rfl) ?_ _
     go_wp2_with fail
     go_roundw
     case rel => exact ⟨k + 1, by omega, by go_num, hw2⟩
     case measure => simp [intOf]; omega
    ·go_wp2
     go_ret
     exact ⟨rfl, hbl⟩
theorem eqLog_same (l t : LogA) (he : t.v = l.v) (w : World) (hr : l.reads w) (ht : t.reads w) (hl : l.short 1099511627776) :
  Calls Tryz.prog 51 #[.agg l.cells.toArray, .agg t.cells.toArray] w fun e w' => e = .returned (.bool true) ∧ Below w.heap.size w w' := by
 obtain ⟨rs, s, a, c⟩ := l
 obtain ⟨ts, s', a', c'⟩ := t
 obtain ⟨hl1, hl2⟩ := hl
 simp only [LogA.v, LogV.mk.injEq] at he
 obtain ⟨he, rfl⟩ := he
 simp only [LogA.reads, LogA.cells] at *
 obtain ⟨W, hW, b0, b1, hbW, hsW⟩ := boxes2 w [.slice a rs.length c, .int .i64 s'] [.slice a' ts.length c', .int .i64 s'] 55 55
 have C := eqRecS_same a a' c c' rs ts he W (hr.below hbW) (ht.below hbW) hl1 hl2
 clear hsW he hl1 hl2 hr ht
 go_enter Tryz.func51, Tryz.ntmps51
 go_wp2_with fail
 rw [hW.out]
 clear hW
 refine C.mono ?_
 clear C
 rintro e w1 ⟨rfl, hb1⟩
 have x1 := (b0.below hb1 b0.lt).cell 1 _ rfl
 have y1 := (b1.below hb1 b1.lt).cell 1 _ rfl
 clear b0 b1
 go_wp2
 go_ret
 exact ⟨rfl, hbW.trans (hb1.mono hbW.size)⟩
theorem szRecS_any (a : Option Addr) (cap : Nat) (rs : List RecA) (left : Int) (w : World) (hr : ReadsRs w a rs) (hn : rs.length ≤ 9223372036854775807) (hs : ∀ r ∈ rs, r.short 9223372036854775807) (hl : 0 ≤ left ∧ left ≤ 1048576) :
  Calls Tryz.prog 88 #[.slice a rs.length cap, .int .i64 left] w fun e w' => ∃ z : Int, e = .returned (.int .i64 z) ∧ (z < 0 ∨ (0 ≤ z ∧ z ≤ left ∧ rs.length ≤ 1048576 ∧ ∀ r ∈ rs, r.short 1048576)) ∧ Below w.heap.size w w' := by
 have HI : Hid ((Tryz.prog.info? 183).map (·.size) = some 15) := by rw [Hid]; kernel_rfl
 by_cases hle : left - rs.length < 0
 ·go_enter Tryz.func88, Tryz.ntmps88
  go_wp2
  go_ret
  exact ⟨-1, rfl, .inl (by omega), Below.refl _ _⟩
 have HS : Hid (∀ k, k < rs.length → (rs.getD k zeroR).short 9223372036854775807) := fun k hk => hs _ (recD_mem rs k hk)
 have hlen : rs.length ≤ 1048576 := by omega
 have HC : Hid (∀ k, k < rs.length → ∃ b off, a = some ⟨b, off, none⟩ ∧ w.rangeAt b (off + k * 15) (rs.getD k zeroR).cells) := fun k hk => by
  obtain ⟨b, off, ha, hc⟩ := hr (by intro e; rw [e] at hk; simp at hk)
  exact ⟨b, off, ha, (hc k hk).1⟩
 have HA : Hid ((∀ k, k < rs.length → (rs.getD k zeroR).short 1048576) → ∀ r ∈ rs, r.short 1048576) := by
  intro h r hr
  obtain ⟨k, hk, rfl⟩ := List.getElem_of_mem hr
  have := h k hk
  simpa [List.getD, hk] using this
 clear hr hs
 go_enter Tryz.func88, Tryz.ntmps88
 go_wp2
 go_loopw [1, 5] (fun v i wr => ∃ (k : Nat) (z : Int), k ≤ rs.length ∧ i = .int .i64 k ∧ v = .int .i64 z ∧ 0 ≤ z ∧ z ≤ left ∧ Hid (∀ j, j < k → (rs.getD j zeroR).short 1048576) ∧ Below w.heap.size w wr) (fun _ i _ => rs.length - (intOf i).toNat)
 case atStart => exact ⟨0, left - rs.length, Nat.zero_le _, rfl, by go_num, by omega, by omega, fun j hj => by omega, Below.refl _ _⟩
 case round =>
  obtain ⟨k, z, hk, rfl, rfl, hz0, hz1, hsh, hbl⟩ := hrel
  by_cases hlt : k < rs.length
  ·obtain ⟨b, off, rfl, hcell⟩ := HC.out k hlt
   have HR : Hid (wr.rangeAt b (off + k * 15) (rs.getD k zeroR).cells) := range_below hcell hbl
   have C := szRec_any (rs.getD k zeroR) z wr (HS.out k hlt) (by omega)
   clear hcell HC
   have HN : Hid ((rs.getD k zeroR).short 1048576 → ∀ j, j < k + 1 → (rs.getD j zeroR).short 1048576) := fun h j hj => by
    by_cases e : j = k
    ·rw [e]; exact h
    ·exact hsh.out j (by omega)
   generalize rs.getD k zeroR = y at *
   go_wp2_with (first | (guard_target = wpList _ _ _ (Oper.mk (some 21) _ _ _ _ _ :: _) _ _; refine wpList_load_mid rfl 183 (.tmp 20) rfl b (off + k * 15) rfl y.cells _ HR.out Tryz.underlying183 rfl HI.out ?_) | fail)
   refine C.mono ?_
   clear C HR
   rintro e w1 ⟨z1, rfl, hz, hb1⟩
   have hB1 : Below w.heap.size w w1 := hbl.trans (hb1.mono hbl.size)
   rcases hz with hneg | ⟨g0, g1, g2⟩
   ·go_wp2
    go_ret
    exact ⟨-1, rfl, .inl (by omega), hB1⟩
   ·have hzn : ¬ z1 < 0 := by omega
    have HH := HN.out g2
    go_wp2
    go_roundw
    case rel => exact ⟨k + 1, z1, by omega, by go_num, rfl, g0, by omega, HH, hB1⟩
    case measure => simp [intOf]; omega
  ·have HE : Hid (∀ r ∈ rs, r.short 1048576) := HA.out (fun j hj => hsh.out j (by omega))
   go_wp2
   go_ret
   exact ⟨z, rfl, .inr ⟨hz0, hz1, hlen, HE.out⟩, hbl⟩
theorem szLog_any (l : LogA) (left : Int) (w : World) (hr : l.reads w) (hs : l.short 9223372036854775807) (hl : 0 ≤ left ∧ left ≤ 1048576) :
  Calls Tryz.prog 27 #[.agg l.cells.toArray, .int .i64 left] w fun e w' => ∃ z : Int, e = .returned (.int .i64 z) ∧ (z < 0 ∨ (0 ≤ z ∧ z ≤ left ∧ l.short 1048576)) ∧ Below w.heap.size w w' := by
 obtain ⟨rs, s, a, c⟩ := l
 obtain ⟨hl1, hl2⟩ := hs
 simp only [LogA.reads, LogA.cells] at *
 obtain ⟨W, hW, b0, hbW, hsW⟩ := boxes1 w [.slice a rs.length c, .int .i64 s] 36
 have C := szRecS_any a c rs left W (hr.below hbW) hl1 hl2 hl
 clear hsW hr hl1 hl2
 go_enter Tryz.func27, Tryz.ntmps27
 go_wp2_with fail
 rw [hW.out]
 clear hW
 refine C.mono ?_
 clear C
 rintro e w1 ⟨z, rfl, hz, hb1⟩
 have hB : Below w.heap.size w w1 := hbW.trans (hb1.mono hbW.size)
 rcases hz with hneg | ⟨h0, h1, h2, h3⟩
 ·go_wp2
  go_ret
  exact ⟨-1, rfl, .inl (by omega), hB⟩
 ·have hzn : ¬ z < 0 := by omega
  go_wp2
  go_ret
  exact ⟨z, rfl, .inr ⟨h0, h1, h2, h3⟩, hB⟩
end Go.Proofs.YtoboickdkednkabGreatDoor
namespace Go.Proofs.YtoboickdkednkabGreatDoor
open Go.ChangeShapes Go.WideShapes Go.ChangeAt Go.RowKit
structure InLog (w : World) (l : LogA) : Prop where
 recs : ReadsRs w l.a l.recs
 each : ∀ r ∈ l.recs, InRec w r
 len : l.recs.length ≤ maxLen
 num : InI64 l.sure
theorem InLog.short {w : World} {l : LogA} (h : InLog w l) : l.short 9223372036854775807 := ⟨by have := h.len; simp only [maxLen] at this; omega, fun r hr => (h.each r hr).short⟩
section
variable {H : Type} {enc : TypeId × Value → H} {w : World} {base : Nat} {spare : Nat → Bool} {held : Bool}
theorem Tryz.cellsRcs : Tryz.prog.cellsOf 34 = 1 := by kernel_rfl
theorem Tryz.cellsLg : Tryz.prog.cellsOf 36 = 2 := by kernel_rfl
theorem trod_recs {fuel : Nat} {cs : List Value} {x : DataW H × List MemPlace} (h : DataW.trod enc Tryz.prog w base spare held fuel 34 cs = some x) :
  ∃ (a : Option Addr) (c : Nat) (rs : List RecA), cs = [.slice a rs.length c] ∧ ReadsRs w a rs ∧ (∀ r ∈ rs, InRec w r) ∧ rs.length ≤ maxLen := by
 rcases DataW.trod_slice Tryz.underlying34 h with ⟨rfl, _⟩ | ⟨a, len, cap, elems, rest, n, _, rfl, _, _, hl, hm, hlen, hel, _, _⟩
 ·exact ⟨none, 0, [], rfl, ReadsRs.nil _ _, fun r hr => by simp at hr, by simp⟩
 rw [Tryz.cellsRc] at hel
 have each : ∀ i, i < len → ∃ t : RecA, w.cells? base (a.add (i * 15)) 15 = some t.cells ∧ InRec w t := by
  intro i hi
  have hy := hel i hi
  rw [List.getElem?_eq_getElem (by omega : i < elems.length), Option.bind_eq_some_iff] at hy
  obtain ⟨cs', hcs, hy'⟩ := hy
  obtain ⟨t, e, ht⟩ := trod_rec hy'
  exact ⟨t, by rw [hcs, e], ht⟩
 obtain ⟨f, hf⟩ : ∃ f : Nat → RecA, ∀ i, i < len → w.cells? base (a.add (i * 15)) 15 = some (f i).cells ∧ InRec w (f i) := by
  refine ⟨fun i => if h : i < len then (each i h).choose else zeroR, fun i hi => ?_⟩
  simp only [dif_pos hi]
  exact (each i hi).choose_spec
 refine ⟨some a, cap, (List.range len).map f, by simp, ?_, ?_, by simp; omega⟩
 ·intro hne
  have hpos := List.length_pos_iff.2 hne
  simp only [List.length_map, List.length_range] at hpos ⊢
  obtain ⟨b, off, spot⟩ := a
  have c0 := (World.cells?_some (hf 0 hpos).1).2.2 0 (by decide)
  have hspot : spot = none := by simpa [Addr.add] using World.cell?_spot c0
  subst hspot
  refine ⟨b, off, rfl, fun k hk => ?_⟩
  have e : ((List.range len).map f).getD k zeroR = f k := by simp [List.getD, hk]
  rw [e]
  have hc := (World.cells?_some (hf k hk).1).2.2
  refine ⟨fun j v hv => ?_, (hf k hk).2.reads⟩
  have hj : j < 15 := by have := (List.getElem?_eq_some_iff.1 hv).1; rwa [cellsR_len] at this
  have d := hc j (by simpa using hj)
  simp only [Addr_add] at d
  rw [d, hv]
 ·intro r hr
  obtain ⟨k, hk, rfl⟩ := List.mem_map.1 hr
  exact (hf k (List.mem_range.1 hk)).2
theorem trod_log {fuel : Nat} {cs : List Value} {x : DataW H × List MemPlace} (h : DataW.trod enc Tryz.prog w base spare held fuel 36 cs = some x) :
  ∃ l : LogA, cs = l.cells ∧ InLog w l := by
 obtain ⟨xs, n, _, _, hlen, hxl, hf⟩ := DataW.trod_struct Tryz.underlying36 h
 rw [Tryz.cellsLg] at hlen
 match cs, hlen with
 | [v0, v1], _ =>
  have f0 := hf 0 _ rfl
  have f1 := hf 1 _ rfl
  obtain ⟨y0, hx0⟩ := some_at xs 0 (by rw [hxl]; decide)
  rw [hx0] at f0
  obtain ⟨y1, hx1⟩ := some_at xs 1 (by rw [hxl]; decide)
  rw [hx1] at f1
  simp only [List.getElem_toArray, List.getElem_cons_zero, List.getElem_cons_succ, Tryz.cellsI, Tryz.cellsRcs, List.drop, List.take] at f0 f1
  obtain ⟨a, c, rs, e0, h0, h1, h2⟩ := trod_recs f0
  obtain ⟨m, e1, w1⟩ := trod_num f1
  simp only [List.cons.injEq, and_true] at e0 e1
  subst e0 e1
  exact ⟨⟨rs, m, a, c⟩, rfl, h0, h1, h2, w1⟩
theorem open_log {b0 : Nat} {v : Value} {d : DataW H} {ps : List MemPlace} (hval : Value.okWide Tryz.prog w .any b0 36 v) (h : DataW.Trod enc Tryz.prog w base spare held 36 v d ps) :
  ∃ l : LogA, v = .agg l.cells.toArray ∧ InLog w l := by
 obtain ⟨cs, rfl, hcs⟩ := okWide_struct Tryz.underlying36 hval
 obtain ⟨fuel, hf⟩ := h
 have e : (Value.agg cs).cells.toList = cs.toList := rfl
 rw [e] at hf
 obtain ⟨r, hc, rest⟩ := trod_log hf
 refine ⟨r, ?_, rest⟩
 congr 1
 apply Array.toList_inj.1
 rw [hc]
end
end Go.Proofs.YtoboickdkednkabGreatDoor
namespace Go.Proofs.YtoboickdkednkabGreatDoor
open Go.RowKit
theorem LogA.reads.below {w w' : World} {l : LogA} (h : l.reads w) (hb : Below w.heap.size w w') : l.reads w' := ReadsRs.below h hb
theorem LogA.own.reads {w : World} {lo hi : Nat} {l : LogA} (h : l.own w lo hi) : l.reads w := OwnRs.reads h
theorem LogA.own.below {w w' : World} {lo hi : Nat} {l : LogA} (h : l.own w lo hi) (hb : Below w.heap.size w w') : l.own w' lo hi := OwnRs.below h hb
theorem LogA.own.within {w w' : World} {lo hi a b : Nat} {l : LogA} (h : l.own w lo hi) (hw : Within a b w w') (hd : hi ≤ a ∨ b ≤ lo) : l.own w' lo hi := OwnRs.within h hw hd
theorem LogA.own.widen {w : World} {lo hi lo' hi' : Nat} {l : LogA} (h : l.own w lo hi) (h1 : lo' ≤ lo) (h2 : hi ≤ hi') (h3 : hi' ≤ w.heap.size) : l.own w lo' hi' := OwnRs.widen h h1 h2 h3
def LogA.blocks (l : LogA) : List Nat := blocksRs l.a l.c l.recs
theorem LogA.own.blocks_lt {w : World} {lo hi : Nat} {l : LogA} (h : l.own w lo hi) : ∀ k ∈ l.blocks, lo ≤ k ∧ k < hi := OwnRs.blocks_lt h
theorem LogA.own.touch {w w' : World} {lo hi : Nat} {l : LogA} {bl : List Nat} (h : l.own w lo hi) (ht : Touch bl w w') (hd : ∀ k ∈ l.blocks, k ∉ bl) : l.own w' lo hi := OwnRs.touch h ht hd
theorem oneLog (l : LogA) : ∀ v ∈ l.cells, v.oneCell' = true := by
 intro v hv
 simp only [LogA.cells, List.mem_cons, List.not_mem_nil, or_false] at hv
 rcases hv with rfl | rfl <;> rfl
theorem InLog.reads {w : World} {l : LogA} (h : InLog w l) : l.reads w := h.recs
theorem log_one (q : LogA) : q.cells.toArray.all (·.oneCell') = true := all_oneCell_toArray (oneLog q)
theorem log_info (q : LogA) : (Tryz.prog.info? 55).map (·.size) = some q.cells.length := by show _ = some 2; kernel_rfl
end Go.Proofs.YtoboickdkednkabGreatDoor
namespace Go.Proofs.YtoboickdkednkabGreatDoor
open Go.RowKit
attribute [local go_sem ↓] Go.wp_at_zero Go.wp_at_succ
end Go.Proofs.YtoboickdkednkabGreatDoor
namespace Go.Proofs.YtoboickdkednkabGreatDoor
open Go.RowKit
theorem getD_v (rs : List RecA) (k : Nat) : (rs.map RecA.v).getD k noR = (rs.getD k zeroR).v := by
 simp only [List.getD, List.getElem?_map]
 cases rs[k]? <;> rfl
def okAt (rs : List RecV) (k : Nat) : Bool := ((rs.getD k noR).lsn == (k + 1 : Int)) && okR (rs.getD k noR)
def okLog (l : LogV) : Bool := decide (l.recs.length ≤ 4000) && (inB l.sure 0 l.recs.length && (List.range l.recs.length).all (okAt l.recs))
theorem okLog_len {l : LogV} (h : ¬ l.recs.length ≤ 4000) : okLog l = false := by simp [okLog, h]
theorem okLog_sure {l : LogV} (h : inB l.sure 0 l.recs.length = false) : okLog l = false := by simp [okLog, h]
theorem okLog_no {l : LogV} (k : Nat) (hk : k < l.recs.length) (h : okAt l.recs k = false) : okLog l = false := by
 have : (List.range l.recs.length).all (okAt l.recs) = false := by
  rw [List.all_eq_false]
  exact ⟨k, List.mem_range.2 hk, by rw [h]; decide⟩
 simp [okLog, this]
theorem okLog_all {l : LogV} (h0 : l.recs.length ≤ 4000) (h1 : inB l.sure 0 l.recs.length = true) (h : ∀ k, k < l.recs.length → okAt l.recs k = true) : okLog l = true := by
 have : (List.range l.recs.length).all (okAt l.recs) = true := by
  rw [List.all_eq_true]
  exact fun k hk => h k (List.mem_range.1 hk)
 simp [okLog, this, h0, h1]
theorem okLog_yes {l : LogV} (h : okLog l = true) : l.recs.length ≤ 4000 ∧ 0 ≤ l.sure ∧ l.sure ≤ l.recs.length ∧ ∀ k, k < l.recs.length → (l.recs.getD k noR).lsn = (k + 1 : Int) ∧ okR (l.recs.getD k noR) = true := by
 simp only [okLog, Bool.and_eq_true, decide_eq_true_eq, List.all_eq_true, List.mem_range, okAt, beq_iff_eq, inB] at h
 exact ⟨h.1, h.2.1.1, h.2.1.2, h.2.2⟩
theorem LogA.v_len (l : LogA) : l.v.recs.length = l.recs.length := by simp [LogA.v]
theorem LogA.v_at (l : LogA) (k : Nat) : l.v.recs.getD k noR = (l.recs.getD k zeroR).v := getD_v l.recs k
theorem okAt_v (l : LogA) (k : Nat) : okAt l.v.recs k = (((l.recs.getD k zeroR).lsn == (k + 1 : Int)) && okR (l.recs.getD k zeroR).v) := by
 unfold okAt
 rw [l.v_at]
 rfl
def sameL (a b : LiveV) : Bool := decide (a.tx = b.tx) && (decide (a.last = b.last) && (a.aborts == b.aborts))
theorem sameL_iff {a b : LiveV} : sameL a b = true ↔ a = b := by
 obtain ⟨a1, a2, a3⟩ := a
 obtain ⟨b1, b2, b3⟩ := b
 simp [sameL]
def sameLs (xs ys : List LiveV) : Bool := decide (xs.length = ys.length) && (List.range xs.length).all fun k => sameL (xs.getD k zeroL) (ys.getD k zeroL)
theorem sameLs_len {xs ys : List LiveV} (h : ¬ xs.length = ys.length) : sameLs xs ys = false := by simp [sameLs, h]
theorem sameLs_no {xs ys : List LiveV} (k : Nat) (hk : k < xs.length) (h : sameL (xs.getD k zeroL) (ys.getD k zeroL) = false) : sameLs xs ys = false := by
 have : ((List.range xs.length).all fun k => sameL (xs.getD k zeroL) (ys.getD k zeroL)) = false := by
  rw [List.all_eq_false]
  exact ⟨k, List.mem_range.2 hk, by rw [h]; decide⟩
 unfold sameLs
 rw [this, Bool.and_false]
theorem sameLs_all {xs ys : List LiveV} (hl : xs.length = ys.length) (h : ∀ k, k < xs.length → sameL (xs.getD k zeroL) (ys.getD k zeroL) = true) : sameLs xs ys = true := by
 have : ((List.range xs.length).all fun k => sameL (xs.getD k zeroL) (ys.getD k zeroL)) = true := by
  rw [List.all_eq_true]
  exact fun k hk => h k (List.mem_range.1 hk)
 unfold sameLs
 rw [this, Bool.and_true]
 exact decide_eq_true hl
theorem sameLs_refl (xs : List LiveV) : sameLs xs xs = true := sameLs_all rfl (fun _ _ => sameL_iff.2 rfl)
theorem sameLs_nil (xs : List LiveV) : sameLs [] xs = decide (xs.length = 0) := by
 cases xs with
 | nil => rfl
 | cons x r => rw [sameLs_len (by simp)]; simp
theorem run_neq_live (a b : LiveV) (w : World) : (binOp .neq 103 (.agg #[.int .i64 a.tx, .int .i64 a.last, .bool a.aborts]) (.agg #[.int .i64 b.tx, .int .i64 b.last, .bool b.aborts])).run Tryz.prog w = .ok (.bool (!sameL a b)) w := by
 obtain ⟨a1, a2, a3⟩ := a
 obtain ⟨b1, b2, b3⟩ := b
 have hp : Tryz.prog.stoodInHeld 103 = false := by kernel_rfl
 by_cases h1 : a1 = b1 <;> by_cases h2 : a2 = b2 <;> cases a3 <;> cases b3 <;> go_simp <;> simp_all [sameL]
theorem equalLives_any (a b : Option Addr) (ca cb : Nat) (xs ys : List LiveV) (w : World) (ha : ReadsL w a xs) (hb : ReadsL w b ys) (hl : xs.length ≤ 1099511627776) (hl2 : ys.length ≤ 1099511627776) :
  Calls Tryz.prog 185 #[.slice a xs.length ca, .slice b ys.length cb] w fun e w' => e = .returned (.bool (sameLs xs ys)) ∧ ∃ n, w' = w.drewN n := by
 by_cases hle : xs.length = ys.length
 case neg =>
  have HE : Hid (_ = _) := sameLs_len hle
  have hle' : ((xs.length : Int) == (ys.length : Int)) = false := by simp; omega
  go_enter Tryz.func185, Tryz.ntmps185
  go_wp2
  go_ret
  exact ⟨ret_bool HE.out.symm, 0, rfl⟩
 case pos =>
 have HL : Hid (xs.length = ys.length) := hle
 have hle' : ((xs.length : Int) == (ys.length : Int)) = true := by simp; omega
 rcases ha.cases with rfl | ⟨b1, o1, rfl, hpos, hc1⟩
 ·obtain rfl : ys = [] := List.length_eq_zero_iff.1 (by simpa using hle.symm)
  have HE : Hid (sameLs [] [] = true) := rfl
  clear hle hle' HL
  go_enter Tryz.func185, Tryz.ntmps185
  go_wp2
  refine wp_loop_rounds 1 ?_
  rw [rounds_succ]
  go_wp2
  go_ret
  exact ⟨ret_bool HE.out.symm, 0, rfl⟩
 ·rcases hb.cases with rfl | ⟨b2, o2, rfl, _, hc2⟩
  ·simp at hle; simp [hle] at hpos
  ·clear hle
   go_enter Tryz.func185, Tryz.ntmps185
   go_wp2
   go_loopw [13] (fun i wr => ∃ k : Nat, k ≤ xs.length ∧ i = .int .i64 k ∧ Hid (∀ t, t < k → sameL (xs.getD t zeroL) (ys.getD t zeroL) = true) ∧ ∃ n, wr = w.drewN n) (fun i _ => xs.length - (intOf i).toNat)
   case atStart => exact ⟨0, Nat.zero_le _, rfl, fun t ht => by omega, 0, rfl⟩
   case round =>
    obtain ⟨k, hk, rfl, hall, n, rfl⟩ := hrel
    by_cases hlt : k < xs.length
    ·obtain ⟨h10, h11, h12⟩ := hc1 k hlt
     obtain ⟨h20, h21, h22⟩ := hc2 k (by have := HL.out; omega)
     have hlt2 : (k : Int) < (ys.length : Int) := by have := HL.out; omega
     have hnl := run_neq_live (xs.getD k zeroL) (ys.getD k zeroL)
     clear hc1 hc2
     cases hz : sameL (xs.getD k zeroL) (ys.getD k zeroL) with
     | true =>
      have HN : Hid (∀ t, t < k + 1 → sameL (xs.getD t zeroL) (ys.getD t zeroL) = true) := by
       intro t ht
       by_cases e : t = k
       ·rw [e]; exact hz
       ·exact hall.out t (by omega)
      rw [hz] at hnl
      clear hz
      generalize xs.getD k zeroL = z at *
      generalize ys.getD k zeroL = y at *
      go_wp2
      go_quiet (fail)
      go_wp2
      go_roundw
      case rel => exact ⟨k + 1, by omega, by go_num, HN, _, rfl⟩
      case measure => simp [intOf]; omega
     | false =>
      have HE : Hid (_ = _) := sameLs_no k hlt hz
      rw [hz] at hnl
      clear hz
      generalize xs.getD k zeroL = z at *
      generalize ys.getD k zeroL = y at *
      go_wp2
      go_quiet (fail)
      go_wp2
      go_ret
      exact ⟨ret_bool HE.out.symm, n + nq, by first | rfl | simp⟩
    ·have HE : Hid (_ = _) := sameLs_all HL.out (fun t ht => hall.out t (by omega))
     go_wp2
     go_ret
     exact ⟨ret_bool HE.out.symm, n, rfl⟩
def sameS (a b : SlotV) : Bool := (a.has == b.has) && sameO a.o b.o
theorem implSameSlot_any (s t : SlotA) (w : World) (hs : s.reads w) (ht : t.reads w) (hls : Fit [s]) (hlt : Fit [t]) :
  Calls Tryz.prog 158 #[.agg s.cells.toArray, .agg t.cells.toArray] w fun e w' => e = .returned (.bool (sameS s.v t.v)) ∧ Below w.heap.size w w' := by
 obtain ⟨h1, h2⟩ := hls s (List.mem_singleton.2 rfl)
 obtain ⟨h3, h4⟩ := hlt t (List.mem_singleton.2 rfl)
 obtain ⟨W, hW, b0, b1, hbW, hsW⟩ := boxes2 w s.cells t.cells 45 45
 have C1 := implSameObj_any s.v.o t.v.o s.aI s.cI s.aR s.cR t.aI t.cI t.aR t.cR W (ReadsO.below hs hbW) (ReadsO.below ht hbW) h1 h2 h3 h4
 have HZ : Hid (sameS s.v t.v = ((s.v.has == t.v.has) && sameO s.v.o t.v.o)) := rfl
 generalize sameS s.v t.v = R at *
 simp only [SlotA.cells] at *
 obtain ⟨x0, x1, x2, x3, _⟩ := b0.four
 obtain ⟨y0, y1, y2, y3, _⟩ := b1.four
 clear hsW b0 b1
 cases hb : (s.v.has == t.v.has) with
 | false =>
  have HR : Hid (R = false) := by rw [Hid, HZ.out]; simp [hb]
  clear HZ C1
  go_enter Tryz.func158, Tryz.ntmps158
  go_wp2
  go_ret
  exact ⟨ret_bool HR.out.symm, by rw [hW.out]; exact hbW⟩
 | true =>
  have HR : Hid (R = sameO s.v.o t.v.o) := by rw [Hid, HZ.out]; simp [hb]
  clear HZ
  go_enter Tryz.func158, Tryz.ntmps158
  go_wp2_with fail
  rw [hW.out]
  refine C1.mono ?_
  clear C1 x0 x1 x2 x3 y0 y1 y2 y3
  rintro e w1 ⟨rfl, hb1⟩
  go_wp2
  go_ret
  exact ⟨ret_bool HR.out.symm, hbW.trans (hb1.mono hbW.size)⟩
def sameR (r t : RecV) : Bool := ((r.lsn == t.lsn) && ((r.tx == t.tx) && ((r.prev == t.prev) && ((r.kind == t.kind) && ((r.oid == t.oid) && (sameS r.bf t.bf && (sameS r.af t.af && ((r.next == t.next) && sameLs r.txs t.txs))))))))
theorem sameRec_any (r t : RecA) (w : World) (hr : r.reads w) (ht : t.reads w) (hlr : r.short 1099511627776) (hlt : t.short 1099511627776) :
  Calls Tryz.prog 156 #[.agg r.cells.toArray, .agg t.cells.toArray] w fun e w' => e = .returned (.bool (sameR r.v t.v)) ∧ Below w.heap.size w w' := by
 obtain ⟨W, hW, b0, b1, hbW, hsW⟩ := boxes2 w r.cells t.cells 85 85
 have HZ : Hid (sameR r.v t.v = ((r.lsn == t.lsn) && ((r.tx == t.tx) && ((r.prev == t.prev) && ((r.kind == t.kind) && ((r.oid == t.oid) && (sameS r.bf.v t.bf.v && (sameS r.af.v t.af.v && ((r.next == t.next) && sameLs r.txs t.txs))))))))) := rfl
 have HB : Hid (∀ u, Below w.heap.size w u → Calls _ _ _ _ _) := fun u hu => implSameSlot_any r.bf t.bf u (ReadsO.below hr.bf hu) (ReadsO.below ht.bf hu) (fun s hs => by obtain rfl := List.mem_singleton.1 hs; exact hlr.bf) (fun s hs => by obtain rfl := List.mem_singleton.1 hs; exact hlt.bf)
 have HA : Hid (∀ u, Below w.heap.size w u → Calls _ _ _ _ _) := fun u hu => implSameSlot_any r.af t.af u (ReadsO.below hr.af hu) (ReadsO.below ht.af hu) (fun s hs => by obtain rfl := List.mem_singleton.1 hs; exact hlr.af) (fun s hs => by obtain rfl := List.mem_singleton.1 hs; exact hlt.af)
 have HL : Hid (∀ u, Below w.heap.size w u → Calls _ _ _ _ _) := fun u hu => equalLives_any r.aL t.aL r.cL t.cL r.txs t.txs u (hr.txs.below hu) (ht.txs.below hu) hlr.txs hlt.txs
 have HX : Hid (∀ u, Below W.heap.size W u → Box u w.heap.size r.cells 85 ∧ Box u (w.heap.size + 1) t.cells 85) := fun u hu => ⟨b0.below hu b0.lt, b1.below hu b1.lt⟩
 generalize sameR r.v t.v = R at *
 clear hsW hr ht hlr hlt b0 b1
 simp only [RecA.cells, SlotA.cells] at *
 have l0 : Below W.heap.size W W := Below.refl _ _
 obtain ⟨x0, x1, x2, x3, x4, x5, x6, x7, x8, x9, x10, x11, x12, x13, x14⟩ := fifteen (HX.out W l0).1
 obtain ⟨y0, y1, y2, y3, y4, y5, y6, y7, y8, y9, y10, y11, y12, y13, y14⟩ := fifteen (HX.out W l0).2
 go_enter Tryz.func156, Tryz.ntmps156
 cases c0 : (r.lsn == t.lsn) with
 | false =>
  have HR : Hid (R = false) := by rw [Hid, HZ.out]; simp [c0]
  clear HZ
  go_wp2
  go_ret
  exact ⟨ret_bool HR.out.symm, by rw [hW.out]; exact hbW⟩
 | true =>
  cases c1 : (r.tx == t.tx) with
  | false =>
   have HR : Hid (R = false) := by rw [Hid, HZ.out]; simp [c0, c1]
   clear HZ
   go_wp2
   go_ret
   exact ⟨ret_bool HR.out.symm, by rw [hW.out]; exact hbW⟩
  | true =>
   cases c2 : (r.prev == t.prev) with
   | false =>
    have HR : Hid (R = false) := by rw [Hid, HZ.out]; simp [c0, c1, c2]
    clear HZ
    go_wp2
    go_ret
    exact ⟨ret_bool HR.out.symm, by rw [hW.out]; exact hbW⟩
   | true =>
    cases c3 : (r.kind == t.kind) with
    | false =>
     have HR : Hid (R = false) := by rw [Hid, HZ.out]; simp [c0, c1, c2, c3]
     clear HZ
     go_wp2
     go_ret
     exact ⟨ret_bool HR.out.symm, by rw [hW.out]; exact hbW⟩
    | true =>
     cases c4 : (r.oid == t.oid) with
     | false =>
      have HR : Hid (R = false) := by rw [Hid, HZ.out]; simp [c0, c1, c2, c3, c4]
      clear HZ
      go_wp2
      go_ret
      exact ⟨ret_bool HR.out.symm, by rw [hW.out]; exact hbW⟩
     | true =>
      go_wp2_with fail
      rw [hW.out]
      clear hW
      refine (HB.out W hbW).mono ?_
      clear x0 x1 x2 x3 x4 x5 x6 x7 x8 x9 x10 x11 x12 x13 x14 y0 y1 y2 y3 y4 y5 y6 y7 y8 y9 y10 y11 y12 y13 y14
      rintro e u5 ⟨rfl, hb5⟩
      have b_5 : Below w.heap.size w u5 := (hbW).trans (hb5.mono (hbW).size)
      have l_5 : Below W.heap.size W u5 := (l0).trans (hb5.mono (l0).size)
      obtain ⟨x0, x1, x2, x3, x4, x5, x6, x7, x8, x9, x10, x11, x12, x13, x14⟩ := fifteen (HX.out u5 l_5).1
      obtain ⟨y0, y1, y2, y3, y4, y5, y6, y7, y8, y9, y10, y11, y12, y13, y14⟩ := fifteen (HX.out u5 l_5).2
      clear hb5
      cases c5 : sameS r.bf.v t.bf.v with
      | false =>
       have HR : Hid (R = false) := by rw [Hid, HZ.out]; simp [c0, c1, c2, c3, c4, c5]
       clear HZ
       go_wp2
       go_ret
       exact ⟨ret_bool HR.out.symm, b_5⟩
      | true =>
       go_wp2_with fail
       refine (HA.out u5 b_5).mono ?_
       clear x0 x1 x2 x3 x4 x5 x6 x7 x8 x9 x10 x11 x12 x13 x14 y0 y1 y2 y3 y4 y5 y6 y7 y8 y9 y10 y11 y12 y13 y14
       rintro e u6 ⟨rfl, hb6⟩
       have b_6 : Below w.heap.size w u6 := (b_5).trans (hb6.mono (b_5).size)
       have l_6 : Below W.heap.size W u6 := (l_5).trans (hb6.mono (l_5).size)
       obtain ⟨x0, x1, x2, x3, x4, x5, x6, x7, x8, x9, x10, x11, x12, x13, x14⟩ := fifteen (HX.out u6 l_6).1
       obtain ⟨y0, y1, y2, y3, y4, y5, y6, y7, y8, y9, y10, y11, y12, y13, y14⟩ := fifteen (HX.out u6 l_6).2
       clear hb6
       cases c6 : sameS r.af.v t.af.v with
       | false =>
        have HR : Hid (R = false) := by rw [Hid, HZ.out]; simp [c0, c1, c2, c3, c4, c5, c6]
        clear HZ
        go_wp2
        go_ret
        exact ⟨ret_bool HR.out.symm, b_6⟩
       | true =>
        cases c7 : (r.next == t.next) with
        | false =>
         have HR : Hid (R = false) := by rw [Hid, HZ.out]; simp [c0, c1, c2, c3, c4, c5, c6, c7]
         clear HZ
         go_wp2
         go_ret
         exact ⟨ret_bool HR.out.symm, b_6⟩
        | true =>
         go_wp2_with fail
         refine (HL.out u6 b_6).mono ?_
         clear x0 x1 x2 x3 x4 x5 x6 x7 x8 x9 x10 x11 x12 x13 x14 y0 y1 y2 y3 y4 y5 y6 y7 y8 y9 y10 y11 y12 y13 y14
         rintro e u8 ⟨rfl, nn, hnn⟩
         have hb8 : Below (u6).heap.size u6 u8 := by rw [hnn]; exact below_drewN (Below.refl _ _) nn
         clear hnn
         have b_8 : Below w.heap.size w u8 := (b_6).trans (hb8.mono (b_6).size)
         have l_8 : Below W.heap.size W u8 := (l_6).trans (hb8.mono (l_6).size)
         have HR : Hid (R = sameLs r.txs t.txs) := by rw [Hid, HZ.out]; simp [c0, c1, c2, c3, c4, c5, c6, c7]
         clear HZ
         go_wp2
         go_ret
         exact ⟨ret_bool HR.out.symm, b_8⟩
end Go.Proofs.YtoboickdkednkabGreatDoor
namespace Go.Proofs.YtoboickdkednkabGreatDoor
open Go.RowKit
def deedB (n : Int) (r : RecV) : Bool :=
 if r.kind == 1 then (linkB n r.tx r.prev && (inB r.oid 1 31 && (slotB r.bf && slotB r.af)))
 else if r.kind == 2 then linkB n r.tx r.prev
 else if r.kind == 3 then linkB n r.tx r.prev
 else if r.kind == 4 then (linkB n r.tx r.prev && (inB r.oid 1 31 && (slotB r.af && inB r.next 0 (n - 1))))
 else if r.kind == 5 then linkB n r.tx r.prev
 else if r.kind == 6 then livesB n r.txs
 else false
def cutA (n : Int) (r : RecA) : RecA :=
 if r.kind == 1 then ⟨n, r.tx, r.prev, 1, r.oid, r.bf, r.af, 0, [], none, 0⟩
 else if r.kind == 2 then recA n r.tx r.prev 2
 else if r.kind == 3 then recA n r.tx r.prev 3
 else if r.kind == 4 then ⟨n, r.tx, r.prev, 4, r.oid, zeroS, r.af, r.next, [], none, 0⟩
 else if r.kind == 5 then recA n r.tx r.prev 5
 else if r.kind == 6 then ⟨n, 0, 0, 6, 0, zeroS, zeroS, 0, r.txs, r.aL, r.cL⟩
 else recA 0 0 0 0
theorem one_fit {s : SlotA} (h : s.v.o.ints.length ≤ 1099511627776 ∧ s.v.o.refs.length ≤ 1099511627776) : Fit [s] := fun t ht => by obtain rfl := List.mem_singleton.1 ht; exact h
theorem deedOk_any (n : Int) (r : RecA) (w : World) (hg : ErrT w) (hr : r.reads w) (hl : r.short 1099511627776) :
  Calls Tryz.prog 155 #[.int .i64 n, deedV r] w fun e w' => e = .returned (.bool (deedB n r.v)) ∧ Below w.heap.size w w' := by
 cases k1 : (r.kind == 1) with
 | true =>
  have e1 : deedV r = issetDeed (setD r.tx r.prev r.oid r.bf r.af) := by simp [deedV, k1]
  have e2 : deedB n r.v = (linkB n r.tx r.prev && (inB r.oid 1 31 && (slotB r.bf.v && slotB r.af.v))) := by simp [deedB, RecA.v, k1]
  rw [e1, e2]
  exact deedOk_set n r.tx r.prev r.oid r.bf r.af w hg hr.bf hr.af (one_fit hl.bf) (one_fit hl.af)
 | false =>
  cases k2 : (r.kind == 2) with
  | true =>
   have e1 : deedV r = iscommitDeed (linkD r.tx r.prev) := by simp [deedV, k1, k2]
   have e2 : deedB n r.v = linkB n r.tx r.prev := by simp [deedB, RecA.v, k1, k2]
   rw [e1, e2]
   exact deedOk_commit n r.tx r.prev w
  | false =>
   cases k3 : (r.kind == 3) with
   | true =>
    have e1 : deedV r = isabortDeed (linkD r.tx r.prev) := by simp [deedV, k1, k2, k3]
    have e2 : deedB n r.v = linkB n r.tx r.prev := by simp [deedB, RecA.v, k1, k2, k3]
    rw [e1, e2]
    exact deedOk_abort n r.tx r.prev w
   | false =>
    cases k4 : (r.kind == 4) with
    | true =>
     have e1 : deedV r = isbackDeed (backD r.tx r.prev r.oid r.af r.next) := by simp [deedV, k1, k2, k3, k4]
     have e2 : deedB n r.v = (linkB n r.tx r.prev && (inB r.oid 1 31 && (slotB r.af.v && inB r.next 0 (n - 1)))) := by simp [deedB, RecA.v, k1, k2, k3, k4]
     rw [e1, e2]
     exact deedOk_back n r.tx r.prev r.oid r.af r.next w hg hr.af (one_fit hl.af)
    | false =>
     cases k5 : (r.kind == 5) with
     | true =>
      have e1 : deedV r = isendDeed (linkD r.tx r.prev) := by simp [deedV, k1, k2, k3, k4, k5]
      have e2 : deedB n r.v = linkB n r.tx r.prev := by simp [deedB, RecA.v, k1, k2, k3, k4, k5]
      rw [e1, e2]
      exact deedOk_end n r.tx r.prev w
     | false =>
      cases k6 : (r.kind == 6) with
      | true =>
       have e1 : deedV r = ischeckDeed (checkD r.txs r.aL r.cL) := by simp [deedV, k1, k2, k3, k4, k5, k6]
       have e2 : deedB n r.v = livesB n r.txs := by simp [deedB, RecA.v, k1, k2, k3, k4, k5, k6]
       rw [e1, e2]
       exact deedOk_check n r.txs r.aL r.cL w hr.txs hl.txs
      | false =>
       have e1 : deedV r = .nilIface := by simp [deedV, k1, k2, k3, k4, k5, k6]
       have e2 : deedB n r.v = false := by simp [deedB, RecA.v, k1, k2, k3, k4, k5, k6]
       rw [e1, e2]
       exact deedOk_nil n w
theorem recOf_any (n : Int) (r : RecA) (w : World) :
  Calls Tryz.prog 157 #[.int .i64 n, deedV r] w fun e w' => e = .returned (.agg (cutA n r).cells.toArray) ∧ Below w.heap.size w w' := by
 cases k1 : (r.kind == 1) with
 | true =>
  have e1 : deedV r = issetDeed (setD r.tx r.prev r.oid r.bf r.af) := by simp [deedV, k1]
  have e2 : cutA n r = ⟨n, r.tx, r.prev, 1, r.oid, r.bf, r.af, 0, [], none, 0⟩ := by simp [cutA, k1]
  rw [e1, e2]
  exact recOf_set n r.tx r.prev r.oid r.bf r.af w
 | false =>
  cases k2 : (r.kind == 2) with
  | true =>
   have e1 : deedV r = iscommitDeed (linkD r.tx r.prev) := by simp [deedV, k1, k2]
   have e2 : cutA n r = recA n r.tx r.prev 2 := by simp [cutA, k1, k2]
   rw [e1, e2]
   exact recOf_commit n r.tx r.prev w
  | false =>
   cases k3 : (r.kind == 3) with
   | true =>
    have e1 : deedV r = isabortDeed (linkD r.tx r.prev) := by simp [deedV, k1, k2, k3]
    have e2 : cutA n r = recA n r.tx r.prev 3 := by simp [cutA, k1, k2, k3]
    rw [e1, e2]
    exact recOf_abort n r.tx r.prev w
   | false =>
    cases k4 : (r.kind == 4) with
    | true =>
     have e1 : deedV r = isbackDeed (backD r.tx r.prev r.oid r.af r.next) := by simp [deedV, k1, k2, k3, k4]
     have e2 : cutA n r = ⟨n, r.tx, r.prev, 4, r.oid, zeroS, r.af, r.next, [], none, 0⟩ := by simp [cutA, k1, k2, k3, k4]
     rw [e1, e2]
     exact recOf_back n r.tx r.prev r.oid r.af r.next w
    | false =>
     cases k5 : (r.kind == 5) with
     | true =>
      have e1 : deedV r = isendDeed (linkD r.tx r.prev) := by simp [deedV, k1, k2, k3, k4, k5]
      have e2 : cutA n r = recA n r.tx r.prev 5 := by simp [cutA, k1, k2, k3, k4, k5]
      rw [e1, e2]
      exact recOf_end n r.tx r.prev w
     | false =>
      cases k6 : (r.kind == 6) with
      | true =>
       have e1 : deedV r = ischeckDeed (checkD r.txs r.aL r.cL) := by simp [deedV, k1, k2, k3, k4, k5, k6]
       have e2 : cutA n r = ⟨n, 0, 0, 6, 0, zeroS, zeroS, 0, r.txs, r.aL, r.cL⟩ := by simp [cutA, k1, k2, k3, k4, k5, k6]
       rw [e1, e2]
       exact recOf_check n r.txs r.aL r.cL w
      | false =>
       have e1 : deedV r = .nilIface := by simp [deedV, k1, k2, k3, k4, k5, k6]
       have e2 : cutA n r = recA 0 0 0 0 := by simp [cutA, k1, k2, k3, k4, k5, k6]
       rw [e1, e2]
       exact recOf_nil n w
theorem cutA_reads (n : Int) {r : RecA} {w : World} (h : r.reads w) : (cutA n r).reads w := by
 have z : zeroS.reads w := ⟨ReadsI.nil _ _, ReadsI.nil _ _, fun _ => rfl, fun _ => rfl⟩
 have y : ReadsL w none [] := ReadsL.nil _ _
 unfold cutA
 split
 ·exact ⟨h.bf, h.af, y⟩
 split
 ·exact ⟨z, z, y⟩
 split
 ·exact ⟨z, z, y⟩
 split
 ·exact ⟨z, h.af, y⟩
 split
 ·exact ⟨z, z, y⟩
 split
 ·exact ⟨z, z, h.txs⟩
 ·exact ⟨z, z, y⟩
theorem cutA_short (n : Int) {r : RecA} {m : Nat} (h : r.short m) : (cutA n r).short m := by
 have z : zeroS.v.o.ints.length ≤ m ∧ zeroS.v.o.refs.length ≤ m := ⟨Nat.zero_le _, Nat.zero_le _⟩
 have y : ([] : List LiveV).length ≤ m := Nat.zero_le _
 unfold cutA
 split
 ·exact ⟨h.bf, h.af, y⟩
 split
 ·exact ⟨z, z, y⟩
 split
 ·exact ⟨z, z, y⟩
 split
 ·exact ⟨z, h.af, y⟩
 split
 ·exact ⟨z, z, y⟩
 split
 ·exact ⟨z, z, h.txs⟩
 ·exact ⟨z, z, y⟩
theorem isNo_same (v : SlotV) : sameS noS v = isNo v := by
 obtain ⟨h, k, i, f⟩ := v
 cases h
 ·simp [sameS, isNo, noS, noO, sameO, eq_comm]
 ·simp [sameS, isNo, noS]
theorem sameS_refl (v : SlotV) : sameS v v = true := by simp [sameS, sameO]
theorem isNo_slot {v : SlotV} (h : isNo v = true) : slotB v = true := by
 obtain ⟨b, k, i, f⟩ := v
 cases b
 ·simp [isNo, sameO] at h
  simp [slotB, h]
 ·simp [isNo] at h
theorem okV_set (n t v o : Int) (b a : SlotV) (x : Int) (l : List LiveV) : ((inB n 1 1000000 && ((linkB n t v && (inB o 1 31 && (slotB b && slotB a))) && sameR ⟨n, t, v, 1, o, b, a, 0, []⟩ ⟨n, t, v, 1, o, b, a, x, l⟩)) = true) ↔ okR ⟨n, t, v, 1, o, b, a, x, l⟩ = true := by
 have hb : isNo b = true → slotB b = true := isNo_slot
 have ha : isNo a = true → slotB a = true := isNo_slot
 simp only [sameR, sameS_refl, sameLs_nil, okR, zeroB, linkB, Bool.and_eq_true, beq_self_eq_true, beq_iff_eq, decide_eq_true_eq, Bool.true_or, Bool.false_or]
 generalize isNo b = ib at *
 generalize isNo a = ia at *
 generalize slotB b = sb at *
 generalize slotB a = sa at *
 by_cases hl : l = []
 all_goals cases ib <;> cases ia <;> cases sb <;> cases sa <;> simp [inB, hl] at hb ha ⊢ <;> omega
theorem okR_set (r : RecA) (hk : r.kind = 1) : ((inB r.lsn 1 1000000 && ((linkB r.lsn r.tx r.prev && (inB r.oid 1 31 && (slotB r.bf.v && slotB r.af.v))) && sameR (RecA.v (⟨r.lsn, r.tx, r.prev, 1, r.oid, r.bf, r.af, 0, [], none, 0⟩)) r.v)) = true) ↔ okR r.v = true := by
 obtain ⟨n, t, v, k, o, b, a, x, l, aL, cL⟩ := r
 simp only at hk
 subst hk
 exact okV_set n t v o b.v a.v x l
theorem okV_commit (n t v o : Int) (b a : SlotV) (x : Int) (l : List LiveV) : ((inB n 1 1000000 && (linkB n t v && sameR ⟨n, t, v, 2, 0, noS, noS, 0, []⟩ ⟨n, t, v, 2, o, b, a, x, l⟩)) = true) ↔ okR ⟨n, t, v, 2, o, b, a, x, l⟩ = true := by
 have hb : isNo b = true → slotB b = true := isNo_slot
 have ha : isNo a = true → slotB a = true := isNo_slot
 simp only [sameR, isNo_same, sameLs_nil, okR, zeroB, linkB, Bool.and_eq_true, beq_self_eq_true, beq_iff_eq, decide_eq_true_eq, Bool.true_or, Bool.false_or]
 generalize isNo b = ib at *
 generalize isNo a = ia at *
 generalize slotB b = sb at *
 generalize slotB a = sa at *
 by_cases hl : l = []
 all_goals cases ib <;> cases ia <;> cases sb <;> cases sa <;> simp [inB, hl] at hb ha ⊢ <;> omega
theorem okR_commit (r : RecA) (hk : r.kind = 2) : ((inB r.lsn 1 1000000 && (linkB r.lsn r.tx r.prev && sameR (RecA.v (recA r.lsn r.tx r.prev 2)) r.v)) = true) ↔ okR r.v = true := by
 obtain ⟨n, t, v, k, o, b, a, x, l, aL, cL⟩ := r
 simp only at hk
 subst hk
 exact okV_commit n t v o b.v a.v x l
theorem okV_abort (n t v o : Int) (b a : SlotV) (x : Int) (l : List LiveV) : ((inB n 1 1000000 && (linkB n t v && sameR ⟨n, t, v, 3, 0, noS, noS, 0, []⟩ ⟨n, t, v, 3, o, b, a, x, l⟩)) = true) ↔ okR ⟨n, t, v, 3, o, b, a, x, l⟩ = true := by
 have hb : isNo b = true → slotB b = true := isNo_slot
 have ha : isNo a = true → slotB a = true := isNo_slot
 simp only [sameR, isNo_same, sameLs_nil, okR, zeroB, linkB, Bool.and_eq_true, beq_self_eq_true, beq_iff_eq, decide_eq_true_eq, Bool.true_or, Bool.false_or]
 generalize isNo b = ib at *
 generalize isNo a = ia at *
 generalize slotB b = sb at *
 generalize slotB a = sa at *
 by_cases hl : l = []
 all_goals cases ib <;> cases ia <;> cases sb <;> cases sa <;> simp [inB, hl] at hb ha ⊢ <;> omega
theorem okR_abort (r : RecA) (hk : r.kind = 3) : ((inB r.lsn 1 1000000 && (linkB r.lsn r.tx r.prev && sameR (RecA.v (recA r.lsn r.tx r.prev 3)) r.v)) = true) ↔ okR r.v = true := by
 obtain ⟨n, t, v, k, o, b, a, x, l, aL, cL⟩ := r
 simp only at hk
 subst hk
 exact okV_abort n t v o b.v a.v x l
theorem okV_back (n t v o : Int) (b a : SlotV) (x : Int) (l : List LiveV) : ((inB n 1 1000000 && ((linkB n t v && (inB o 1 31 && (slotB a && inB x 0 (n - 1)))) && sameR ⟨n, t, v, 4, o, noS, a, x, []⟩ ⟨n, t, v, 4, o, b, a, x, l⟩)) = true) ↔ okR ⟨n, t, v, 4, o, b, a, x, l⟩ = true := by
 have hb : isNo b = true → slotB b = true := isNo_slot
 have ha : isNo a = true → slotB a = true := isNo_slot
 simp only [sameR, isNo_same, sameS_refl, sameLs_nil, okR, zeroB, linkB, Bool.and_eq_true, beq_self_eq_true, beq_iff_eq, decide_eq_true_eq, Bool.true_or, Bool.false_or]
 generalize isNo b = ib at *
 generalize isNo a = ia at *
 generalize slotB b = sb at *
 generalize slotB a = sa at *
 by_cases hl : l = []
 all_goals cases ib <;> cases ia <;> cases sb <;> cases sa <;> simp [inB, hl] at hb ha ⊢ <;> omega
theorem okR_back (r : RecA) (hk : r.kind = 4) : ((inB r.lsn 1 1000000 && ((linkB r.lsn r.tx r.prev && (inB r.oid 1 31 && (slotB r.af.v && inB r.next 0 (r.lsn - 1)))) && sameR (RecA.v (⟨r.lsn, r.tx, r.prev, 4, r.oid, zeroS, r.af, r.next, [], none, 0⟩)) r.v)) = true) ↔ okR r.v = true := by
 obtain ⟨n, t, v, k, o, b, a, x, l, aL, cL⟩ := r
 simp only at hk
 subst hk
 exact okV_back n t v o b.v a.v x l
theorem okV_end (n t v o : Int) (b a : SlotV) (x : Int) (l : List LiveV) : ((inB n 1 1000000 && (linkB n t v && sameR ⟨n, t, v, 5, 0, noS, noS, 0, []⟩ ⟨n, t, v, 5, o, b, a, x, l⟩)) = true) ↔ okR ⟨n, t, v, 5, o, b, a, x, l⟩ = true := by
 have hb : isNo b = true → slotB b = true := isNo_slot
 have ha : isNo a = true → slotB a = true := isNo_slot
 simp only [sameR, isNo_same, sameLs_nil, okR, zeroB, linkB, Bool.and_eq_true, beq_self_eq_true, beq_iff_eq, decide_eq_true_eq, Bool.true_or, Bool.false_or]
 generalize isNo b = ib at *
 generalize isNo a = ia at *
 generalize slotB b = sb at *
 generalize slotB a = sa at *
 by_cases hl : l = []
 all_goals cases ib <;> cases ia <;> cases sb <;> cases sa <;> simp [inB, hl] at hb ha ⊢ <;> omega
theorem okR_end (r : RecA) (hk : r.kind = 5) : ((inB r.lsn 1 1000000 && (linkB r.lsn r.tx r.prev && sameR (RecA.v (recA r.lsn r.tx r.prev 5)) r.v)) = true) ↔ okR r.v = true := by
 obtain ⟨n, t, v, k, o, b, a, x, l, aL, cL⟩ := r
 simp only at hk
 subst hk
 exact okV_end n t v o b.v a.v x l
theorem okV_check (n t v o : Int) (b a : SlotV) (x : Int) (l : List LiveV) : ((inB n 1 1000000 && (livesB n l && sameR ⟨n, 0, 0, 6, 0, noS, noS, 0, l⟩ ⟨n, t, v, 6, o, b, a, x, l⟩)) = true) ↔ okR ⟨n, t, v, 6, o, b, a, x, l⟩ = true := by
 have hb : isNo b = true → slotB b = true := isNo_slot
 have ha : isNo a = true → slotB a = true := isNo_slot
 simp only [sameR, isNo_same, sameLs_refl, okR, zeroB, Bool.and_eq_true, beq_self_eq_true, beq_iff_eq, Bool.true_or, Bool.false_or]
 generalize isNo b = ib at *
 generalize isNo a = ia at *
 generalize slotB b = sb at *
 generalize slotB a = sa at *
 generalize livesB n l = L at *
 all_goals cases L <;> cases ib <;> cases ia <;> cases sb <;> cases sa <;> simp [inB] at hb ha ⊢ <;> omega
theorem okR_check (r : RecA) (hk : r.kind = 6) : ((inB r.lsn 1 1000000 && (livesB r.lsn r.txs && sameR (RecA.v (⟨r.lsn, 0, 0, 6, 0, zeroS, zeroS, 0, r.txs, r.aL, r.cL⟩)) r.v)) = true) ↔ okR r.v = true := by
 obtain ⟨n, t, v, k, o, b, a, x, l, aL, cL⟩ := r
 simp only at hk
 subst hk
 exact okV_check n t v o b.v a.v x l
theorem okR_eq (r : RecA) : (inB r.lsn 1 1000000 && (deedB r.lsn r.v && sameR (cutA r.lsn r).v r.v)) = okR r.v := by
 rw [Bool.eq_iff_iff]
 cases k1 : (r.kind == 1) with
 | true =>
  have e2 : deedB r.lsn r.v = (linkB r.lsn r.tx r.prev && (inB r.oid 1 31 && (slotB r.bf.v && slotB r.af.v))) := by simp [deedB, RecA.v, k1]
  have e3 : cutA r.lsn r = ⟨r.lsn, r.tx, r.prev, 1, r.oid, r.bf, r.af, 0, [], none, 0⟩ := by simp [cutA, k1]
  rw [e2, e3]
  have hk : r.kind = 1 := by simpa using k1
  exact okR_set _ (by simpa using k1)
 | false =>
  cases k2 : (r.kind == 2) with
  | true =>
   have e2 : deedB r.lsn r.v = linkB r.lsn r.tx r.prev := by simp [deedB, RecA.v, k1, k2]
   have e3 : cutA r.lsn r = recA r.lsn r.tx r.prev 2 := by simp [cutA, k1, k2]
   rw [e2, e3]
   have hk : r.kind = 2 := by simpa using k2
   exact okR_commit _ (by simpa using k2)
  | false =>
   cases k3 : (r.kind == 3) with
   | true =>
    have e2 : deedB r.lsn r.v = linkB r.lsn r.tx r.prev := by simp [deedB, RecA.v, k1, k2, k3]
    have e3 : cutA r.lsn r = recA r.lsn r.tx r.prev 3 := by simp [cutA, k1, k2, k3]
    rw [e2, e3]
    have hk : r.kind = 3 := by simpa using k3
    exact okR_abort _ (by simpa using k3)
   | false =>
    cases k4 : (r.kind == 4) with
    | true =>
     have e2 : deedB r.lsn r.v = (linkB r.lsn r.tx r.prev && (inB r.oid 1 31 && (slotB r.af.v && inB r.next 0 (r.lsn - 1)))) := by simp [deedB, RecA.v, k1, k2, k3, k4]
     have e3 : cutA r.lsn r = ⟨r.lsn, r.tx, r.prev, 4, r.oid, zeroS, r.af, r.next, [], none, 0⟩ := by simp [cutA, k1, k2, k3, k4]
     rw [e2, e3]
     have hk : r.kind = 4 := by simpa using k4
     exact okR_back _ (by simpa using k4)
    | false =>
     cases k5 : (r.kind == 5) with
     | true =>
      have e2 : deedB r.lsn r.v = linkB r.lsn r.tx r.prev := by simp [deedB, RecA.v, k1, k2, k3, k4, k5]
      have e3 : cutA r.lsn r = recA r.lsn r.tx r.prev 5 := by simp [cutA, k1, k2, k3, k4, k5]
      rw [e2, e3]
      have hk : r.kind = 5 := by simpa using k5
      exact okR_end _ (by simpa using k5)
     | false =>
      cases k6 : (r.kind == 6) with
      | true =>
       have e2 : deedB r.lsn r.v = livesB r.lsn r.txs := by simp [deedB, RecA.v, k1, k2, k3, k4, k5, k6]
       have e3 : cutA r.lsn r = ⟨r.lsn, 0, 0, 6, 0, zeroS, zeroS, 0, r.txs, r.aL, r.cL⟩ := by simp [cutA, k1, k2, k3, k4, k5, k6]
       rw [e2, e3]
       have hk : r.kind = 6 := by simpa using k6
       exact okR_check _ (by simpa using k6)
      | false =>
       have e2 : deedB r.lsn r.v = false := by simp [deedB, RecA.v, k1, k2, k3, k4, k5, k6]
       have e3 : okR r.v = false := by simp [okR, RecA.v, k1, k2, k3, k4, k5, k6]
       rw [e2, e3]
       simp
theorem implRecOk_any (r : RecA) (w : World) (hg : ErrT w) (hr : r.reads w) (hl : r.short 1099511627776) :
  Calls Tryz.prog 101 #[.agg r.cells.toArray] w fun e w' => e = .returned (.bool (okR r.v)) ∧ Below w.heap.size w w' := by
 obtain ⟨W, hW, b0, hbW, hsW⟩ := boxes1 w r.cells 85
 have HZ : Hid (okR r.v = _) := (okR_eq r).symm
 have HX : Hid (∀ u, Below W.heap.size W u → Box u w.heap.size r.cells 85) := fun u hu => b0.below hu b0.lt
 have C1 := deedOf_any r W
 have HD : Hid (∀ u, Below w.heap.size w u → Calls _ _ _ _ _) := fun u hu => deedOk_any r.lsn r u (hg.keep hu) (hr.below hu) hl
 have HM : Hid (∀ u, Below w.heap.size w u → Calls _ _ _ _ _) := fun u hu => sameRec_any (cutA r.lsn r) r u (cutA_reads r.lsn (hr.below hu)) (hr.below hu) (cutA_short r.lsn hl) hl
 generalize okR r.v = R at *
 generalize deedB r.lsn r.v = G at *
 generalize sameR (cutA r.lsn r).v r.v = M at *
 have HN : Hid (∀ u, Calls _ _ _ _ _) := fun u => recOf_any r.lsn r u
 generalize deedV r = D at *
 generalize cutA r.lsn r = cc at *
 simp only [RecA.cells] at *
 have HC : Hid (∀ w', Box w' w.heap.size [.int .i64 r.lsn, .int .i64 r.tx, .int .i64 r.prev, .int .i64 r.kind, .int .i64 r.oid, .bool r.bf.v.has, .int .i64 r.bf.v.o.kind, .slice r.bf.aI r.bf.v.o.ints.length r.bf.cI, .slice r.bf.aR r.bf.v.o.refs.length r.bf.cR, .bool r.af.v.has, .int .i64 r.af.v.o.kind, .slice r.af.aI r.af.v.o.ints.length r.af.cI, .slice r.af.aR r.af.v.o.refs.length r.af.cR, .int .i64 r.next, .slice r.aL r.txs.length r.cL] 85 → w'.cell? ⟨w.heap.size, 0, none⟩ = some (.int .i64 r.lsn) ∧ w'.cell? ⟨w.heap.size, 1, none⟩ = some (.int .i64 r.tx) ∧ w'.cell? ⟨w.heap.size, 2, none⟩ = some (.int .i64 r.prev) ∧ w'.cell? ⟨w.heap.size, 3, none⟩ = some (.int .i64 r.kind) ∧ w'.cell? ⟨w.heap.size, 4, none⟩ = some (.int .i64 r.oid) ∧ w'.cell? ⟨w.heap.size, 5, none⟩ = some (.bool r.bf.v.has) ∧ w'.cell? ⟨w.heap.size, 6, none⟩ = some (.int .i64 r.bf.v.o.kind) ∧ w'.cell? ⟨w.heap.size, 7, none⟩ = some (.slice r.bf.aI r.bf.v.o.ints.length r.bf.cI) ∧ w'.cell? ⟨w.heap.size, 8, none⟩ = some (.slice r.bf.aR r.bf.v.o.refs.length r.bf.cR) ∧ w'.cell? ⟨w.heap.size, 9, none⟩ = some (.bool r.af.v.has) ∧ w'.cell? ⟨w.heap.size, 10, none⟩ = some (.int .i64 r.af.v.o.kind) ∧ w'.cell? ⟨w.heap.size, 11, none⟩ = some (.slice r.af.aI r.af.v.o.ints.length r.af.cI) ∧ w'.cell? ⟨w.heap.size, 12, none⟩ = some (.slice r.af.aR r.af.v.o.refs.length r.af.cR) ∧ w'.cell? ⟨w.heap.size, 13, none⟩ = some (.int .i64 r.next) ∧ w'.cell? ⟨w.heap.size, 14, none⟩ = some (.slice r.aL r.txs.length r.cL)) := fun w' b => fifteen b
 obtain ⟨x0, x1, x2, x3, x4, x5, x6, x7, x8, x9, x10, x11, x12, x13, x14⟩ := HC.out W b0
 clear hsW b0 hg hr hl
 go_enter Tryz.func101, Tryz.ntmps101
 go_wp2_with fail
 rw [hW.out]
 clear hW
 refine C1.mono ?_
 clear C1 x0 x1 x2 x3 x4 x5 x6 x7 x8 x9 x10 x11 x12 x13 x14
 rintro e w1 ⟨rfl, hb1⟩
 have B1 : Below w.heap.size w w1 := hbW.trans (hb1.mono hbW.size)
 have hh := HC.out w1 (HX.out _ hb1)
 by_cases h1 : 1 ≤ r.lsn
 case neg =>
  have HR : Hid (R = false) := by rw [Hid, HZ.out]; simp [inB]; omega
  have hd : decide (1 ≤ r.lsn) = false := by simp; omega
  clear HZ HD HM HN h1
  go_wp2_with fail
  obtain ⟨x0, x1, x2, x3, x4, x5, x6, x7, x8, x9, x10, x11, x12, x13, x14⟩ := hh
  go_quiet (fail)
  go_wp2
  go_ret
  exact ⟨ret_bool HR.out.symm, below_drewN B1 _⟩
 case pos =>
 by_cases h2 : r.lsn ≤ 1000000
 case neg =>
  have HR : Hid (R = false) := by rw [Hid, HZ.out]; simp [inB]; omega
  have hd : decide (1 ≤ r.lsn) = true := by simp; omega
  have hd2 : decide (r.lsn ≤ 1000000) = false := by simp; omega
  clear HZ HD HM HN h1 h2
  go_wp2_with fail
  obtain ⟨x0, x1, x2, x3, x4, x5, x6, x7, x8, x9, x10, x11, x12, x13, x14⟩ := hh
  go_quiet (fail)
  go_wp2
  go_ret
  exact ⟨ret_bool HR.out.symm, below_drewN B1 _⟩
 case pos =>
 have h12 : inB r.lsn 1 1000000 = true := by simp [inB]; omega
 cases G with
 | false =>
  have HR : Hid (R = false) := by rw [Hid, HZ.out]; simp
  clear HZ HM HN h12
  go_wp2_with fail
  refine wp_region_held_drew (S := fun w' => w'.cell? ⟨w.heap.size, 0, none⟩ = some (.int .i64 r.lsn) ∧ w'.cell? ⟨w.heap.size, 1, none⟩ = some (.int .i64 r.tx) ∧ w'.cell? ⟨w.heap.size, 2, none⟩ = some (.int .i64 r.prev) ∧ w'.cell? ⟨w.heap.size, 3, none⟩ = some (.int .i64 r.kind) ∧ w'.cell? ⟨w.heap.size, 4, none⟩ = some (.int .i64 r.oid) ∧ w'.cell? ⟨w.heap.size, 5, none⟩ = some (.bool r.bf.v.has) ∧ w'.cell? ⟨w.heap.size, 6, none⟩ = some (.int .i64 r.bf.v.o.kind) ∧ w'.cell? ⟨w.heap.size, 7, none⟩ = some (.slice r.bf.aI r.bf.v.o.ints.length r.bf.cI) ∧ w'.cell? ⟨w.heap.size, 8, none⟩ = some (.slice r.bf.aR r.bf.v.o.refs.length r.bf.cR) ∧ w'.cell? ⟨w.heap.size, 9, none⟩ = some (.bool r.af.v.has) ∧ w'.cell? ⟨w.heap.size, 10, none⟩ = some (.int .i64 r.af.v.o.kind) ∧ w'.cell? ⟨w.heap.size, 11, none⟩ = some (.slice r.af.aI r.af.v.o.ints.length r.af.cI) ∧ w'.cell? ⟨w.heap.size, 12, none⟩ = some (.slice r.af.aR r.af.v.o.refs.length r.af.cR) ∧ w'.cell? ⟨w.heap.size, 13, none⟩ = some (.int .i64 r.next) ∧ w'.cell? ⟨w.heap.size, 14, none⟩ = some (.slice r.aL r.txs.length r.cL)) (by kernel_rfl) (HC.out _ (HX.out _ hb1.drew)) (fun hHeld => ?_)
  refine tk 0 (v := .pointer (some ⟨w.heap.size, 0, none⟩)) rfl (Or.inl ⟨by rfl, ?_⟩) hHeld ?_
  ·intro w' hSw
   go_simp <;> rfl
  try simp only [Act.put, zA, zB, zD, zE, zF]
  refine tk 1 (v := .int .i64 r.lsn) rfl (Or.inl ⟨by rfl, ?_⟩) hHeld ?_
  ·intro w' hSw
   go_simp <;> rfl
  try simp only [Act.put, zA, zB, zC, zD, zE, zF]
  refine tk 2 (v := .bool true) rfl (Or.inl ⟨by rfl, ?_⟩) hHeld ?_
  ·intro w' hSw
   go_simp <;> rfl
  try simp only [Act.put, zA, zB, zC, zD, zE, zF]
  refine tk 3 (v := .bool true) rfl (Or.inl ⟨by rfl, ?_⟩) hHeld ?_
  ·intro w' hSw
   go_simp <;> rfl
  try simp only [Act.put, zA, zB, zC, zD, zE, zF]
  refine tk 4 (v := .pointer (some ⟨w.heap.size, 0, none⟩)) rfl (Or.inl ⟨by rfl, ?_⟩) hHeld ?_
  ·intro w' hSw
   go_simp <;> rfl
  try simp only [Act.put, zA, zB, zC, zD, zE, zF]
  refine tk 5 (v := .int .i64 r.lsn) rfl (Or.inl ⟨by rfl, ?_⟩) hHeld ?_
  ·intro w' hSw
   go_simp <;> rfl
  try simp only [Act.put, zA, zB, zC, zD, zE, zF]
  refine tk 6 (v := .bool true) rfl (Or.inl ⟨by rfl, ?_⟩) hHeld ?_
  ·intro w' hSw
   go_simp <;> rfl
  try simp only [Act.put, zA, zB, zC, zD, zE, zF]
  refine tk 7 (v := .bool true) rfl (Or.inl ⟨by rfl, ?_⟩) hHeld ?_
  ·intro w' hSw
   go_simp <;> rfl
  try simp only [Act.put, zA, zB, zC, zD, zE, zF]
  refine tk 8 (v := .bool true) rfl (Or.inl ⟨by rfl, ?_⟩) hHeld ?_
  ·intro w' hSw
   go_simp <;> rfl
  try simp only [Act.put, zA, zB, zC, zD, zE, zF]
  refine tk 9 (v := .pointer (some ⟨w.heap.size, 0, none⟩)) rfl (Or.inl ⟨by rfl, ?_⟩) hHeld ?_
  ·intro w' hSw
   go_simp <;> rfl
  try simp only [Act.put, zA, zB, zC, zD, zE, zF]
  refine tk 10 (v := .int .i64 r.lsn) rfl (Or.inl ⟨by rfl, ?_⟩) hHeld ?_
  ·intro w' hSw
   go_simp <;> rfl
  try simp only [Act.put, zA, zB, zC, zD, zE, zF]
  refine tk 11 (v := D) rfl (Or.inl ⟨by rfl, ?_⟩) hHeld ?_
  ·intro w' hSw
   go_simp <;> rfl
  try simp only [Act.put, zA, zB, zC, zD, zE, zF]
  refine wpAnyH_ready (rs := [12]) (by kernel_rfl) (by simp) ?_
  refine AllReadyH.cons rfl (fun K hK => ?_) AllReadyH.nil
  go_simp
  refine (HD.out _ B1.drew).mono ?_
  rintro e u2 ⟨rfl, hbu2⟩
  have hBu2 : Below W.heap.size W u2 := (hb1.drew).trans (hbu2.mono (hb1.drew).size)
  refine hK.out _ _ (HC.out _ (HX.out _ hBu2)) (fun hHeld => ?_)
  clear hK K
  try simp only [Act.put, zA, zB, zC, zD, zE, zF]
  refine tk 13 (v := .bool false) rfl (Or.inl ⟨by rfl, ?_⟩) hHeld ?_
  ·intro w' hSw
   go_simp <;> rfl
  try simp only [Act.put, zA, zB, zC, zD, zE, zF]
  refine tk 14 (v := .bool false) rfl (Or.inl ⟨by rfl, ?_⟩) hHeld ?_
  ·intro w' hSw
   go_simp <;> rfl
  try simp only [Act.put, zA, zB, zC, zD, zE, zF]
  refine tk 15 (v := undef) rfl (Or.inr ⟨by rfl, rfl⟩) hHeld ?_
  try simp only [Act.put, zA, zB, zC, zD, zE, zF]
  refine tk 16 (v := undef) rfl (Or.inr ⟨by rfl, rfl⟩) hHeld ?_
  try simp only [Act.put, zA, zB, zC, zD, zE, zF]
  refine tk 17 (v := undef) rfl (Or.inr ⟨by rfl, rfl⟩) hHeld ?_
  try simp only [Act.put, zA, zB, zC, zD, zE, zF]
  refine tk 18 (v := undef) rfl (Or.inr ⟨by rfl, rfl⟩) hHeld ?_
  try simp only [Act.put, zA, zB, zC, zD, zE, zF]
  refine tk 19 (v := undef) rfl (Or.inr ⟨by rfl, rfl⟩) hHeld ?_
  try simp only [Act.put, zA, zB, zC, zD, zE, zF]
  refine tk 20 (v := undef) rfl (Or.inr ⟨by rfl, rfl⟩) hHeld ?_
  try simp only [Act.put, zA, zB, zC, zD, zE, zF]
  refine tk 21 (v := .bool false) rfl (Or.inl ⟨by rfl, ?_⟩) hHeld ?_
  ·intro w' hSw
   go_simp <;> rfl
  try simp only [Act.put, zA, zB, zC, zD, zE, zF]
  refine tk 22 (v := .bool false) rfl (Or.inl ⟨by rfl, ?_⟩) hHeld ?_
  ·intro w' hSw
   go_simp <;> rfl
  try simp only [Act.put, zA, zB, zC, zD, zE, zF]
  refine wpAnyH_done (by kernel_rfl) ?_ _
  go_wp2
  go_ret
  exact ⟨ret_bool HR.out.symm, hbW.trans (hBu2.mono hbW.size)⟩
 | true =>
  have HR : Hid (R = M) := by rw [Hid, HZ.out, h12]; simp
  clear HZ h12
  go_wp2_with fail
  refine wp_region_held_drew (S := fun w' => w'.cell? ⟨w.heap.size, 0, none⟩ = some (.int .i64 r.lsn) ∧ w'.cell? ⟨w.heap.size, 1, none⟩ = some (.int .i64 r.tx) ∧ w'.cell? ⟨w.heap.size, 2, none⟩ = some (.int .i64 r.prev) ∧ w'.cell? ⟨w.heap.size, 3, none⟩ = some (.int .i64 r.kind) ∧ w'.cell? ⟨w.heap.size, 4, none⟩ = some (.int .i64 r.oid) ∧ w'.cell? ⟨w.heap.size, 5, none⟩ = some (.bool r.bf.v.has) ∧ w'.cell? ⟨w.heap.size, 6, none⟩ = some (.int .i64 r.bf.v.o.kind) ∧ w'.cell? ⟨w.heap.size, 7, none⟩ = some (.slice r.bf.aI r.bf.v.o.ints.length r.bf.cI) ∧ w'.cell? ⟨w.heap.size, 8, none⟩ = some (.slice r.bf.aR r.bf.v.o.refs.length r.bf.cR) ∧ w'.cell? ⟨w.heap.size, 9, none⟩ = some (.bool r.af.v.has) ∧ w'.cell? ⟨w.heap.size, 10, none⟩ = some (.int .i64 r.af.v.o.kind) ∧ w'.cell? ⟨w.heap.size, 11, none⟩ = some (.slice r.af.aI r.af.v.o.ints.length r.af.cI) ∧ w'.cell? ⟨w.heap.size, 12, none⟩ = some (.slice r.af.aR r.af.v.o.refs.length r.af.cR) ∧ w'.cell? ⟨w.heap.size, 13, none⟩ = some (.int .i64 r.next) ∧ w'.cell? ⟨w.heap.size, 14, none⟩ = some (.slice r.aL r.txs.length r.cL)) (by kernel_rfl) (HC.out _ (HX.out _ hb1.drew)) (fun hHeld => ?_)
  refine tk 0 (v := .pointer (some ⟨w.heap.size, 0, none⟩)) rfl (Or.inl ⟨by rfl, ?_⟩) hHeld ?_
  ·intro w' hSw
   go_simp <;> rfl
  try simp only [Act.put, zA, zB, zD, zE, zF]
  refine tk 1 (v := .int .i64 r.lsn) rfl (Or.inl ⟨by rfl, ?_⟩) hHeld ?_
  ·intro w' hSw
   go_simp <;> rfl
  try simp only [Act.put, zA, zB, zC, zD, zE, zF]
  refine tk 2 (v := .bool true) rfl (Or.inl ⟨by rfl, ?_⟩) hHeld ?_
  ·intro w' hSw
   go_simp <;> rfl
  try simp only [Act.put, zA, zB, zC, zD, zE, zF]
  refine tk 3 (v := .bool true) rfl (Or.inl ⟨by rfl, ?_⟩) hHeld ?_
  ·intro w' hSw
   go_simp <;> rfl
  try simp only [Act.put, zA, zB, zC, zD, zE, zF]
  refine tk 4 (v := .pointer (some ⟨w.heap.size, 0, none⟩)) rfl (Or.inl ⟨by rfl, ?_⟩) hHeld ?_
  ·intro w' hSw
   go_simp <;> rfl
  try simp only [Act.put, zA, zB, zC, zD, zE, zF]
  refine tk 5 (v := .int .i64 r.lsn) rfl (Or.inl ⟨by rfl, ?_⟩) hHeld ?_
  ·intro w' hSw
   go_simp <;> rfl
  try simp only [Act.put, zA, zB, zC, zD, zE, zF]
  refine tk 6 (v := .bool true) rfl (Or.inl ⟨by rfl, ?_⟩) hHeld ?_
  ·intro w' hSw
   go_simp <;> rfl
  try simp only [Act.put, zA, zB, zC, zD, zE, zF]
  refine tk 7 (v := .bool true) rfl (Or.inl ⟨by rfl, ?_⟩) hHeld ?_
  ·intro w' hSw
   go_simp <;> rfl
  try simp only [Act.put, zA, zB, zC, zD, zE, zF]
  refine tk 8 (v := .bool true) rfl (Or.inl ⟨by rfl, ?_⟩) hHeld ?_
  ·intro w' hSw
   go_simp <;> rfl
  try simp only [Act.put, zA, zB, zC, zD, zE, zF]
  refine tk 9 (v := .pointer (some ⟨w.heap.size, 0, none⟩)) rfl (Or.inl ⟨by rfl, ?_⟩) hHeld ?_
  ·intro w' hSw
   go_simp <;> rfl
  try simp only [Act.put, zA, zB, zC, zD, zE, zF]
  refine tk 10 (v := .int .i64 r.lsn) rfl (Or.inl ⟨by rfl, ?_⟩) hHeld ?_
  ·intro w' hSw
   go_simp <;> rfl
  try simp only [Act.put, zA, zB, zC, zD, zE, zF]
  refine tk 11 (v := D) rfl (Or.inl ⟨by rfl, ?_⟩) hHeld ?_
  ·intro w' hSw
   go_simp <;> rfl
  try simp only [Act.put, zA, zB, zC, zD, zE, zF]
  refine wpAnyH_ready (rs := [12]) (by kernel_rfl) (by simp) ?_
  refine AllReadyH.cons rfl (fun K hK => ?_) AllReadyH.nil
  go_simp
  refine (HD.out _ B1.drew).mono ?_
  rintro e u2 ⟨rfl, hbu2⟩
  have hBu2 : Below W.heap.size W u2 := (hb1.drew).trans (hbu2.mono (hb1.drew).size)
  refine hK.out _ _ (HC.out _ (HX.out _ hBu2)) (fun hHeld => ?_)
  clear hK K
  try simp only [Act.put, zA, zB, zC, zD, zE, zF]
  refine tk 13 (v := .bool true) rfl (Or.inl ⟨by rfl, ?_⟩) hHeld ?_
  ·intro w' hSw
   go_simp <;> rfl
  try simp only [Act.put, zA, zB, zC, zD, zE, zF]
  refine tk 14 (v := .bool true) rfl (Or.inl ⟨by rfl, ?_⟩) hHeld ?_
  ·intro w' hSw
   go_simp <;> rfl
  try simp only [Act.put, zA, zB, zC, zD, zE, zF]
  refine tk 15 (v := .pointer (some ⟨w.heap.size, 0, none⟩)) rfl (Or.inl ⟨by rfl, ?_⟩) hHeld ?_
  ·intro w' hSw
   go_simp <;> rfl
  try simp only [Act.put, zA, zB, zC, zD, zE, zF]
  refine tk 16 (v := .int .i64 r.lsn) rfl (Or.inl ⟨by rfl, ?_⟩) hHeld ?_
  ·intro w' hSw
   go_simp <;> rfl
  try simp only [Act.put, zA, zB, zC, zD, zE, zF]
  refine tk 17 (v := D) rfl (Or.inl ⟨by rfl, ?_⟩) hHeld ?_
  ·intro w' hSw
   go_simp <;> rfl
  try simp only [Act.put, zA, zB, zC, zD, zE, zF]
  refine tk 19 (v := .agg #[.int .i64 r.lsn, .int .i64 r.tx, .int .i64 r.prev, .int .i64 r.kind, .int .i64 r.oid, .bool r.bf.v.has, .int .i64 r.bf.v.o.kind, .slice r.bf.aI r.bf.v.o.ints.length r.bf.cI, .slice r.bf.aR r.bf.v.o.refs.length r.bf.cR, .bool r.af.v.has, .int .i64 r.af.v.o.kind, .slice r.af.aI r.af.v.o.ints.length r.af.cI, .slice r.af.aR r.af.v.o.refs.length r.af.cR, .int .i64 r.next, .slice r.aL r.txs.length r.cL]) rfl (Or.inl ⟨by rfl, ?_⟩) hHeld ?_
  ·intro w' hSw
   go_simp <;> rfl
  try simp only [Act.put, zA, zB, zC, zD, zE, zF]
  refine wpAnyH_ready (rs := [18]) (by kernel_rfl) (by simp) ?_
  refine AllReadyH.cons rfl (fun K hK => ?_) AllReadyH.nil
  go_simp
  refine (HN.out _).mono ?_
  rintro e u3 ⟨rfl, hbu3⟩
  have hBu3 : Below W.heap.size W u3 := (hBu2).trans (hbu3.mono (hBu2).size)
  refine hK.out _ _ (HC.out _ (HX.out _ hBu3)) (fun hHeld => ?_)
  clear hK K
  try simp only [Act.put, zA, zB, zC, zD, zE, zF]
  refine wpAnyH_ready (rs := [20]) (by kernel_rfl) (by simp) ?_
  refine AllReadyH.cons rfl (fun K hK => ?_) AllReadyH.nil
  go_simp
  refine (HM.out _ (hbW.trans (hBu3.mono hbW.size))).mono ?_
  rintro e u4 ⟨rfl, hbu4⟩
  have hBu4 : Below W.heap.size W u4 := (hBu3).trans (hbu4.mono (hBu3).size)
  refine hK.out _ _ (HC.out _ (HX.out _ hBu4)) (fun hHeld => ?_)
  clear hK K
  try simp only [Act.put, zA, zB, zC, zD, zE, zF]
  refine tk 21 (v := .bool M) rfl (Or.inl ⟨by rfl, ?_⟩) hHeld ?_
  ·intro w' hSw
   go_simp <;> rfl
  try simp only [Act.put, zA, zB, zC, zD, zE, zF]
  refine tk 22 (v := .bool M) rfl (Or.inl ⟨by rfl, ?_⟩) hHeld ?_
  ·intro w' hSw
   go_simp <;> rfl
  try simp only [Act.put, zA, zB, zC, zD, zE, zF]
  refine wpAnyH_done (by kernel_rfl) ?_ _
  go_wp2
  go_ret
  exact ⟨ret_bool HR.out.symm, hbW.trans (hBu4.mono hbW.size)⟩
end Go.Proofs.YtoboickdkednkabGreatDoor