/- Several texts in one, in their order. -/
import Derived.Test.YtoboickdkednkabDoorPBringx11
import Derived.Deep.RegionHeld3
import Derived.Test.YtoboickdkednkabDoorPBringx8
import Derived.Test.YtoboickdkednkabDoorPBringx9
import Derived.Deep.MidRow
import Derived.Test.YtoboickdkednkabDoorPBringx7
import Derived.Test.YtoboickdkednkabDoorPBringx5
import Derived.BigQuiet
import Derived.Test.YtoboickdkednkabDoorPBringx1
set_option maxHeartbeats 8000000
set_option maxRecDepth 100000
namespace Go.Proofs.YtoboickdkednkabDoor
open Go.RowKit
theorem repSt_len (n : Nat) (r : SeatA) : (List.replicate n r).length = n := by simp
theorem zero_cellsSts (n : Nat) : (madeCells (Value.agg zeroSt.cells.toArray).cells (n * 20)).toList = cellsSts (List.replicate n zeroSt) := by
 apply List.ext_getElem?
 intro i
 by_cases h : i < n * 20
 ·have e := cellsSts_at (List.replicate n zeroSt) (i / 20) (i % 20) (by simp; omega) (Nat.mod_lt _ (by omega))
  rw [show i / 20 * 20 + i % 20 = i by omega] at e
  rw [e]
  have hg : (List.replicate n zeroSt).getD (i / 20) zeroSt = zeroSt := by simp [List.getD, show i / 20 < n by omega]
  rw [hg]
  simp only [madeCells, Array.toList_map, List.getElem?_map, Array.toList_range, List.getElem?_range h, Option.map_some]
  have hm : i % 20 < 20 := Nat.mod_lt _ (by omega)
  have hz : ∀ j, j < 20 → some ((Value.agg zeroSt.cells.toArray).cells[j]!) = zeroSt.cells[j]? := by
   intro j hj
   rcases (by omega : j = 0 ∨ j = 1 ∨ j = 2 ∨ j = 3 ∨ j = 4 ∨ j = 5 ∨ j = 6 ∨ j = 7 ∨ j = 8 ∨ j = 9 ∨ j = 10 ∨ j = 11 ∨ j = 12 ∨ j = 13 ∨ j = 14 ∨ j = 15 ∨ j = 16 ∨ j = 17 ∨ j = 18 ∨ j = 19) with rfl | rfl | rfl | rfl | rfl | rfl | rfl | rfl | rfl | rfl | rfl | rfl | rfl | rfl | rfl | rfl | rfl | rfl | rfl | rfl <;> rfl
  exact hz _ hm
 ·rw [List.getElem?_eq_none (by simp [size_madeCells]; omega), List.getElem?_eq_none (by rw [cellsSts_len]; simp; omega)]
theorem own_zeroSts {w : World} {lo hi g c : Nat} (n : Nat) (h : w.ownsRow lo 45 20 (.slice (some ⟨g, 0, none⟩) n c) n (cellsSts (List.replicate n zeroSt))) (ht : hi ≤ w.heap.size) (hg : g < hi) : OwnSts w lo hi (some ⟨g, 0, none⟩) c (List.replicate n zeroSt) := by
 refine ⟨by rw [repSt_len]; exact h, ht, fun k hk => by cases hk; exact hg, fun r hr => ?_, ?_⟩
 ·rw [(List.mem_replicate.1 hr).2]
  exact zeroSt_own' w lo hi ht
 ·have e : (List.replicate n zeroSt).flatMap SeatA.blocks = [] := by
   rw [List.flatMap_eq_nil_iff]
   intro r hr
   rw [(List.mem_replicate.1 hr).2]
   rfl
  rw [e]
  simp [Value.ownBlock]
def CameSt (rs ts : List SeatA) (k : Nat) : Prop := ts.length = k ∧ ts.map SeatA.v = (rs.take k).map SeatA.v
theorem cameSt_none (rs : List SeatA) : CameSt rs [] 0 := ⟨rfl, by simp⟩
theorem CameSt.snoc {rs ts : List SeatA} {k : Nat} (h : CameSt rs ts k) (hk : k < rs.length) {q : SeatA} (hq : q.v = (rs.getD k zeroSt).v) : CameSt rs (ts ++ [q]) (k + 1) := by
 refine ⟨by simp [h.1], ?_⟩
 have e : rs.getD k zeroSt = rs[k] := by simp [List.getD, hk]
 rw [List.map_append, h.2, List.take_succ_eq_append_getElem hk, List.map_append, List.map_singleton, List.map_singleton, hq, e]
theorem CameSt.all {rs ts : List SeatA} (h : CameSt rs ts rs.length) : ts.map SeatA.v = rs.map SeatA.v := by
 have := h.2
 rwa [List.take_length] at this
theorem rangeSt_below {w w' : World} {b o : Nat} {r : SeatA} (h : w.rangeAt b o r.cells) (hb : Below w.heap.size w w') : w'.rangeAt b o r.cells := rangeAt_below h hb (rangeSt_lt h)
theorem toSeatS_any (a : Option Addr) (cap : Nat) (rs : List SeatA) (w : World) (hr : ReadsSts w a rs) (hl : rs.length ≤ 1048576) (hs : ∀ r ∈ rs, r.short 1048576) :
  Calls Tryd.prog 26 #[.slice a rs.length cap] w fun e w' => ∃ a' c' ts, e = .returned (.slice a' ts.length c') ∧ Hid (ts.map SeatA.v = rs.map SeatA.v) ∧ OwnSts w' w.heap.size w'.heap.size a' c' ts ∧ Below w.heap.size w w' := by
 obtain ⟨i0, hi, hz0, hz1, hz2⟩ := info_parts Tryd.infoSeat
 have HI : Hid ((Tryd.prog.info? 78).map (·.size) = some 20) := by rw [Hid]; kernel_rfl
 have HJ : Hid ((Tryd.prog.info? 45).map (·.size) = some 20) := by rw [Hid]; kernel_rfl
 rcases hr.cases with rfl | ⟨b, off, rfl, hpos, hcell⟩
 ·go_enter Tryd.func26, Tryd.ntmps26
  go_wp2_with (at_make; refine wpList_make_full _ rfl _ _ 35 rfl w.heap.size 45 i0 (.agg zeroSt.cells.toArray) 20 Tryd.underlying35 hi hz0 hz1 _ _ _ _ 0 rfl rfl (by simp) (by simp) (by omega) (by simp [maxLen]) (Nat.le_refl _) ?_)
  intro w0 hown0 hgrow0
  have hB : Below w.heap.size w w0 := (Below.refl _ _).grown hgrow0 (Nat.le_refl _) (fun k h => by cases h)
  have ho : w0.ownsRow w.heap.size 45 20 (.slice (some ⟨w.heap.size, 0, none⟩) 0 0) 0 (cellsSts (List.replicate 0 zeroSt)) := by
   rw [← zero_cellsSts]
   exact hown0
  have HO : Hid (OwnSts w0 w.heap.size w0.heap.size (some ⟨w.heap.size, 0, none⟩) 0 []) := own_zeroSts 0 ho (Nat.le_refl _) (ho.lt _ rfl).2
  clear hown0 hgrow0 ho
  go_wp2
  refine wp_loop_rounds 1 ?_
  rw [rounds_succ]
  go_wp2
  go_ret
  exact ⟨_, _, [], rfl, rfl, HO.out, hB⟩
 ·have hbB : b < w.heap.size := rangeSt_lt (hcell 0 hpos).1
  go_enter Tryd.func26, Tryd.ntmps26
  go_wp2_with (at_make; refine wpList_make_full _ rfl _ _ 35 rfl w.heap.size 45 i0 (.agg zeroSt.cells.toArray) 20 Tryd.underlying35 hi hz0 hz1 _ _ _ _ rs.length rfl rfl rfl rfl (by rw [hz2]; omega) (by simp [maxLen]; omega) (Nat.le_refl _) ?_)
  intro w0 hown0 hgrow0
  have hb0 : Below w.heap.size w w0 := (Below.refl _ _).grown hgrow0 (Nat.le_refl _) (fun k h => by cases h)
  have ho : w0.ownsRow w.heap.size 45 20 (.slice (some ⟨w.heap.size, 0, none⟩) rs.length rs.length) rs.length (cellsSts (List.replicate rs.length zeroSt)) := by
   rw [← zero_cellsSts]
   exact hown0
  have HO : Hid (OwnSts w0 w.heap.size w0.heap.size (some ⟨w.heap.size, 0, none⟩) rs.length (List.replicate rs.length zeroSt)) := own_zeroSts _ ho (Nat.le_refl _) (ho.lt _ rfl).2
  clear hown0 hgrow0 ho
  go_wp2
  go_loopw [4] (fun i wr => ∃ (k : Nat) (ts : List SeatA), k ≤ rs.length ∧ i = .int .i64 k ∧ Hid (CameSt rs ts k) ∧ Hid (OwnSts wr w.heap.size wr.heap.size (some ⟨w.heap.size, 0, none⟩) rs.length (ts ++ List.replicate (rs.length - k) zeroSt)) ∧ Below w.heap.size w wr)
   (fun i _ => rs.length - (intOf i).toNat)
  case atStart => exact ⟨0, [], Nat.zero_le _, rfl, cameSt_none rs, HO, hb0⟩
  case round =>
   obtain ⟨k, ts, hk, rfl, hc, hown, hnx⟩ := hrel
   by_cases hlt : k < rs.length
   ·obtain ⟨c0, c1⟩ := hcell k hlt
    have HR : Hid (wr.rangeAt b (off + k * 20) (rs.getD k zeroSt).cells) := rangeAt_below c0 hnx hbB
    have hrd : (rs.getD k zeroSt).reads wr := c1.below hnx
    have hsh : (rs.getD k zeroSt).short 1048576 := hs _ (seatD_mem rs k hlt)
    have C := toSeat_any (rs.getD k zeroSt) wr hrd hsh
    have HS : Hid (∀ q : SeatA, q.v = (rs.getD k zeroSt).v → CameSt rs (ts ++ [q]) (k + 1)) := fun q hq => hc.out.snoc hlt hq
    have HP : Hid (ts ++ List.replicate (rs.length - k) zeroSt = ts ++ zeroSt :: List.replicate (rs.length - (k + 1)) zeroSt ∧ (ts ++ zeroSt :: List.replicate (rs.length - (k + 1)) zeroSt).length = rs.length ∧ ts.length = k) := by
     have e : rs.length - k = (rs.length - (k + 1)) + 1 := by omega
     refine ⟨by rw [e, List.replicate_succ], ?_, hc.out.1⟩
     have := hc.out.1
     simp
     omega
    clear c0 c1 hcell hb0 HO hs hrd hsh
    generalize rs.getD k zeroSt = z at *
    go_wp2_with (first | (guard_target = wpList _ _ _ (Oper.mk (some 19) _ _ _ _ _ :: _) _ _; refine wpList_load_mid rfl 78 (.tmp 18) rfl b (off + k * 20) rfl z.cells _ HR.out Tryd.underlying78 rfl HI.out ?_) | fail)
    refine C.mono ?_
    clear C HR
    rintro e w1 ⟨q, rfl, hq, hqo, hb1⟩
    have hs1 := hb1.size
    have ho1 := hown.out.below hb1
    rw [HP.out.1] at ho1
    obtain ⟨W2, hW2, ho2, ht2, hs2⟩ := ho1.fill q hqo (Nat.le_refl _) (by have := hnx.size; omega) (Nat.le_refl _)
    rw [HP.out.2.2] at hW2
    have HT : Hid (w1.there w.heap.size (k * 20) 20) := (row_seat ho1.row rfl k (by rw [HP.out.2.1]; exact hlt)).2
    have hB2 : Below w.heap.size w W2 := (hnx.trans (hb1.mono hnx.size)).trans ((ht2.within (lo := w.heap.size) (hi := w.heap.size + 1) (fun j hj => by obtain rfl := List.mem_singleton.1 hj; omega)).below (Nat.le_refl _) (by have := hnx.size; omega))
    have HH : Hid (OwnSts W2 w.heap.size W2.heap.size (some ⟨w.heap.size, 0, none⟩) rs.length ((ts ++ [q]) ++ List.replicate (rs.length - (k + 1)) zeroSt)) := by
     have := ho2.widen (Nat.le_refl _) (show max wr.heap.size w1.heap.size ≤ W2.heap.size by omega) (Nat.le_refl _)
     rw [List.append_assoc, List.singleton_append]
     exact this
    have HB : Hid _ := hB2
    have HC := HS.out q hq.out
    have HO1 := seat_one' q
    clear ho1 ho2 ht2 hs2 hB2 hqo hb1 hnx hown hq HS hs1
    go_wp2_with (first | (guard_target = wpList _ _ _ (Oper.mk none (Op.store _ (Operand.tmp 21) _) _ _ _ _ :: _) _ _; refine wpList_store_mid rfl 45 (.tmp 21) (.tmp 20) rfl w.heap.size (k * 20) q.cells.toArray rfl rfl HT.out HJ.out HO1 ?_) | fail)
    rw [hW2.out]
    go_roundw
    case rel => exact ⟨k + 1, ts ++ [q], by omega, by go_num, HC, HH, HB.out⟩
    case measure => simp [intOf]; omega
   ·have HE : Hid (ts.map SeatA.v = rs.map SeatA.v ∧ OwnSts wr w.heap.size wr.heap.size (some ⟨w.heap.size, 0, none⟩) rs.length ts ∧ ts.length = rs.length) := by
     have e : k = rs.length := by omega
     rw [e] at hown hc
     rw [Nat.sub_self, List.replicate_zero, List.append_nil] at hown
     exact ⟨hc.out.all, hown.out, hc.out.1⟩
    go_wp2
    go_ret
    exact ⟨some ⟨w.heap.size, 0, none⟩, rs.length, ts, by rw [HE.out.2.2]; rfl, HE.out.1, HE.out.2.1, hnx⟩
theorem mapSt_nil {ts : List SeatA} (h : ts.map SeatA.v = ([] : List SeatA).map SeatA.v) : ts = [] := by simpa using h
theorem toPool_any (l : PoolA) (w : World) (hr : l.reads w) (hl : l.short 1048576) :
  Calls Tryd.prog 7 #[.agg l.cells.toArray] w fun e w' => ∃ t : PoolA, e = .returned (.agg t.cells.toArray) ∧ Hid (t.v = l.v) ∧ t.own w' w.heap.size w'.heap.size ∧ Below w.heap.size w w' := by
 obtain ⟨rs, s, a, c⟩ := l
 obtain ⟨hl1, hl2⟩ := hl
 simp only [PoolA.reads, PoolA.cells, PoolA.own] at *
 obtain ⟨W, hW, b0, b1, b2, hbW, hsW⟩ := boxes3 w [.slice a rs.length c, .int .i64 s] [.slice none 0 0, .int .i64 0] [.slice none 0 0, .int .i64 0] 24 37 37
 have C := toSeatS_any a c rs W (hr.below hbW) hl1 hl2
 go_enter Tryd.func7, Tryd.ntmps7
 go_wp2_with fail
 rw [hW.out]
 clear hW
 have hs0 : w.heap.size + 1 + 1 < W.heap.size := by omega
 clear hsW
 refine C.mono ?_
 clear C
 rintro e w1 ⟨a', c', ts, rfl, hv, ho1, hb1⟩
 have hs1 := hb1.size
 have b01 := b0.below hb1 b0.lt
 have b11 := b1.below hb1 b1.lt
 have b21 := b2.below hb1 b2.lt
 have x1 := b01.cell 1 _ rfl
 have y0 := b21.cell 0 _ rfl
 have y1 := b21.cell 1 _ rfl
 have f0 := b21.frozen 0
 have f1 := b21.frozen 1
 have z0 := b11.cell 0 _ rfl
 have z1 := b11.cell 1 _ rfl
 have g0 := b11.frozen 0
 have g1 := b11.frozen 1
 obtain ⟨W2, hW2, b22, hw2, hs2⟩ := box_set b21 0 (.slice a' ts.length c')
 obtain ⟨W3, hW3, b23, hw3, hs3⟩ := box_set b22 1 (.int .i64 s)
 have b13 := (b11.within hw2 (by omega)).within hw3 (by omega)
 obtain ⟨W4, hW4, b14, hw4, hs4⟩ := box_set b13 0 (.slice a' ts.length c')
 obtain ⟨W5, hW5, b15, hw5, hs5⟩ := box_set b14 1 (.int .i64 s)
 simp only [List.set] at b15
 have q0 := b15.cell 0 _ rfl
 have q1 := b15.cell 1 _ rfl
 have hB5 : Below w.heap.size w W5 := ((((hbW.trans (hb1.mono (by omega))).trans (hw2.below (by omega) (by omega))).trans (hw3.below (by omega) (by omega))).trans (hw4.below (by omega) (by omega))).trans (hw5.below (by omega) (by omega))
 have ho5 := ((((ho1.within hw2 (.inr (by omega))).within hw3 (.inr (by omega))).within hw4 (.inr (by omega))).within hw5 (.inr (by omega))).widen (show w.heap.size ≤ W.heap.size by omega) (show w1.heap.size ≤ W5.heap.size by omega) (Nat.le_refl _)
 have HH : Hid (_ ∧ _ ∧ _) := ⟨ho5, hB5, hv.out⟩
 clear ho5 hB5 hv ho1 hb1 hw2 hw3 hw4 hw5 hs2 hs3 hs4 hs5 b01 b11 b21 b22 b23 b13 b14 b15 b0 b1 b2 hbW
 have h34 : Hid (((((w1.setCell ⟨w.heap.size + 1 + 1, 0, none⟩ (.slice a' ts.length c')).setCell ⟨w.heap.size + 1 + 1, 1, none⟩ (.int .i64 s)).setCell ⟨w.heap.size + 1, 0, none⟩ (.slice a' ts.length c')).setCell ⟨w.heap.size + 1, 1, none⟩ (.int .i64 s)) = W5) := by rw [Hid, hW2.out, hW3.out, hW4.out, hW5.out]
 clear hW2 hW3 hW4 hW5
 go_wp2
 rw [h34.out]
 exact bodyPost_ret (v := .agg #[.slice a' ts.length c', .int .i64 s]) (by simp [results, Tryd.results7, go_sem, q0, q1]) rfl ⟨⟨ts, s, a', c'⟩, rfl, by simp only [Hid, PoolA.v]; rw [HH.out.2.2], HH.out.1, HH.out.2.1⟩
theorem eqSeatS_same (a b : Option Addr) (ca cb : Nat) (rs ts : List SeatA) (he : ts.map SeatA.v = rs.map SeatA.v) (w : World) (ha : ReadsSts w a rs) (hb : ReadsSts w b ts) (hl : rs.length ≤ 1099511627776) (hs : ∀ r ∈ rs, r.short 1099511627776) :
  Calls Tryd.prog 35 #[.slice a rs.length ca, .slice b ts.length cb] w fun e w' => e = .returned (.bool true) ∧ Below w.heap.size w w' := by
 rcases ha.cases with rfl | ⟨b1, o1, rfl, hpos, hc1⟩
 ·obtain rfl := mapSt_nil he
  go_enter Tryd.func35, Tryd.ntmps35
  go_wp2
  refine wp_loop_rounds 1 ?_
  rw [rounds_succ]
  go_wp2
  go_ret
  exact ⟨rfl, Below.refl _ _⟩
 ·have hlen := mapSt_len he
  rcases hb.cases with rfl | ⟨b2, o2, rfl, _, hc2⟩
  ·simp at hlen; omega
  ·have HV : Hid (∀ k, k < rs.length → (ts.getD k zeroSt).v = (rs.getD k zeroSt).v) := fun k hk => mapSt_at he k hk
   have HS : Hid (∀ k, k < rs.length → (rs.getD k zeroSt).short 1099511627776) := fun k hk => hs _ (seatD_mem rs k hk)
   have HI : Hid ((Tryd.prog.info? 45).map (·.size) = some 20) := by rw [Hid]; kernel_rfl
   have hu := Tryd.underlying45
   rw [hlen] at hc2 ⊢
   clear he hs hlen
   go_enter Tryd.func35, Tryd.ntmps35
   go_wp2
   go_loopw [5] (fun i wr => ∃ k : Nat, k ≤ rs.length ∧ i = .int .i64 k ∧ Below w.heap.size w wr) (fun i _ => rs.length - (intOf i).toNat)
   case atStart => exact ⟨0, Nat.zero_le _, rfl, Below.refl _ _⟩
   case round =>
    obtain ⟨k, hk, rfl, hbl⟩ := hrel
    by_cases hlt : k < rs.length
    ·obtain ⟨h1, r1⟩ := hc1 k hlt
     obtain ⟨h2, r2⟩ := hc2 k hlt
     have hv := HV.out k hlt
     have hsh := HS.out k hlt
     clear hc1 hc2
     generalize rs.getD k zeroSt = z at *
     generalize ts.getD k zeroSt = y at *
     have HR : Hid (∀ w1, Below w.heap.size w w1 → w1.rangeAt b1 (o1 + k * 20) z.cells ∧ w1.rangeAt b2 (o2 + k * 20) y.cells) := fun w1 hh => ⟨rangeSt_below h1 hh, rangeSt_below h2 hh⟩
     have HD : Hid (∀ w1, Below w.heap.size w w1 → z.reads w1 ∧ y.reads w1) := fun w1 hh => ⟨r1.below hh, r2.below hh⟩
     clear h1 h2 r1 r2
     go_wp2_with fail
     refine wp_region_held_drew (S := fun w' => w'.rangeAt b1 (o1 + k * 20) z.cells ∧ w'.rangeAt b2 (o2 + k * 20) y.cells) (by kernel_rfl) ?_ (fun hHeld => ?_)
     ·exact HR.out _ hbl.drew
     refine tk 0 (v := .slice (some ⟨b1, o1, none⟩) rs.length ca) rfl (Or.inl ⟨by rfl, ?_⟩) hHeld ?_
     ·intro w' hSw
      go_simp <;> rfl
     try simp only [Act.put, zA, zB, zD, zE, zF]
     refine tk 1 (v := .int .i64 k) rfl (Or.inl ⟨by rfl, ?_⟩) hHeld ?_
     ·intro w' hSw
      go_simp <;> rfl
     try simp only [Act.put, zA, zB, zC, zD, zE, zF]
     refine tk 2 (v := .pointer (some ⟨b1, o1 + k * 20, none⟩)) rfl (Or.inl ⟨by rfl, ?_⟩) hHeld ?_
     ·intro w' hSw
      go_simp <;> rfl
     try simp only [Act.put, zA, zB, zC, zD, zE, zF]
     refine tk 3 rfl (yieldsIf_load_mid (by rfl) _ _ rfl _ _ rfl z.cells _ (fun _ h => h.1) Tryd.underlying45 rfl HI.out) hHeld ?_
     try simp only [Act.put, zA, zB, zC, zD, zE, zF]
     refine tk 4 (v := .slice (some ⟨b2, o2, none⟩) rs.length cb) rfl (Or.inl ⟨by rfl, ?_⟩) hHeld ?_
     ·intro w' hSw
      go_simp <;> rfl
     try simp only [Act.put, zA, zB, zC, zD, zE, zF]
     refine tk 5 (v := .int .i64 k) rfl (Or.inl ⟨by rfl, ?_⟩) hHeld ?_
     ·intro w' hSw
      go_simp <;> rfl
     try simp only [Act.put, zA, zB, zC, zD, zE, zF]
     refine tk 6 (v := .pointer (some ⟨b2, o2 + k * 20, none⟩)) rfl (Or.inl ⟨by rfl, ?_⟩) hHeld ?_
     ·intro w' hSw
      go_simp <;> rfl
     try simp only [Act.put, zA, zB, zC, zD, zE, zF]
     refine tk 7 rfl (yieldsIf_load_mid (by rfl) _ _ rfl _ _ rfl y.cells _ (fun _ h => h.2) Tryd.underlying45 rfl HI.out) hHeld ?_
     try simp only [Act.put, zA, zB, zC, zD, zE, zF]
     refine wpAnyH_ready (rs := [8]) (by kernel_rfl) (by simp) ?_
     refine AllReadyH.cons rfl (fun K hK => ?_) AllReadyH.nil
     go_simp
     refine (eqSeat_same z y hv _ (HD.out _ hbl.drew).1 (HD.out _ hbl.drew).2 hsh).mono ?_
     rintro e w2 ⟨rfl, hb2⟩
     have hw2 : Below w.heap.size w w2 := (hbl.drew).trans (hb2.mono hbl.size)
     refine hK.out _ _ (HR.out _ hw2) (fun hHeld => ?_)
     clear hK K
     try simp only [Act.put, zA, zB, zC, zD, zE, zF]
     refine tk 9 (v := .bool false) rfl (Or.inl ⟨by rfl, ?_⟩) hHeld ?_
     ·intro w' hSw
      go_simp <;> rfl
     try simp only [Act.put, zA, zB, zC, zD, zE, zF]
     refine wpAnyH_done (by kernel_rfl) ?_ _
     go_wp2_with fail
     go_roundw
     case rel => exact ⟨k + 1, by omega, by go_num, hw2⟩
     case measure => simp [intOf]; omega
    ·go_wp2
     go_ret
     exact ⟨rfl, hbl⟩
theorem eqPool_same (l t : PoolA) (he : t.v = l.v) (w : World) (hr : l.reads w) (ht : t.reads w) (hl : l.short 1099511627776) :
  Calls Tryd.prog 10 #[.agg l.cells.toArray, .agg t.cells.toArray] w fun e w' => e = .returned (.bool true) ∧ Below w.heap.size w w' := by
 obtain ⟨rs, s, a, c⟩ := l
 obtain ⟨ts, s', a', c'⟩ := t
 obtain ⟨hl1, hl2⟩ := hl
 simp only [PoolA.v, PoolV.mk.injEq] at he
 obtain ⟨he, rfl⟩ := he
 simp only [PoolA.reads, PoolA.cells] at *
 obtain ⟨W, hW, b0, b1, hbW, hsW⟩ := boxes2 w [.slice a rs.length c, .int .i64 s'] [.slice a' ts.length c', .int .i64 s'] 37 37
 have C := eqSeatS_same a a' c c' rs ts he W (hr.below hbW) (ht.below hbW) hl1 hl2
 clear hsW he hl1 hl2 hr ht
 go_enter Tryd.func10, Tryd.ntmps10
 go_wp2_with fail
 rw [hW.out]
 clear hW
 refine C.mono ?_
 clear C
 rintro e w1 ⟨rfl, hb1⟩
 have x1 := (b0.below hb1 b0.lt).cell 1 _ rfl
 have y1 := (b1.below hb1 b1.lt).cell 1 _ rfl
 clear b0 b1
 go_wp2
 go_ret
 exact ⟨rfl, hbW.trans (hb1.mono hbW.size)⟩
theorem szSeatS_any (a : Option Addr) (cap : Nat) (rs : List SeatA) (left : Int) (w : World) (hr : ReadsSts w a rs) (hn : rs.length ≤ 9223372036854775807) (hs : ∀ r ∈ rs, r.short 9223372036854775807) (hl : 0 ≤ left ∧ left ≤ 1048576) :
  Calls Tryd.prog 18 #[.slice a rs.length cap, .int .i64 left] w fun e w' => ∃ z : Int, e = .returned (.int .i64 z) ∧ (z < 0 ∨ (0 ≤ z ∧ z ≤ left ∧ rs.length ≤ 1048576 ∧ ∀ r ∈ rs, r.short 1048576)) ∧ Below w.heap.size w w' := by
 have HI : Hid ((Tryd.prog.info? 78).map (·.size) = some 20) := by rw [Hid]; kernel_rfl
 by_cases hle : left - rs.length < 0
 ·go_enter Tryd.func18, Tryd.ntmps18
  go_wp2
  go_ret
  exact ⟨-1, rfl, .inl (by omega), Below.refl _ _⟩
 have HS : Hid (∀ k, k < rs.length → (rs.getD k zeroSt).short 9223372036854775807) := fun k hk => hs _ (seatD_mem rs k hk)
 have hlen : rs.length ≤ 1048576 := by omega
 have HC : Hid (∀ k, k < rs.length → ∃ b off, a = some ⟨b, off, none⟩ ∧ w.rangeAt b (off + k * 20) (rs.getD k zeroSt).cells) := fun k hk => by
  obtain ⟨b, off, ha, hc⟩ := hr (by intro e; rw [e] at hk; simp at hk)
  exact ⟨b, off, ha, (hc k hk).1⟩
 have HA : Hid ((∀ k, k < rs.length → (rs.getD k zeroSt).short 1048576) → ∀ r ∈ rs, r.short 1048576) := by
  intro h r hr
  obtain ⟨k, hk, rfl⟩ := List.getElem_of_mem hr
  have := h k hk
  simpa [List.getD, hk] using this
 clear hr hs
 go_enter Tryd.func18, Tryd.ntmps18
 go_wp2
 go_loopw [1, 5] (fun v i wr => ∃ (k : Nat) (z : Int), k ≤ rs.length ∧ i = .int .i64 k ∧ v = .int .i64 z ∧ 0 ≤ z ∧ z ≤ left ∧ Hid (∀ j, j < k → (rs.getD j zeroSt).short 1048576) ∧ Below w.heap.size w wr) (fun _ i _ => rs.length - (intOf i).toNat)
 case atStart => exact ⟨0, left - rs.length, Nat.zero_le _, rfl, by go_num, by omega, by omega, fun j hj => by omega, Below.refl _ _⟩
 case round =>
  obtain ⟨k, z, hk, rfl, rfl, hz0, hz1, hsh, hbl⟩ := hrel
  by_cases hlt : k < rs.length
  ·obtain ⟨b, off, rfl, hcell⟩ := HC.out k hlt
   have HR : Hid (wr.rangeAt b (off + k * 20) (rs.getD k zeroSt).cells) := rangeSt_below hcell hbl
   have C := szSeat_any (rs.getD k zeroSt) z wr (HS.out k hlt) (by omega)
   clear hcell HC
   have HN : Hid ((rs.getD k zeroSt).short 1048576 → ∀ j, j < k + 1 → (rs.getD j zeroSt).short 1048576) := fun h j hj => by
    by_cases e : j = k
    ·rw [e]; exact h
    ·exact hsh.out j (by omega)
   generalize rs.getD k zeroSt = y at *
   go_wp2_with (first | (guard_target = wpList _ _ _ (Oper.mk (some 21) _ _ _ _ _ :: _) _ _; refine wpList_load_mid rfl 78 (.tmp 20) rfl b (off + k * 20) rfl y.cells _ HR.out Tryd.underlying78 rfl HI.out ?_) | fail)
   refine C.mono ?_
   clear C HR
   rintro e w1 ⟨z1, rfl, hz, hb1⟩
   have hB1 : Below w.heap.size w w1 := hbl.trans (hb1.mono hbl.size)
   rcases hz with hneg | ⟨g0, g1, g2⟩
   ·go_wp2
    go_ret
    exact ⟨-1, rfl, .inl (by omega), hB1⟩
   ·have hzn : ¬ z1 < 0 := by omega
    have HH := HN.out g2
    go_wp2
    go_roundw
    case rel => exact ⟨k + 1, z1, by omega, by go_num, rfl, g0, by omega, HH, hB1⟩
    case measure => simp [intOf]; omega
  ·have HE : Hid (∀ r ∈ rs, r.short 1048576) := HA.out (fun j hj => hsh.out j (by omega))
   go_wp2
   go_ret
   exact ⟨z, rfl, .inr ⟨hz0, hz1, hlen, HE.out⟩, hbl⟩
theorem szPool_any (l : PoolA) (left : Int) (w : World) (hr : l.reads w) (hs : l.short 9223372036854775807) (hl : 0 ≤ left ∧ left ≤ 1048576) :
  Calls Tryd.prog 4 #[.agg l.cells.toArray, .int .i64 left] w fun e w' => ∃ z : Int, e = .returned (.int .i64 z) ∧ (z < 0 ∨ (0 ≤ z ∧ z ≤ left ∧ l.short 1048576)) ∧ Below w.heap.size w w' := by
 obtain ⟨rs, s, a, c⟩ := l
 obtain ⟨hl1, hl2⟩ := hs
 simp only [PoolA.reads, PoolA.cells] at *
 obtain ⟨W, hW, b0, hbW, hsW⟩ := boxes1 w [.slice a rs.length c, .int .i64 s] 24
 have C := szSeatS_any a c rs left W (hr.below hbW) hl1 hl2 hl
 clear hsW hr hl1 hl2
 go_enter Tryd.func4, Tryd.ntmps4
 go_wp2_with fail
 rw [hW.out]
 clear hW
 refine C.mono ?_
 clear C
 rintro e w1 ⟨z, rfl, hz, hb1⟩
 have hB : Below w.heap.size w w1 := hbW.trans (hb1.mono hbW.size)
 rcases hz with hneg | ⟨h0, h1, h2, h3⟩
 ·go_wp2
  go_ret
  exact ⟨-1, rfl, .inl (by omega), hB⟩
 ·have hzn : ¬ z < 0 := by omega
  go_wp2
  go_ret
  exact ⟨z, rfl, .inr ⟨h0, h1, h2, h3⟩, hB⟩
end Go.Proofs.YtoboickdkednkabDoor
namespace Go.Proofs.YtoboickdkednkabDoor
open Go.ChangeShapes Go.WideShapes Go.ChangeAt Go.RowKit
structure InSeat (w : World) (s : SeatA) : Prop where
 slots : ∀ x ∈ s.ss, InSlot w x
 no : InI64 s.no
 lsn : InI64 s.lsn
theorem InSeat.reads {w : World} {s : SeatA} (h : InSeat w s) : s.reads w := fun x hx => (h.slots x hx).reads
theorem InSeat.short {w : World} {s : SeatA} (h : InSeat w s) : s.short 9223372036854775807 := fun x hx => by
 have h1 := (h.slots x hx).lI
 have h2 := (h.slots x hx).lR
 simp only [maxLen] at h1 h2
 omega
structure InPool (w : World) (l : PoolA) : Prop where
 seats : ReadsSts w l.a l.seats
 each : ∀ r ∈ l.seats, InSeat w r
 len : l.seats.length ≤ maxLen
 num : InI64 l.hand
theorem InPool.short {w : World} {l : PoolA} (h : InPool w l) : l.short 9223372036854775807 := ⟨by have := h.len; simp only [maxLen] at this; omega, fun r hr => (h.each r hr).short⟩
theorem InPool.reads {w : World} {l : PoolA} (h : InPool w l) : l.reads w := h.seats
section
variable {H : Type} {enc : TypeId × Value → H} {w : World} {base : Nat} {spare : Nat → Bool} {held : Bool}
theorem Tryd.cellsSt_ : Tryd.prog.cellsOf 78 = 20 := by kernel_rfl
theorem trod_seat {fuel : Nat} {cs : List Value} {x : DataW H × List MemPlace} (h : DataW.trod enc Tryd.prog w base spare held fuel 78 cs = some x) :
  ∃ s : SeatA, cs = s.cells ∧ InSeat w s := by
 obtain ⟨xs, n, _, _, hlen, hxl, hf⟩ := DataW.trod_struct Tryd.underlying78 h
 rw [Tryd.cellsSt_] at hlen
 match cs, hlen with
 | [v0, v1, v2, v3, v4, v5, v6, v7, v8, v9, v10, v11, v12, v13, v14, v15, v16, v17, v18, v19], _ =>
  have f0 := hf 0 _ rfl
  have f1 := hf 1 _ rfl
  have f2 := hf 2 _ rfl
  have f3 := hf 3 _ rfl
  obtain ⟨y0, hx0⟩ := some_at xs 0 (by rw [hxl]; decide)
  rw [hx0] at f0
  obtain ⟨y1, hx1⟩ := some_at xs 1 (by rw [hxl]; decide)
  rw [hx1] at f1
  obtain ⟨y2, hx2⟩ := some_at xs 2 (by rw [hxl]; decide)
  rw [hx2] at f2
  obtain ⟨y3, hx3⟩ := some_at xs 3 (by rw [hxl]; decide)
  rw [hx3] at f3
  simp only [List.getElem_toArray, List.getElem_cons_zero, List.getElem_cons_succ, Tryd.cellsI, Tryd.cellsB, Tryd.cellsPg, List.drop, List.take] at f0 f1 f2 f3
  obtain ⟨n0, e0, w0⟩ := trod_num f0
  obtain ⟨p, e1, h4, w1, hs⟩ := trod_page f1
  obtain ⟨d, e2, _⟩ := DataW.trod_bool Tryd.underlying4 f2
  obtain ⟨t, e3, _⟩ := DataW.trod_bool Tryd.underlying4 f3
  obtain ⟨lsn, ss⟩ := p
  obtain ⟨a, b, c, d', rfl⟩ := four_slots' (ts := ss) h4
  simp only [List.cons.injEq, and_true] at e0 e2 e3
  subst e0 e2 e3
  refine ⟨⟨n0, lsn, a, b, c, d', d, t⟩, ?_, hs, w0, w1⟩
  rw [SeatA.cells_page]
  show _ = Value.int .i64 n0 :: ((PageA.cells ⟨lsn, [a, b, c, d']⟩) ++ [.bool d, .bool t])
  rw [← e1]
  rfl
theorem Tryd.cellsSts_ : Tryd.prog.cellsOf 22 = 1 := by kernel_rfl
theorem Tryd.cellsPl : Tryd.prog.cellsOf 24 = 2 := by kernel_rfl
theorem trod_seats {fuel : Nat} {cs : List Value} {x : DataW H × List MemPlace} (h : DataW.trod enc Tryd.prog w base spare held fuel 22 cs = some x) :
  ∃ (a : Option Addr) (c : Nat) (rs : List SeatA), cs = [.slice a rs.length c] ∧ ReadsSts w a rs ∧ (∀ r ∈ rs, InSeat w r) ∧ rs.length ≤ maxLen := by
 rcases DataW.trod_slice Tryd.underlying22 h with ⟨rfl, _⟩ | ⟨a, len, cap, elems, rest, n, _, rfl, _, _, hl, hm, hlen, hel, _, _⟩
 ·exact ⟨none, 0, [], rfl, ReadsSts.nil _ _, fun r hr => by simp at hr, by simp⟩
 rw [Tryd.cellsSt_] at hel
 have each : ∀ i, i < len → ∃ t : SeatA, w.cells? base (a.add (i * 20)) 20 = some t.cells ∧ InSeat w t := by
  intro i hi
  have hy := hel i hi
  rw [List.getElem?_eq_getElem (by omega : i < elems.length), Option.bind_eq_some_iff] at hy
  obtain ⟨cs', hcs, hy'⟩ := hy
  obtain ⟨t, e, ht⟩ := trod_seat hy'
  exact ⟨t, by rw [hcs, e], ht⟩
 obtain ⟨f, hf⟩ : ∃ f : Nat → SeatA, ∀ i, i < len → w.cells? base (a.add (i * 20)) 20 = some (f i).cells ∧ InSeat w (f i) := by
  refine ⟨fun i => if h : i < len then (each i h).choose else zeroSt, fun i hi => ?_⟩
  simp only [dif_pos hi]
  exact (each i hi).choose_spec
 refine ⟨some a, cap, (List.range len).map f, by simp, ?_, ?_, by simp; omega⟩
 ·intro hne
  have hpos := List.length_pos_iff.2 hne
  simp only [List.length_map, List.length_range] at hpos ⊢
  obtain ⟨b, off, spot⟩ := a
  have c0 := (World.cells?_some (hf 0 hpos).1).2.2 0 (by decide)
  have hspot : spot = none := by simpa [Addr.add] using World.cell?_spot c0
  subst hspot
  refine ⟨b, off, rfl, fun k hk => ?_⟩
  have e : ((List.range len).map f).getD k zeroSt = f k := by simp [List.getD, hk]
  rw [e]
  have hc := (World.cells?_some (hf k hk).1).2.2
  refine ⟨fun j v hv => ?_, (hf k hk).2.reads⟩
  have hj : j < 20 := by have := (List.getElem?_eq_some_iff.1 hv).1; rwa [cellsSt_len] at this
  have d := hc j (by simpa using hj)
  simp only [Addr_add] at d
  rw [d, hv]
 ·intro r hr
  obtain ⟨k, hk, rfl⟩ := List.mem_map.1 hr
  exact (hf k (List.mem_range.1 hk)).2
theorem trod_pool {fuel : Nat} {cs : List Value} {x : DataW H × List MemPlace} (h : DataW.trod enc Tryd.prog w base spare held fuel 24 cs = some x) :
  ∃ l : PoolA, cs = l.cells ∧ InPool w l := by
 obtain ⟨xs, n, _, _, hlen, hxl, hf⟩ := DataW.trod_struct Tryd.underlying24 h
 rw [Tryd.cellsPl] at hlen
 match cs, hlen with
 | [v0, v1], _ =>
  have f0 := hf 0 _ rfl
  have f1 := hf 1 _ rfl
  obtain ⟨y0, hx0⟩ := some_at xs 0 (by rw [hxl]; decide)
  rw [hx0] at f0
  obtain ⟨y1, hx1⟩ := some_at xs 1 (by rw [hxl]; decide)
  rw [hx1] at f1
  simp only [List.getElem_toArray, List.getElem_cons_zero, List.getElem_cons_succ, Tryd.cellsI, Tryd.cellsSts_, List.drop, List.take] at f0 f1
  obtain ⟨a, c, rs, e0, h0, h1, h2⟩ := trod_seats f0
  obtain ⟨m, e1, w1⟩ := trod_num f1
  simp only [List.cons.injEq, and_true] at e0 e1
  subst e0 e1
  exact ⟨⟨rs, m, a, c⟩, rfl, h0, h1, h2, w1⟩
theorem open_pool {b0 : Nat} {v : Value} {d : DataW H} {ps : List MemPlace} (hval : Value.okWide Tryd.prog w .any b0 24 v) (h : DataW.Trod enc Tryd.prog w base spare held 24 v d ps) :
  ∃ l : PoolA, v = .agg l.cells.toArray ∧ InPool w l := by
 obtain ⟨cs, rfl, hcs⟩ := okWide_struct Tryd.underlying24 hval
 obtain ⟨fuel, hf⟩ := h
 have e : (Value.agg cs).cells.toList = cs.toList := rfl
 rw [e] at hf
 obtain ⟨r, hc, rest⟩ := trod_pool hf
 refine ⟨r, ?_, rest⟩
 congr 1
 apply Array.toList_inj.1
 rw [hc]
end
end Go.Proofs.YtoboickdkednkabDoor
namespace Go.Proofs.YtoboickdkednkabDoor
open Go.RowKit
theorem PoolA.reads.below {w w' : World} {l : PoolA} (h : l.reads w) (hb : Below w.heap.size w w') : l.reads w' := ReadsSts.below h hb
theorem PoolA.own.reads {w : World} {lo hi : Nat} {l : PoolA} (h : l.own w lo hi) : l.reads w := OwnSts.reads h
theorem PoolA.own.below {w w' : World} {lo hi : Nat} {l : PoolA} (h : l.own w lo hi) (hb : Below w.heap.size w w') : l.own w' lo hi := OwnSts.below h hb
theorem PoolA.own.within {w w' : World} {lo hi a b : Nat} {l : PoolA} (h : l.own w lo hi) (hw : Within a b w w') (hd : hi ≤ a ∨ b ≤ lo) : l.own w' lo hi := OwnSts.within h hw hd
theorem PoolA.own.widen {w : World} {lo hi lo' hi' : Nat} {l : PoolA} (h : l.own w lo hi) (h1 : lo' ≤ lo) (h2 : hi ≤ hi') (h3 : hi' ≤ w.heap.size) : l.own w lo' hi' := OwnSts.widen h h1 h2 h3
def PoolA.blocks (l : PoolA) : List Nat := blocksSts l.a l.c l.seats
theorem PoolA.own.blocks_lt {w : World} {lo hi : Nat} {l : PoolA} (h : l.own w lo hi) : ∀ k ∈ l.blocks, lo ≤ k ∧ k < hi := OwnSts.blocks_lt h
theorem PoolA.own.touch {w w' : World} {lo hi : Nat} {l : PoolA} {bl : List Nat} (h : l.own w lo hi) (ht : Touch bl w w') (hd : ∀ k ∈ l.blocks, k ∉ bl) : l.own w' lo hi := OwnSts.touch h ht hd
theorem onePool (l : PoolA) : ∀ v ∈ l.cells, v.oneCell' = true := by
 intro v hv
 simp only [PoolA.cells, List.mem_cons, List.not_mem_nil, or_false] at hv
 rcases hv with rfl | rfl <;> rfl
theorem pool_one (q : PoolA) : q.cells.toArray.all (·.oneCell') = true := all_oneCell_toArray (onePool q)
theorem pool_info (q : PoolA) : (Tryd.prog.info? 37).map (·.size) = some q.cells.length := by show _ = some 2; kernel_rfl
theorem pool_load {w : World} {C : Nat} (q : PoolA) (b : Box w C q.cells 37) : (loadVar 37 ⟨C, 0, none⟩).run Tryd.prog w = .ok (.agg q.cells.toArray) w :=
 run_loadVar_mid (P := Tryd.prog) w C 0 37 q.cells _ (Box.range [] q.cells [] (by simpa using b)) Tryd.underlying37 rfl (pool_info q)
theorem pool_out {w : World} {C : Nat} (q : PoolA) (old : List Value) (ho : old.length = 2) (bC : Box w C old 37) :
  ∃ WF, Hid (w.setCells C 0 q.cells = WF) ∧ Within C (C + 1) w WF ∧ WF.heap.size = w.heap.size ∧ Hid (w.there C 0 q.cells.toArray.size) ∧ Hid ((loadVar 37 ⟨C, 0, none⟩).run Tryd.prog WF = .ok (.agg q.cells.toArray) WF) ∧ Box WF C q.cells 37 := by
 obtain ⟨WF, hWF, bF, hwF, hsF⟩ := range_fill [] old q.cells [] (by simpa using bC) (by rw [ho]; rfl)
 have bF' : Box WF C q.cells 37 := by simpa using bF
 exact ⟨WF, hWF, hwF, hsF, bC.there 0 _ (by rw [ho]; show 0 + 2 ≤ 2; decide), pool_load q bF', bF'⟩
theorem specSeatedP_any (p : PoolA) (no : Int) (w : World) (hr : p.reads w) (hl : p.short 1099511627776) :
  Calls Tryd.prog 24 #[.agg p.cells.toArray, .int .i64 no] w fun r w' => r = .returned (.int .i64 (seatedOf p.v.seats no)) ∧ Below w.heap.size w w' :=
 specSeated_any p.a p.c p.seats p.hand no w hr hl.len
theorem implSeated_any (p : PoolA) (no : Int) (w : World) (hr : p.reads w) (hl : p.short 1099511627776) :
  Calls Tryd.prog 31 #[.agg p.cells.toArray, .int .i64 no] w fun r w' => r = .returned (.int .i64 (seatedOf p.v.seats no)) ∧ Below w.heap.size w w' := by
 obtain ⟨ls, hand, a, c⟩ := p
 have hlen := hl.len
 simp only [PoolA.cells, PoolA.reads, PoolA.v] at *
 obtain ⟨W, hW, b0, hbW, hsW⟩ := boxes1 w [.slice a ls.length c, .int .i64 hand] 37
 have HR : Hid (∀ u, Below W.heap.size W u → ReadsSts u a ls) := fun u hu => hr.below (hbW.trans (hu.mono hbW.size))
 have HF : Hid (seatFrom no ((ls.map SeatA.v).drop 0) 0 = seatedOf (ls.map SeatA.v) no) := rfl
 have HJ : Hid ((Tryd.prog.info? 45).map (·.size) = some 20) := by rw [Hid]; kernel_rfl
 generalize seatedOf (ls.map SeatA.v) no = R at *
 clear hsW hr hl
 have x0 := b0.cell 0 _ rfl
 go_enter Tryd.func31, Tryd.ntmps31
 go_upto_region 1 with fail
 rw [hW.out]
 clear hW
 go_wp2_with fail
 clear x0 b0
 go_loopw [10] (fun i wr => ∃ (k : Nat), i = .int .i64 k ∧ k ≤ ls.length ∧ Hid (seatFrom no ((ls.map SeatA.v).drop k) k = R) ∧ Below W.heap.size W wr)
  (fun i _ => ls.length - (intOf i).toNat)
 case atStart => exact ⟨0, rfl, by omega, HF, Below.refl _ _⟩
 case round =>
  obtain ⟨k, rfl, hk, hR, hbl⟩ := hrel
  have hrr := HR.out wr hbl
  have hbT : Below w.heap.size w wr := hbW.trans (hbl.mono hbW.size)
  by_cases hlt : k < ls.length
  ·obtain ⟨b, off, rfl, hcell⟩ := hrr (by rintro rfl; simp at hlt)
   have HRG : Hid (wr.rangeAt b (off + k * 20) (ls.getD k zeroSt).cells) := (hcell k hlt).1
   clear hcell
   have hkk : (k : Int) < (ls.length : Int) := by omega
   have hi0 : (0 : Int) ≤ (k : Int) := by omega
   have HR2 : Hid ((if (ls.getD k zeroSt).no = no then (k : Int) else seatFrom no ((ls.map SeatA.v).drop (k + 1)) (k + 1)) = R) := by
    have h := hR.out
    rw [dropSt_at ls k hlt, seatFrom] at h
    exact h
   generalize ls.getD k zeroSt = z at *
   obtain ⟨W1, hW1, b1, hb1, hs1⟩ := boxes1 wr [.int .i64 0, .int .i64 0, .bool false, .int .i64 0, .slice none 0 0, .slice none 0 0, .bool false, .int .i64 0, .slice none 0 0, .slice none 0 0, .bool false, .int .i64 0, .slice none 0 0, .slice none 0 0, .bool false, .int .i64 0, .slice none 0 0, .slice none 0 0, .bool false, .bool false] 45
   obtain ⟨W2, hW2, hw2, hs2, HT2, _, b2⟩ := seat_out z _ rfl b1
   have hB2 : Below W.heap.size W W2 := (hbl.trans (hb1.mono hbl.size)).trans (hw2.below hbl.size (by have := hbl.size; omega))
   have hbT2 : Below w.heap.size w W2 := hbW.trans (hB2.mono hbW.size)
   have x0 : W2.cell? ⟨wr.heap.size, 0, none⟩ = some (.int .i64 z.no) := b2.cell 0 _ rfl
   have HW2 : Hid (W1.setCells wr.heap.size 0 z.cells.toArray.toList = W2) := hW2.out
   have hOz := seat_one z
   clear hs1 hs2 b1 b2 hb1 hw2 hW2 hR hbl hbT
   by_cases hq : z.no = no
   ·have HR3 : Hid ((k : Int) = R) := by have h := HR2.out; rw [if_pos hq] at h; exact h
    have hqb : (z.no == no) = true := by simpa using hq
    clear hq HR2
    go_wp2_with (first | (guard_target = wpList _ _ _ (Oper.mk (some 14) _ _ _ _ _ :: _) _ _; refine wpList_load_mid rfl 45 (.tmp 13) rfl b (off + k * 20) rfl z.cells _ HRG.out Tryd.underlying45 rfl HJ.out ?_) | (guard_target = wpList _ _ _ (Oper.mk none (Op.store _ (Operand.tmp 6) _) _ _ _ _ :: _) _ _; refine wpList_store_mid rfl 45 (.tmp 6) (.tmp 14) rfl wr.heap.size 0 z.cells.toArray rfl rfl (by rw [hW1.out]; exact HT2.out) HJ.out hOz ?_; rw [hW1.out, HW2.out]) | fail)
    go_ret
    exact ⟨ret_int HR3.out, hbT2⟩
   ·have HR3 : Hid (seatFrom no ((ls.map SeatA.v).drop (k + 1)) (k + 1) = R) := by have h := HR2.out; rw [if_neg hq] at h; exact h
    have hqb : (z.no == no) = false := by simpa using hq
    clear hq HR2
    go_wp2_with (first | (guard_target = wpList _ _ _ (Oper.mk (some 14) _ _ _ _ _ :: _) _ _; refine wpList_load_mid rfl 45 (.tmp 13) rfl b (off + k * 20) rfl z.cells _ HRG.out Tryd.underlying45 rfl HJ.out ?_) | (guard_target = wpList _ _ _ (Oper.mk none (Op.store _ (Operand.tmp 6) _) _ _ _ _ :: _) _ _; refine wpList_store_mid rfl 45 (.tmp 6) (.tmp 14) rfl wr.heap.size 0 z.cells.toArray rfl rfl (by rw [hW1.out]; exact HT2.out) HJ.out hOz ?_; rw [hW1.out, HW2.out]) | fail)
    go_roundw
    case rel => exact ⟨k + 1, by go_num, by omega, HR3, hB2⟩
    case measure => simp [intOf]; omega
  ·have hkk : ¬ (k : Int) < (ls.length : Int) := by omega
   have HR' : Hid (-1 = R) := by
    have h := hR.out
    rw [List.drop_eq_nil_of_le (by rw [List.length_map]; omega), seatFrom] at h
    exact h
   clear hR
   go_wp2
   go_ret
   exact ⟨ret_int HR'.out, hbT⟩
def mkB (bs : List Bool) : List Value := bs.map Value.bool ++ List.replicate (4 - bs.length) (.bool false)
theorem mkB_set (bs : List Bool) (b : Bool) (h : bs.length < 4) : (mkB bs).set bs.length (.bool b) = mkB (bs ++ [b]) := by
 unfold mkB
 rw [List.set_append_right _ _ (by simp)]
 have e : 4 - bs.length = (4 - (bs ++ [b]).length) + 1 := by simp; omega
 rw [e, List.replicate_succ]
 simp
theorem mkB_len (bs : List Bool) (h : bs.length ≤ 4) : (mkB bs).length = 4 := by simp [mkB]; omega
theorem mkB_some (bs : List Bool) (h : bs.length ≤ 4) (k : Nat) (hk : k < 4) : ∃ v, (mkB bs)[k]? = some v := ⟨_, List.getElem?_eq_getElem (by rw [mkB_len bs h]; exact hk)⟩
def FourAns (bs : List Bool) (e : Ending) : Prop := ∃ c0 c1 c2 c3 : Bool, e = .returned (.agg #[.bool c0, .bool c1, .bool c2, .bool c3]) ∧ bs = [c0, c1, c2, c3]
theorem take_snoc (ss : List SlotA) (q : SlotV → Bool) (k : Nat) (h : k < ss.length) : (ss.take (k + 1)).map (fun s => q s.v) = (ss.take k).map (fun s => q s.v) ++ [q (ss.getD k zeroS).v] := by
 rw [List.take_add_one, List.map_append]
 simp [List.getD, h]
theorem markSlots_ok (p : PageA) (h4 : p.ss.length = 4) (w : World) (hg : ErrT w) (hr : ReadsS w p.ss) (hl : Fit p.ss) :
  Calls Tryd.prog 49 #[.agg p.cells.toArray, .func (.func 50) #[] #[]] w fun e w' => FourAns (p.ss.map (fun s => slotB s.v)) e ∧ Below w.heap.size w w' := by
 obtain ⟨n, ss⟩ := p
 simp only [PageA.cells] at *
 obtain ⟨W, hW, b0, b1, b2, hbW, hsW⟩ := boxes3 w (.int .i64 n :: cellsS ss) [.bool false, .bool false, .bool false, .bool false] [.bool false, .bool false, .bool false, .bool false] 43 86 86
 have b2' : Box W (w.heap.size + 1 + 1) (mkB []) 86 := b2
 have hsW' : w.heap.size + 1 + 1 < W.heap.size := by omega
 have hrg0 : W.rangeAt w.heap.size 1 (cellsS ss) := Box.range [.int .i64 n] (cellsS ss) [] (by simpa using b0)
 have hi0 : (Tryd.prog.info? 41).map (·.size) = some (cellsS ss).length := by rw [cellsS_len, h4]; kernel_rfl
 have HX := run_index_slot ss h4
 have H4 : Hid (ss.length = 4) := h4
 clear b2 hsW h4
 go_enter Tryd.func49, Tryd.ntmps49
 go_wp2_with (first | (guard_target = wpList _ _ _ (Oper.mk (some 9) _ _ _ _ _ :: _) _ _; refine wpList_load_mid rfl 41 (.tmp 8) rfl w.heap.size 1 rfl (cellsS ss) _ (by rw [hW.out]; exact hrg0) Tryd.underlying41 rfl hi0 ?_) | fail)
 rw [hW.out]
 clear hW hrg0 hi0
 go_loopw [10] (fun i wr => ∃ (k : Nat) (bs : List Bool), i = .int .i64 k ∧ k ≤ 4 ∧ Hid (bs.length = k ∧ bs = (ss.take k).map (fun s => slotB s.v)) ∧ Box wr (w.heap.size + 1 + 1) (mkB bs) 86 ∧ Below (w.heap.size + 1 + 1) W wr)
  (fun i _ => 4 - (intOf i).toNat)
 case atStart => exact ⟨0, [], rfl, by omega, ⟨rfl, rfl⟩, b2', Below.refl _ _⟩
 case round =>
  obtain ⟨k, bs, rfl, hk, hbs, hbox, hbl⟩ := hrel
  clear b2'
  have b1r := b1.below hbl (by omega)
  have hsr := hbl.size
  by_cases hlt : k < 4
  ·have hkl : k < ss.length := by rw [H4.out]; exact hlt
   have hx := HX k hlt
   clear HX
   have hbs4 : bs.length ≤ 4 := by have := hbs.out.1; omega
   have HV : Hid (_ = _) := take_snoc ss (fun s => slotB s) k hkl
   have hgr := hg.keep (hbW.trans (hbl.mono (by omega)))
   have hrk := (hr _ (getD_mem hkl)).below (hbW.trans (hbl.mono (by omega)))
   have hlk : Fit [ss.getD k zeroS] := fun s hs => by obtain rfl := List.mem_singleton.1 hs; exact hl _ (getD_mem hkl)
   generalize ss.getD k zeroS = s at *
   simp only [SlotA.cells] at hx
   obtain ⟨W1, hW1, bx, hbx1, hsx1⟩ := boxes1 wr [.bool s.v.has, .int .i64 s.v.o.kind, .slice s.aI s.v.o.ints.length s.cI, .slice s.aR s.v.o.refs.length s.cR] 40
   have hsz := hbox.lt
   have B1 : Below (w.heap.size + 1 + 1) W W1 := hbl.trans (hbx1.mono (by omega))
   go_wp2_with fail
   rw [hW1.out]
   clear hx
   refine (slotOk_any s W1 (hgr.keep hbx1) (hrk.below hbx1) hlk).mono ?_
   rintro e w2 ⟨rfl, hb2⟩
   have hs2 := hb2.size
   have bm2 := (hbox.below hbx1 hsz).below hb2 (by omega)
   obtain ⟨u, hu⟩ := mkB_some bs hbs4 k hlt
   have hc := bm2.cell k u hu
   have hf := bm2.frozen k
   obtain ⟨W3, hW3, b3, hw3, hs3⟩ := box_set bm2 k (.bool (slotB s.v))
   have b3' : Box W3 (w.heap.size + 1 + 1) (mkB (bs ++ [slotB s.v])) 86 := by
    have e := mkB_set bs (slotB s.v) (by have := hbs.out.1; omega)
    rw [hbs.out.1] at e
    rw [← e]; exact b3
   have HB : Hid ((bs ++ [slotB s.v]).length = k + 1 ∧ bs ++ [slotB s.v] = (ss.take (k + 1)).map (fun s => slotB s.v)) := ⟨by have := hbs.out.1; simp; omega, by rw [HV.out, ← hbs.out.2]⟩
   have B3 : Below (w.heap.size + 1 + 1) W W3 := (B1.trans (hb2.mono (by omega))).trans (hw3.below (Nat.le_refl _) (by omega))
   clear b3 bm2 hu HV
   go_wp2_with fail
   rw [hW3.out]
   go_roundw
   case rel => exact ⟨k + 1, bs ++ [slotB s.v], by go_num, by omega, HB, b3', B3⟩
   case measure => simp [intOf]; omega
  ·obtain rfl : k = 4 := by omega
   have hkk : ¬ ((4 : Nat) : Int) < 4 := by omega
   have HQ : Hid (bs = ss.map (fun s => slotB s.v)) := by rw [Hid, hbs.out.2, List.take_of_length_le (by rw [H4.out]; omega)]
   obtain ⟨c0, c1, c2, c3, rfl⟩ : ∃ c0 c1 c2 c3, bs = [c0, c1, c2, c3] := by
    match bs, hbs.out.1 with
    | [c0, c1, c2, c3], _ => exact ⟨c0, c1, c2, c3, rfl⟩
   have hbx : Box wr (w.heap.size + 1 + 1) [.bool c0, .bool c1, .bool c2, .bool c3] 86 := hbox
   obtain ⟨x0, x1, x2, x3, _⟩ := hbx.four
   obtain ⟨y0, y1, y2, y3, f0, f1, f2, f3⟩ := b1r.four
   obtain ⟨WF, hWF, bF, hwF, hsF⟩ := box4_fill b1r (.bool c0) (.bool c1) (.bool c2) (.bool c3)
   have hbF : Below w.heap.size w WF := (hbW.trans (hbl.mono (by omega))).trans (hwF.below (by omega) (by omega))
   clear hbox hbs
   go_wp2
   rw [hWF.out]
   obtain ⟨q0, q1, q2, q3, _⟩ := bF.four
   exact bodyPost_ret (v := .agg #[.bool c0, .bool c1, .bool c2, .bool c3]) (by simp [results, Tryd.results49, go_sem, q0, q1, q2, q3]) rfl ⟨⟨c0, c1, c2, c3, rfl, HQ.out.symm⟩, hbF⟩
theorem okP_out {n : Int} {vs : List SlotV} (h : inB n 0 1000000 = false) : okP n vs = false := by simp [okP, h]
theorem okP_four {n : Int} {ss : List SlotA} {c0 c1 c2 c3 : Bool} (h : inB n 0 1000000 = true) (hb : ss.map (fun s => slotB s.v) = [c0, c1, c2, c3]) : okP n (ss.map (·.v)) = (c0 && (c1 && (c2 && c3))) := by
 have e : (ss.map (·.v)).map slotB = [c0, c1, c2, c3] := by rw [List.map_map]; exact hb
 have e2 : ∀ vs : List SlotV, vs.all slotB = (vs.map slotB).all id := fun vs => by induction vs with
  | nil => rfl
  | cons v r ih => rw [List.all_cons, List.map_cons, List.all_cons, ← ih]; rfl
 rw [okP, h, Bool.and_true, e2, e]
 simp
theorem run_eq4 (c0 c1 c2 c3 : Bool) (w : World) : (Op.equalIn 10000 86 (.agg #[.bool c0, .bool c1, .bool c2, .bool c3]) (.agg #[.bool true, .bool true, .bool true, .bool true])).run Tryd.prog w = .ok (c0 && (c1 && (c2 && c3))) w := by
 cases c0 <;> cases c1 <;> cases c2 <;> cases c3 <;> kernel_rfl
theorem implPageOk_any (p : PageA) (h4 : p.ss.length = 4) (w : World) (hg : ErrT w) (hr : ReadsS w p.ss) (hl : Fit p.ss) :
  Calls Tryd.prog 30 #[.agg p.cells.toArray] w fun e w' => e = .returned (.bool (okP p.lsn (p.ss.map (·.v)))) ∧ Below w.heap.size w w' := by
 obtain ⟨W, hW, b0, b1, hbW, hsW⟩ := boxes2 w p.cells [.bool true, .bool true, .bool true, .bool true] 43 86
 have hc0 : ∀ w', Below W.heap.size W w' → w'.cell? ⟨w.heap.size, 0, none⟩ = some (.int .i64 p.lsn) := fun w' hh => (b0.below hh b0.lt).cell 0 _ rfl
 have hw0 := hc0 W (Below.refl _ _)
 cases hin : inB p.lsn 0 1000000 with
 | false =>
  have HF : Hid (okP p.lsn (p.ss.map (·.v)) = false) := okP_out hin
  have hz := inB_false hin
  clear hin hc0
  generalize okP p.lsn (p.ss.map (·.v)) = R at *
  generalize p.lsn = n at *
  rcases hz with h1 | ⟨h1, h2⟩
  ·have h1' : decide ((0 : Int) ≤ n) = false := decide_eq_false (by omega)
   clear h1
   go_enter Tryd.func30, Tryd.ntmps30
   go_wp2_with fail
   rw [hW.out]
   go_quiet (fail)
   go_wp2
   go_ret
   exact ⟨ret_bool HF.out.symm, below_drewN hbW _⟩
  ·have h1' : decide ((0 : Int) ≤ n) = true := decide_eq_true (by omega)
   have h2' : decide (n ≤ 1000000) = false := decide_eq_false (by omega)
   clear h1 h2
   go_enter Tryd.func30, Tryd.ntmps30
   go_wp2_with fail
   rw [hW.out]
   go_quiet (fail)
   go_wp2
   go_ret
   exact ⟨ret_bool HF.out.symm, below_drewN hbW _⟩
 | true =>
  obtain ⟨h1, h2⟩ := inB_true hin
  have h1' : (0 : Int) ≤ p.lsn := by omega
  have h2' : p.lsn ≤ 1000000 := by omega
  have HIN : Hid (_ = _) := hin
  have HRG : Hid (∀ w', Below W.heap.size W w' → w'.rangeAt w.heap.size 0 p.cells) := fun w' hh => Box.range [] p.cells [] (by simpa using b0.below hh b0.lt)
  have HRA : Hid (∀ w', Below W.heap.size W w' → w'.rangeAt (w.heap.size + 1) 0 [.bool true, .bool true, .bool true, .bool true]) := fun w' hh => Box.range [] [.bool true, .bool true, .bool true, .bool true] [] (by simpa using b1.below hh b1.lt)
  have HI : Hid ((Tryd.prog.info? 43).map (·.size) = some p.cells.length) := by rw [Hid, page_len p h4]; kernel_rfl
  clear hin h1 h2
  go_enter Tryd.func30, Tryd.ntmps30
  go_wp2_with fail
  rw [hW.out]
  refine wp_region_held_drew (S := fun w' => w'.cell? ⟨w.heap.size, 0, none⟩ = some (.int .i64 p.lsn) ∧ w'.rangeAt w.heap.size 0 p.cells ∧ w'.rangeAt (w.heap.size + 1) 0 [.bool true, .bool true, .bool true, .bool true]) (by kernel_rfl) ?_ (fun hHeld => ?_)
  ·exact ⟨hc0 _ (Below.refl _ _).drew, HRG.out _ (Below.refl _ _).drew, HRA.out _ (Below.refl _ _).drew⟩
  have hd1 : decide ((0 : Int) ≤ p.lsn) = true := decide_eq_true h1'
  have hd2 : decide (p.lsn ≤ 1000000) = true := decide_eq_true h2'
  refine tk 0 (v := .pointer (some ⟨w.heap.size, 0, none⟩)) rfl (Or.inl ⟨by rfl, fun w' hw' => ?_⟩) hHeld ?_
  ·go_simp
  go_simp
  refine tk 1 (v := .int .i64 p.lsn) rfl (Or.inl ⟨by rfl, fun w' hw' => ?_⟩) hHeld ?_
  ·have q := hw'.1; go_simp
  go_simp
  refine tk 2 (v := .bool true) rfl (Or.inl ⟨by rfl, fun w' hw' => ?_⟩) hHeld ?_
  ·go_simp
  go_simp
  refine tk 3 (v := .bool true) rfl (Or.inl ⟨by rfl, fun w' hw' => ?_⟩) hHeld ?_
  ·go_simp
  go_simp
  refine tk 4 (v := .pointer (some ⟨w.heap.size, 0, none⟩)) rfl (Or.inl ⟨by rfl, fun w' hw' => ?_⟩) hHeld ?_
  ·go_simp
  go_simp
  refine tk 5 (v := .int .i64 p.lsn) rfl (Or.inl ⟨by rfl, fun w' hw' => ?_⟩) hHeld ?_
  ·have q := hw'.1; go_simp
  go_simp
  refine tk 6 (v := .bool true) rfl (Or.inl ⟨by rfl, fun w' hw' => ?_⟩) hHeld ?_
  ·go_simp
  go_simp
  refine tk 7 (v := .bool true) rfl (Or.inl ⟨by rfl, fun w' hw' => ?_⟩) hHeld ?_
  ·go_simp
  go_simp
  refine tk 8 (v := .bool true) rfl (Or.inl ⟨by rfl, fun w' hw' => ?_⟩) hHeld ?_
  ·go_simp
  go_simp
  refine tk 9 rfl (yieldsIf_load_mid (by rfl) _ _ rfl _ _ rfl p.cells _ (fun _ h => h.2.1) Tryd.underlying43 rfl HI.out) hHeld ?_
  go_simp
  refine tk 11 rfl (yieldsIf_load_mid (by rfl) _ _ rfl _ _ rfl [.bool true, .bool true, .bool true, .bool true] _ (fun _ h => h.2.2) Tryd.underlying86 rfl (by kernel_rfl)) hHeld ?_
  go_simp
  refine wpAnyH_ready (rs := [10]) (by kernel_rfl) (by simp) ?_
  refine AllReadyH.cons rfl (fun K hK => ?_) AllReadyH.nil
  go_simp
  refine (markSlots_ok p h4 _ (hg.keep hbW.drew) (hr.below hbW.drew) hl).mono ?_
  rintro e w2 ⟨⟨c0, c1, c2, c3, rfl, hcs⟩, hb2⟩
  have B2 : Below W.heap.size W w2 := ((Below.refl _ _).drew).trans hb2
  have HR : Hid (_ = _) := okP_four HIN.out hcs
  clear hcs
  refine hK.out _ _ ⟨hc0 _ B2, HRG.out _ B2, HRA.out _ B2⟩ (fun hHeld => ?_)
  clear hK K
  refine tk 12 (v := .bool (c0 && (c1 && (c2 && c3)))) rfl (Or.inl ⟨by rfl, fun w' hw' => ?_⟩) hHeld ?_
  ·have q := run_eq4 c0 c1 c2 c3 w'; go_simp
  go_simp
  generalize (c0 && (c1 && (c2 && c3))) = D at *
  refine tk 13 (v := .bool D) rfl (Or.inl ⟨by rfl, fun w' hw' => ?_⟩) hHeld ?_
  ·go_simp
  go_simp
  refine tk 14 (v := .bool D) rfl (Or.inl ⟨by rfl, fun w' hw' => ?_⟩) hHeld ?_
  ·go_simp
  go_simp
  refine wpAnyH_done (by kernel_rfl) ?_ _
  go_wp2
  go_ret
  exact ⟨ret_bool HR.out.symm, hbW.trans (B2.mono hbW.size)⟩
theorem pageNoOk_any (no : Int) (w : World) : Calls Tryd.prog 29 #[.int .i64 no] w fun e w' => e = .returned (.bool (inB no 0 7)) ∧ w' = w := by
 by_cases h1 : 0 ≤ no
 ·by_cases h2 : no < 8
  ·have HB : Hid (inB no 0 7 = true) := by simp [Hid, inB]; omega
   go_enter Tryd.func29, Tryd.ntmps29
   go_wp2
   go_ret
   exact ⟨ret_bool HB.out.symm, rfl⟩
  ·have HB : Hid (inB no 0 7 = false) := by simp [Hid, inB]; omega
   go_enter Tryd.func29, Tryd.ntmps29
   go_wp2
   go_ret
   exact ⟨ret_bool HB.out.symm, rfl⟩
 ·have HB : Hid (inB no 0 7 = false) := by simp [Hid, inB]; omega
  go_enter Tryd.func29, Tryd.ntmps29
  go_wp2
  go_ret
  exact ⟨ret_bool HB.out.symm, rfl⟩
theorem fresh_v (p : PoolA) (k : Nat) : freshAt p.v.seats k = (inB (p.seats.getD k zeroSt).no 0 7 && okP (p.seats.getD k zeroSt).lsn ((p.seats.getD k zeroSt).ss.map (·.v)) && decide (seatedOf p.v.seats (p.seats.getD k zeroSt).no = k)) := by
 rw [freshAt, PoolA.v, seatV_at]
 rfl
theorem implPoolOk_any (p : PoolA) (w : World) (hg : ErrT w) (hr : p.reads w) (hl : p.short 1099511627776) :
  Calls Tryd.prog 28 #[.agg p.cells.toArray] w fun e w' => e = .returned (.bool (okPool p.v)) ∧ Below w.heap.size w w' := by
 have HLEN : Hid (¬ p.seats.length ≤ 3 → okPool p.v = false) := fun h => okPool_long (by simpa [PoolA.v] using h)
 have HHAND : Hid (inB p.hand 0 2 = false → okPool p.v = false) := fun h => okPool_hand h
 have HNO : Hid (∀ k, k < p.seats.length → (inB (p.seats.getD k zeroSt).no 0 7 && okP (p.seats.getD k zeroSt).lsn ((p.seats.getD k zeroSt).ss.map (·.v)) && decide (seatedOf p.v.seats (p.seats.getD k zeroSt).no = k)) = false → okPool p.v = false) := fun k hk h => okPool_no k (by simpa [PoolA.v] using hk) (by rw [fresh_v]; exact h)
 have HALL : Hid (p.seats.length ≤ 3 → inB p.hand 0 2 = true → (∀ k, k < p.seats.length → (inB (p.seats.getD k zeroSt).no 0 7 && okP (p.seats.getD k zeroSt).lsn ((p.seats.getD k zeroSt).ss.map (·.v)) && decide (seatedOf p.v.seats (p.seats.getD k zeroSt).no = k)) = true) → okPool p.v = true) := fun h0 h1 h => okPool_yes (by simpa [PoolA.v] using h0) h1 (fun k hk => by rw [fresh_v]; exact h k (by simpa [PoolA.v] using hk))
 have HST : Hid (∀ no u, Below w.heap.size w u → Calls Tryd.prog 31 #[.agg p.cells.toArray, .int .i64 no] u fun r w' => r = .returned (.int .i64 (seatedOf p.v.seats no)) ∧ Below u.heap.size u w') := fun no u hu => implSeated_any p no u (hr.below hu) hl
 generalize okPool p.v = R at *
 generalize seatedOf p.v.seats = SD at *
 have HS : Hid (∀ k, k < p.seats.length → (p.seats.getD k zeroSt).short 1099511627776) := fun k hk => hl.at k hk
 have hlen := hl.len
 obtain ⟨rs, s, a, c⟩ := p
 simp only [PoolA.reads, PoolA.cells] at *
 obtain ⟨W, hW, b0, hbW, hsW⟩ := boxes1 w [.slice a rs.length c, .int .i64 s] 37
 have c0 := b0.cell 0 _ rfl
 have c1 := b0.cell 1 _ rfl
 have HJ : Hid ((Tryd.prog.info? 45).map (·.size) = some 20) := by rw [Hid]; kernel_rfl
 clear hl hsW
 have HC : Hid (∀ k, k < rs.length → ∃ b off, a = some ⟨b, off, none⟩ ∧ W.rangeAt b (off + k * 20) (rs.getD k zeroSt).cells ∧ (rs.getD k zeroSt).reads W) := fun k hk => by
  obtain ⟨b, off, ha, hc⟩ := (ReadsSts.below hr hbW) (by intro e; rw [e] at hk; simp at hk)
  exact ⟨b, off, ha, (hc k hk).1, (hc k hk).2⟩
 clear hr
 by_cases h4 : rs.length ≤ 3
 case neg =>
  have HR : Hid (R = false) := HLEN.out h4
  clear HLEN HHAND HNO HALL
  go_enter Tryd.func28, Tryd.ntmps28
  go_wp2_with fail
  rw [hW.out]
  go_ret
  exact ⟨ret_bool HR.out.symm, hbW⟩
 case pos =>
  by_cases h5 : s < 0
  ·have HR : Hid (R = false) := HHAND.out (by simp [inB]; omega)
   clear HLEN HHAND HNO HALL
   go_enter Tryd.func28, Tryd.ntmps28
   go_upto_region 1 with fail
   rw [hW.out]
   go_wp2_with fail
   go_ret
   exact ⟨ret_bool HR.out.symm, hbW⟩
  by_cases h6 : s < 3
  case neg =>
   have HR : Hid (R = false) := HHAND.out (by simp [inB]; omega)
   clear HLEN HHAND HNO HALL
   have h6b : 3 ≤ s := by omega
   go_enter Tryd.func28, Tryd.ntmps28
   go_upto_region 1 with fail
   rw [hW.out]
   go_wp2_with fail
   go_ret
   exact ⟨ret_bool HR.out.symm, hbW⟩
  case pos =>
   have HALL2 := HALL.out h4 (by simp [inB]; omega)
   have HALL3 : Hid _ := HALL2
   clear HALL2 HALL HLEN HHAND
   go_enter Tryd.func28, Tryd.ntmps28
   go_upto_region 1 with fail
   rw [hW.out]
   clear hW
   go_wp2_with fail
   go_loopw [22] (fun i wr => ∃ k : Nat, k ≤ rs.length ∧ i = .int .i64 k ∧ Hid (∀ m, m < k → (inB (rs.getD m zeroSt).no 0 7 && okP (rs.getD m zeroSt).lsn ((rs.getD m zeroSt).ss.map (·.v)) && decide (SD (rs.getD m zeroSt).no = m)) = true) ∧ Below W.heap.size W wr) (fun i _ => rs.length - (intOf i).toNat)
   case atStart => exact ⟨0, Nat.zero_le _, rfl, fun j hj => by omega, Below.refl _ _⟩
   case round =>
    obtain ⟨k, hk, rfl, hall, hbl⟩ := hrel
    have hbm : Below w.heap.size w wr := hbW.trans (hbl.mono hbW.size)
    have HP : Hid (∀ u, Below W.heap.size W u → u.cell? ⟨w.heap.size, 0, none⟩ = some (.slice a rs.length c) ∧ u.cell? ⟨w.heap.size, 1, none⟩ = some (.int .i64 s)) := fun u hu => ⟨(hu.cell (block_lt c0)).trans c0, (hu.cell (block_lt c1)).trans c1⟩
    clear c0 c1
    by_cases hlt : k < rs.length
    ·obtain ⟨b, off, rfl, hcell, hrd⟩ := HC.out k hlt
     have HRG : Hid (wr.rangeAt b (off + k * 20) (rs.getD k zeroSt).cells) := rangeSt_below hcell hbl
     have hrdw := hrd.below hbl
     have hsh := HS.out k hlt
     have HN : Hid ((inB (rs.getD k zeroSt).no 0 7 && okP (rs.getD k zeroSt).lsn ((rs.getD k zeroSt).ss.map (·.v)) && decide (SD (rs.getD k zeroSt).no = k)) = false → R = false) := HNO.out k hlt
     have HY : Hid ((inB (rs.getD k zeroSt).no 0 7 && okP (rs.getD k zeroSt).lsn ((rs.getD k zeroSt).ss.map (·.v)) && decide (SD (rs.getD k zeroSt).no = k)) = true → ∀ m, m < k + 1 → (inB (rs.getD m zeroSt).no 0 7 && okP (rs.getD m zeroSt).lsn ((rs.getD m zeroSt).ss.map (·.v)) && decide (SD (rs.getD m zeroSt).no = m)) = true) := fun h m hm => by
      by_cases e : m = k
      ·rw [e]; exact h
      ·exact hall.out m (by omega)
     have hkk : (k : Int) < (rs.length : Int) := by omega
     have hk0 : (0 : Int) ≤ (k : Int) := by omega
     clear hcell HC HNO hall HS hrd
     generalize rs.getD k zeroSt = y at *
     obtain ⟨W1, hW1, b1, hb1, hs1⟩ := boxes1 wr [.int .i64 0, .int .i64 0, .bool false, .int .i64 0, .slice none 0 0, .slice none 0 0, .bool false, .int .i64 0, .slice none 0 0, .slice none 0 0, .bool false, .int .i64 0, .slice none 0 0, .slice none 0 0, .bool false, .int .i64 0, .slice none 0 0, .slice none 0 0, .bool false, .bool false] 45
     obtain ⟨W2, hW2, hw2, hs2, HT2, _, b2⟩ := seat_out y _ rfl b1
     have hB2' : Below wr.heap.size wr W2 := hb1.trans (hw2.below (Nat.le_refl _) (by omega))
     have hB2 : Below W.heap.size W W2 := hbl.trans (hB2'.mono hbl.size)
     have hbT2 : Below w.heap.size w W2 := hbW.trans (hB2.mono hbW.size)
     have HX : Hid (∀ u, Below W2.heap.size W2 u → u.cell? ⟨wr.heap.size, 0, none⟩ = some (.int .i64 y.no) ∧ u.rangeAt wr.heap.size 1 y.page.cells) := fun u hu => ⟨(b2.below hu b2.lt).cell 0 _ rfl, seat_page y (b2.below hu b2.lt)⟩
     have x0 := (HX.out W2 (Below.refl _ _)).1
     have xp := (HX.out W2 (Below.refl _ _)).2
     have HIP := Tryd.infoPg y.page rfl
     have C := implPageOk_any y.page rfl W2 (hg.keep hbT2) (hrdw.below hB2') hsh
     have e2 : y.page.lsn = y.lsn := rfl
     have e3 : y.page.ss = y.ss := rfl
     rw [e2, e3] at C
     have CN := pageNoOk_any y.no W2
     have HW2 : Hid (W1.setCells wr.heap.size 0 y.cells.toArray.toList = W2) := hW2.out
     have hOz := seat_one y
     clear hs1 hs2 b1 b2 hb1 hw2 hW2 hbl hbm e2 e3 hrdw hsh hB2'
     cases h6 : inB y.no 0 7 with
     | false =>
      have HR2 : Hid (R = false) := HN.out (by rw [h6]; rfl)
      rw [h6] at CN
      clear HN HY C h6 xp
      go_wp2_with (first | (guard_target = wpList _ _ _ (Oper.mk (some 26) _ _ _ _ _ :: _) _ _; refine wpList_load_mid rfl 45 (.tmp 25) rfl b (off + k * 20) rfl y.cells _ HRG.out Tryd.underlying45 rfl HJ.out ?_) | (guard_target = wpList _ _ _ (Oper.mk none (Op.store _ (Operand.tmp 4) _) _ _ _ _ :: _) _ _; refine wpList_store_mid rfl 45 (.tmp 4) (.tmp 26) rfl wr.heap.size 0 y.cells.toArray rfl rfl (by rw [hW1.out]; exact HT2.out) HJ.out hOz ?_; rw [hW1.out, HW2.out]) | fail)
      refine CN.mono ?_
      rintro e u ⟨rfl, hu⟩
      rw [hu]
      clear hu u CN
      go_wp2_with fail
      go_ret
      exact ⟨ret_bool HR2.out.symm, hbT2⟩
     | true =>
      rw [h6, Bool.true_and] at HN HY
      rw [h6] at CN
      clear h6
      cases h7 : okP y.lsn (y.ss.map (·.v)) with
      | false =>
       have HR2 : Hid (R = false) := HN.out (by rw [h7]; rfl)
       rw [h7] at C
       clear HN HY h7
       generalize y.page.cells = pc at *
       go_wp2_with (first | (guard_target = wpList _ _ _ (Oper.mk (some 26) _ _ _ _ _ :: _) _ _; refine wpList_load_mid rfl 45 (.tmp 25) rfl b (off + k * 20) rfl y.cells _ HRG.out Tryd.underlying45 rfl HJ.out ?_) | (guard_target = wpList _ _ _ (Oper.mk none (Op.store _ (Operand.tmp 4) _) _ _ _ _ :: _) _ _; refine wpList_store_mid rfl 45 (.tmp 4) (.tmp 26) rfl wr.heap.size 0 y.cells.toArray rfl rfl (by rw [hW1.out]; exact HT2.out) HJ.out hOz ?_; rw [hW1.out, HW2.out]) | fail)
       refine CN.mono ?_
       rintro e u ⟨rfl, hu⟩
       rw [hu]
       clear hu u CN
       go_wp2_with (first | (guard_target = wpList _ _ _ (Oper.mk (some 33) _ _ _ _ _ :: _) _ _; refine wpList_load_mid_if (by rfl) 43 (.tmp 32) rfl wr.heap.size 1 rfl pc _ xp Tryd.underlying43 rfl HIP ?_) | fail)
       refine C.mono ?_
       rintro e w1 ⟨rfl, hb1⟩
       go_wp2_with fail
       go_ret
       exact ⟨ret_bool HR2.out.symm, hbT2.trans (hb1.mono hbT2.size)⟩
      | true =>
       rw [h7, Bool.true_and] at HN HY
       rw [h7] at C
       clear h7
       generalize y.page.cells = pc at *
       go_wp2_with (first | (guard_target = wpList _ _ _ (Oper.mk (some 26) _ _ _ _ _ :: _) _ _; refine wpList_load_mid rfl 45 (.tmp 25) rfl b (off + k * 20) rfl y.cells _ HRG.out Tryd.underlying45 rfl HJ.out ?_) | (guard_target = wpList _ _ _ (Oper.mk none (Op.store _ (Operand.tmp 4) _) _ _ _ _ :: _) _ _; refine wpList_store_mid rfl 45 (.tmp 4) (.tmp 26) rfl wr.heap.size 0 y.cells.toArray rfl rfl (by rw [hW1.out]; exact HT2.out) HJ.out hOz ?_; rw [hW1.out, HW2.out]) | fail)
       refine CN.mono ?_
       rintro e u ⟨rfl, hu⟩
       rw [hu]
       clear hu u CN
       go_wp2_with (first | (guard_target = wpList _ _ _ (Oper.mk (some 33) _ _ _ _ _ :: _) _ _; refine wpList_load_mid_if (by rfl) 43 (.tmp 32) rfl wr.heap.size 1 rfl pc _ xp Tryd.underlying43 rfl HIP ?_) | fail)
       refine C.mono ?_
       rintro e w1 ⟨rfl, hb1⟩
       have B1 : Below W.heap.size W w1 := hB2.trans (hb1.mono hB2.size)
       have B1' : Below w.heap.size w w1 := hbW.trans (B1.mono hbW.size)
       have CS := HST.out y.no w1 B1'
       have p0 := (HP.out w1 B1).1
       have p1 := (HP.out w1 B1).2
       clear x0 xp C
       have x0 := (HX.out w1 hb1).1
       clear HX HP HST hB2 hbT2 hb1
       by_cases h8 : SD y.no = (k : Int)
       ·have HR2 := HY.out (by simpa using h8)
        have HR3 : Hid _ := HR2
        rw [h8] at CS
        have hne : ((k : Int) != (k : Int)) = false := by simp
        clear HN HY HR2 h8
        go_wp2_with fail
        refine CS.mono ?_
        rintro e w2 ⟨rfl, hb2⟩
        have B2 : Below W.heap.size W w2 := B1.trans (hb2.mono B1.size)
        go_wp2_with fail
        go_roundw
        case rel => exact ⟨k + 1, by omega, by go_num, HR3, B2⟩
        case measure => simp [intOf]; omega
       ·have HR2 : Hid (R = false) := HN.out (by simpa using h8)
        have hne : (SD y.no != (k : Int)) = true := by simpa using h8
        clear HN HY h8
        generalize SD y.no = sd at *
        go_wp2_with fail
        refine CS.mono ?_
        rintro e w2 ⟨rfl, hb2⟩
        go_wp2_with fail
        go_ret
        exact ⟨ret_bool HR2.out.symm, B1'.trans (hb2.mono B1'.size)⟩
    ·have HE : Hid (true = R) := (HALL3.out (fun m hm => hall.out m (by omega))).symm
     clear hall HALL3
     go_wp2
     go_ret
     exact ⟨ret_bool HE.out, hbm⟩
theorem seatB_v (s : SeatA) : seatB s.v = (inB s.no 0 7 && okP s.lsn (s.ss.map (·.v))) := rfl
theorem specPoolOk_any (p : PoolA) (w : World) (hr : p.reads w) (hl : p.short 1099511627776) :
  Calls Tryd.prog 21 #[.agg p.cells.toArray] w fun e w' => e = .returned (.bool (okPool p.v)) ∧ Below w.heap.size w w' := by
 have HLEN : Hid (¬ p.seats.length ≤ 3 → okPool p.v = false) := fun h => okPool_long (by simpa [PoolA.v] using h)
 have HHAND : Hid (inB p.hand 0 2 = false → okPool p.v = false) := fun h => okPool_hand h
 have HNO : Hid (∀ k, k < p.seats.length → seatB (p.seats.getD k zeroSt).v = false → okPool p.v = false) := fun k hk h => okPool_no k (by simpa [PoolA.v] using hk) (fresh_bad (by rw [PoolA.v, seatV_at]; exact h))
 have HDUP : Hid (∀ k j, k < p.seats.length → j < k → (p.seats.getD j zeroSt).no = (p.seats.getD k zeroSt).no → okPool p.v = false) := fun k j hk hj h => okPool_no k (by simpa [PoolA.v] using hk) (fresh_dup hj (by simpa [PoolA.v] using hk) (by rw [PoolA.v, seatV_at, seatV_at]; exact h))
 have HALL : Hid (p.seats.length ≤ 3 → inB p.hand 0 2 = true → (∀ k, k < p.seats.length → seatB (p.seats.getD k zeroSt).v = true ∧ ∀ j, j < k → (p.seats.getD j zeroSt).no ≠ (p.seats.getD k zeroSt).no) → okPool p.v = true) := fun h0 h1 h => okPool_yes (by simpa [PoolA.v] using h0) h1 (fun k hk => by
  have hk' : k < p.seats.length := by simpa [PoolA.v] using hk
  refine fresh_yes hk (by rw [PoolA.v, seatV_at]; exact (h k hk').1) (fun j hj => ?_)
  rw [PoolA.v, seatV_at, seatV_at]
  exact (h k hk').2 j hj)
 generalize okPool p.v = R at *
 have HS : Hid (∀ k, k < p.seats.length → (p.seats.getD k zeroSt).short 1099511627776) := fun k hk => hl.at k hk
 have hlen := hl.len
 obtain ⟨rs, s, a, c⟩ := p
 simp only [PoolA.reads, PoolA.cells] at *
 obtain ⟨W, hW, b0, hbW, hsW⟩ := boxes1 w [.slice a rs.length c, .int .i64 s] 37
 have c0 := b0.cell 0 _ rfl
 have c1 := b0.cell 1 _ rfl
 clear hl hsW
 have HC : Hid (∀ k, k < rs.length → ∃ b off, a = some ⟨b, off, none⟩ ∧ (∀ j, j < rs.length → W.rangeAt b (off + j * 20) (rs.getD j zeroSt).cells) ∧ (rs.getD k zeroSt).reads W) := fun k hk => by
  obtain ⟨b, off, ha, hc⟩ := (ReadsSts.below hr hbW) (by intro e; rw [e] at hk; simp at hk)
  exact ⟨b, off, ha, fun j hj => (hc j hj).1, (hc k hk).2⟩
 clear hr
 by_cases h4 : rs.length ≤ 3
 case neg =>
  have HR : Hid (R = false) := HLEN.out h4
  clear HLEN HHAND HNO HALL HDUP
  go_enter Tryd.func21, Tryd.ntmps21
  go_wp2_with fail
  rw [hW.out]
  go_ret
  exact ⟨ret_bool HR.out.symm, hbW⟩
 case pos =>
  cases h5 : inB s 0 2 with
  | false =>
   have HR : Hid (R = false) := HHAND.out h5
   clear HLEN HHAND HNO HALL HDUP
   have C := l1In_any s 0 2 W
   rw [h5] at C
   clear h5
   go_enter Tryd.func21, Tryd.ntmps21
   go_wp2_with fail
   rw [hW.out]
   refine C.mono ?_
   rintro e u ⟨rfl, hu⟩
   rw [hu]
   clear hu u
   go_wp2
   go_ret
   exact ⟨ret_bool HR.out.symm, hbW⟩
  | true =>
   have HALL2 := HALL.out h4 h5
   have HALL3 : Hid _ := HALL2
   have C := l1In_any s 0 2 W
   rw [h5] at C
   clear h5 HALL2 HALL HLEN HHAND
   go_enter Tryd.func21, Tryd.ntmps21
   go_wp2_with fail
   rw [hW.out]
   refine C.mono ?_
   rintro e u ⟨rfl, hu⟩
   rw [hu]
   clear hu u hW C
   go_wp2_with fail
   go_loopw [3, 4] (fun i _ wr => ∃ k : Nat, k ≤ rs.length ∧ i = .int .i64 k ∧ Hid (∀ m, m < k → seatB (rs.getD m zeroSt).v = true ∧ ∀ j, j < m → (rs.getD j zeroSt).no ≠ (rs.getD m zeroSt).no) ∧ Below W.heap.size W wr) (fun i _ _ => rs.length - (intOf i).toNat)
   case atStart => exact ⟨0, Nat.zero_le _, rfl, fun j hj => by omega, Below.refl _ _⟩
   case round =>
    obtain ⟨k, hk, rfl, hall, hbl⟩ := hrel
    have hbm : Below w.heap.size w wr := hbW.trans (hbl.mono hbW.size)
    have HP : Hid (∀ u, Below W.heap.size W u → u.cell? ⟨w.heap.size, 0, none⟩ = some (.slice a rs.length c)) := fun u hu => (hu.cell (block_lt c0)).trans c0
    have r0 := HP.out wr hbl
    clear c0 c1
    by_cases hlt : k < rs.length
    ·obtain ⟨b, off, rfl, hcell, hrd⟩ := HC.out k hlt
     have HCL : Hid (∀ u, Below W.heap.size W u → ∀ j, j < rs.length → u.rangeAt b (off + j * 20) (rs.getD j zeroSt).cells) := fun u hu j hj => rangeSt_below (hcell j hj) hu
     have hyr := HCL.out wr hbl k hlt
     have x0 : wr.cell? ⟨b, off + k * 20, none⟩ = some (.int .i64 (rs.getD k zeroSt).no) := hyr 0 _ rfl
     have HPG : Hid (wr.rangeAt b (off + k * 20 + 1) (rs.getD k zeroSt).page.cells) := by
      intro j v hj
      have hjl := (List.getElem?_eq_some_iff.1 hj).1
      have := hyr (1 + j) v (by rw [SeatA.cells_page, Nat.add_comm, List.getElem?_cons_succ, List.getElem?_append_left hjl]; exact hj)
      rw [show off + k * 20 + 1 + j = off + k * 20 + (1 + j) by omega]
      exact this
     have HIP := (by show _ = some 17; kernel_rfl : (Tryd.prog.info? 43).map (·.size) = some (rs.getD k zeroSt).page.cells.length)
     have C := specPageOk_any (rs.getD k zeroSt).page rfl wr (hrd.below hbl) (HS.out k hlt)
     have CI := l1In_any (rs.getD k zeroSt).no 0 7 wr
     have HN : Hid (seatB (rs.getD k zeroSt).v = false → R = false) := HNO.out k hlt
     have HD : Hid (∀ j, j < k → (rs.getD j zeroSt).no = (rs.getD k zeroSt).no → R = false) := fun j hj h => HDUP.out k j hlt hj h
     have HY : Hid (seatB (rs.getD k zeroSt).v = true → (∀ j, j < k → (rs.getD j zeroSt).no ≠ (rs.getD k zeroSt).no) → ∀ m, m < k + 1 → seatB (rs.getD m zeroSt).v = true ∧ ∀ j, j < m → (rs.getD j zeroSt).no ≠ (rs.getD m zeroSt).no) := fun h h' m hm => by
      by_cases e : m = k
      ·rw [e]; exact ⟨h, h'⟩
      ·exact hall.out m (by omega)
     have hkk : (k : Int) < (rs.length : Int) := by omega
     have hk0 : (0 : Int) ≤ (k : Int) := by omega
     have HX0 : Hid (∀ u, Below W.heap.size W u → ∀ j, j < rs.length → u.cell? ⟨b, off + j * 20, none⟩ = some (.int .i64 (rs.getD j zeroSt).no)) := fun u hu j hj => HCL.out u hu j hj 0 _ rfl
     have e1 : PageA.cells (rs.getD k zeroSt).page = (rs.getD k zeroSt).page.cells := rfl
     rw [seatB_v] at HN HY
     have e2 : (rs.getD k zeroSt).page.lsn = (rs.getD k zeroSt).lsn := rfl
     have e3 : (rs.getD k zeroSt).page.ss = (rs.getD k zeroSt).ss := rfl
     rw [e2, e3] at C
     clear hcell HC HNO HDUP hall HS hrd hyr HCL e1 e2 e3
     generalize hy : rs.getD k zeroSt = y at *
     have HYE : Hid (rs.getD k zeroSt = y) := hy
     clear hy
     cases h6 : inB y.no 0 7 with
     | false =>
      have HR2 : Hid (R = false) := HN.out (by rw [h6]; rfl)
      rw [h6] at CI
      clear HN HY HD C h6
      go_wp2_with fail
      refine CI.mono ?_
      rintro e u ⟨rfl, hu⟩
      rw [hu]
      clear hu u CI
      go_wp2_with fail
      go_ret
      exact ⟨ret_bool HR2.out.symm, hbm⟩
     | true =>
      rw [h6, Bool.true_and] at HN HY
      rw [h6] at CI
      clear h6
      cases h7 : okP y.lsn (y.ss.map (·.v)) with
      | false =>
       have HR2 : Hid (R = false) := HN.out h7
       rw [h7] at C
       clear HN HY HD h7
       generalize y.page.cells = pc at *
       go_wp2_with fail
       refine CI.mono ?_
       rintro e u ⟨rfl, hu⟩
       rw [hu]
       clear hu u CI
       go_wp2_with (first | (guard_target = wpList _ _ _ (Oper.mk (some 36) _ _ _ _ _ :: _) _ _; refine wpList_load_mid_if (by rfl) 43 (.tmp 35) rfl b (off + k * 20 + 1) rfl pc _ HPG.out Tryd.underlying43 rfl HIP ?_) | fail)
       refine C.mono ?_
       rintro e w1 ⟨rfl, hb1⟩
       go_wp2_with fail
       go_ret
       exact ⟨ret_bool HR2.out.symm, hbm.trans (hb1.mono hbm.size)⟩
      | true =>
       have HY2 := HY.out h7
       have HY3 : Hid _ := HY2
       rw [h7] at C
       clear HN HY h7 HY2
       generalize y.page.cells = pc at *
       go_wp2_with fail
       refine CI.mono ?_
       rintro e u ⟨rfl, hu⟩
       rw [hu]
       clear hu u CI
       go_wp2_with (first | (guard_target = wpList _ _ _ (Oper.mk (some 36) _ _ _ _ _ :: _) _ _; refine wpList_load_mid_if (by rfl) 43 (.tmp 35) rfl b (off + k * 20 + 1) rfl pc _ HPG.out Tryd.underlying43 rfl HIP ?_) | fail)
       refine C.mono ?_
       rintro e w1 ⟨rfl, hb1⟩
       have hbl1 : Below W.heap.size W w1 := hbl.trans (hb1.mono hbl.size)
       clear C hb1 x0 r0 HPG HIP hbl hbm
       have HZK : Hid (∀ u, Below W.heap.size W u → u.cell? ⟨b, off + k * 20, none⟩ = some (.int .i64 y.no)) := fun u hu => by rw [← HYE.out]; exact HX0.out u hu k hlt
       generalize y.no = zk at *
       go_wp2_with fail
       go_loopw [4] (fun i wr => ∃ j : Nat, j ≤ k ∧ i = .int .i64 j ∧ Hid (∀ m, m < j → (rs.getD m zeroSt).no ≠ zk) ∧ Below W.heap.size W wr) (fun i _ => k - (intOf i).toNat)
       case atStart => exact ⟨0, Nat.zero_le _, rfl, fun j hj => by omega, hbl1⟩
       case round =>
        obtain ⟨j, hj, rfl, hal, hbl2⟩ := hrel
        have hbm2 : Below w.heap.size w wr := hbW.trans (hbl2.mono hbW.size)
        by_cases hjk : j < k
        ·have hjl : j < rs.length := by omega
         have hjj : (j : Int) < (rs.length : Int) := by omega
         have hj0 : (0 : Int) ≤ (j : Int) := by omega
         have r1 := HP.out wr hbl2
         have y0 := HZK.out wr hbl2
         have y1 := HX0.out wr hbl2 j hjl
         have HD2 : Hid ((rs.getD j zeroSt).no = zk → R = false) := HD.out j hjk
         have HN2 : Hid ((rs.getD j zeroSt).no ≠ zk → ∀ m, m < j + 1 → (rs.getD m zeroSt).no ≠ zk) := fun h m hm => by
          by_cases e : m = j
          ·rw [e]; exact h
          ·exact hal.out m (by omega)
         clear HD hal hbl1
         generalize (rs.getD j zeroSt).no = zj at *
         by_cases hq : zj = zk
         ·have HR2 : Hid (R = false) := HD2.out hq
          have hqb : (zj == zk) = true := by simpa using hq
          clear hq HD2 HN2
          go_wp2_with fail
          go_quiet (fail)
          go_wp2_with fail
          go_ret
          exact ⟨ret_bool HR2.out.symm, below_drewN hbm2 _⟩
         ·have HN3 := HN2.out hq
          have HN4 : Hid _ := HN3
          have hqb : (zj == zk) = false := by simpa using hq
          clear hq HD2 HN2 HN3
          go_wp2_with fail
          go_quiet (fail)
          go_wp2_with fail
          go_roundw
          case rel => exact ⟨j + 1, by omega, by go_num, HN4, below_drewN hbl2 _⟩
          case measure => simp [intOf]; omega
        ·have HAL : Hid (∀ m, m < k → (rs.getD m zeroSt).no ≠ zk) := fun m hm => hal.out m (by omega)
         have HZ := HY3.out HAL.out
         have HZ2 : Hid _ := HZ
         clear HZ HY3 HAL hal HD
         go_wp2_with fail
         go_roundw
         case rel => exact ⟨k + 1, by omega, by go_num, HZ2, hbl2⟩
         case measure => simp [intOf]; omega
    ·have HE : Hid (true = R) := (HALL3.out (fun m hm => hall.out m (by omega))).symm
     clear hall HALL3
     go_wp2
     go_ret
     exact ⟨ret_bool HE.out, hbm⟩
end Go.Proofs.YtoboickdkednkabDoor
namespace Go.Proofs.YtoboickdkednkabDoor
open Go.RowKit
theorem l6CopySeat_own (s : SeatA) (w : World) (hr : s.reads w) (hl : s.short 1099511627776) :
  Calls Tryd.prog 43 #[.agg s.cells.toArray] w fun e w' => ∃ t : SeatA, e = .returned (.agg t.cells.toArray) ∧ Hid (t.v = s.v) ∧ t.own w' w.heap.size w'.heap.size ∧ Below w.heap.size w w' := by
 obtain ⟨W, hW, b0, b1, hbW, hsW⟩ := boxes2 w s.cells [.int .i64 0, .int .i64 0, .bool false, .int .i64 0, .slice none 0 0, .slice none 0 0, .bool false, .int .i64 0, .slice none 0 0, .slice none 0 0, .bool false, .int .i64 0, .slice none 0 0, .slice none 0 0, .bool false, .int .i64 0, .slice none 0 0, .slice none 0 0, .bool false, .bool false] 45 45
 have b1' : Box W (w.heap.size + 1) zeroSt.cells 45 := b1
 have hs0 : w.heap.size + 1 < W.heap.size := by omega
 have hrg0 : W.rangeAt w.heap.size 1 s.page.cells := seat_page s b0
 have HL := Tryd.infoPg s.page rfl
 have C := l3Copy_own s.page rfl W (hr.below hbW) hl
 clear hsW b1
 go_enter Tryd.func43, Tryd.ntmps43
 go_upto_region 1 with fail
 rw [hW.out]
 clear hW
 go_wp2_with (first | (guard_target = wpList _ _ _ (Oper.mk (some 4) _ _ _ _ _ :: _) _ _; refine wpList_load_mid rfl 43 (.tmp 3) rfl w.heap.size 1 rfl s.page.cells _ hrg0 Tryd.underlying43 rfl HL ?_) | fail)
 clear hrg0 HL
 refine C.mono ?_
 clear C
 rintro e w1 ⟨ts, rfl, hv, ho, hb1⟩
 obtain ⟨y0, y1, y2, y3, rfl⟩ := four_slots' (ts := ts) (by have := congrArg List.length hv.out; simpa [SeatA.page, SeatA.ss] using this)
 have hs1 := hb1.size
 have b01 := b0.below hb1 b0.lt
 have b11 := b1'.below hb1 b1'.lt
 obtain ⟨W2, hW2, b02, hw2, hs2, hth2⟩ := seat_fill s b01 s.page.lsn y0 y1 y2 y3
 obtain ⟨q, hq⟩ : ∃ q : SeatA, Hid ((⟨s.no, s.page.lsn, y0, y1, y2, y3, s.dirty, s.hot⟩ : SeatA) = q) := ⟨_, rfl⟩
 rw [hq.out] at b02
 have b12 := b11.within hw2 (by omega)
 obtain ⟨WF, hWF, hwF, hsF, HTF, HLF, bF⟩ := seat_out q _ rfl b12
 have r4 : W2.rangeAt w.heap.size 0 q.cells := Box.range [] q.cells [] (by simpa using b02)
 have oq : q.own w1 W.heap.size w1.heap.size := by rw [← hq.out]; exact ho
 have HV : Hid (q.v = s.v) := by rw [Hid, ← hq.out]; simp only [SeatA.v, SeatA.ss]; rw [show List.map (fun x : SlotA => x.v) [y0, y1, y2, y3] = s.page.ss.map (·.v) from hv.out]; rfl
 have HFIN : Hid (q.own WF w.heap.size WF.heap.size ∧ Below w.heap.size w WF) := ⟨((oq.within hw2 (.inr (by omega))).within hwF (.inr (by omega))).widen (by omega) (by omega) (Nat.le_refl _), ((hbW.trans (hb1.mono (by omega))).trans (hw2.below (by omega) (by omega))).trans (hwF.below (by omega) (by omega))⟩
 have HI1 := Tryd.infoPg ⟨s.page.lsn, [y0, y1, y2, y3]⟩ rfl
 have HO1 := page_one ⟨s.page.lsn, [y0, y1, y2, y3]⟩
 have HI2 := seat_info q
 have HO2 := seat_one q
 have HW2 : Hid (w1.setCells w.heap.size 1 (PageA.cells ⟨s.page.lsn, [y0, y1, y2, y3]⟩).toArray.toList = W2) := hW2.out
 have HWF : Hid (W2.setCells (w.heap.size + 1) 0 q.cells.toArray.toList = WF) := hWF.out
 have HTF' : W2.there (w.heap.size + 1) 0 q.cells.toArray.size := HTF.out
 clear hW2 hWF HTF hq hs1 hs2 hsF hw2 hwF b01 b11 b02 b12 bF oq ho hv hb1 b0 b1' hbW
 generalize PageA.cells ⟨s.page.lsn, [y0, y1, y2, y3]⟩ = pc at *
 go_wp2_with (first | (guard_target = wpList _ _ _ (Oper.mk none (Op.store _ (Operand.tmp 6) _) _ _ _ _ :: _) _ _; refine wpList_store_mid rfl 43 (.tmp 6) (.tmp 5) rfl w.heap.size 1 pc.toArray rfl rfl hth2 (by rw [List.size_toArray]; exact HI1) HO1 ?_; rw [HW2.out]) | (guard_target = wpList _ _ _ (Oper.mk (some 7) _ _ _ _ _ :: _) _ _; refine wpList_load_mid rfl 45 (.tmp 1) rfl w.heap.size 0 rfl q.cells _ r4 Tryd.underlying45 rfl HI2 ?_) | (guard_target = wpList _ _ _ (Oper.mk none (Op.store _ (Operand.tmp 2) _) _ _ _ _ :: _) _ _; refine wpList_store_mid rfl 45 (.tmp 2) (.tmp 7) rfl (w.heap.size + 1) 0 q.cells.toArray rfl rfl HTF' (by rw [List.size_toArray]; exact HI2) HO2 ?_; rw [HWF.out]) | fail)
 exact bodyPost_ret (v := .agg q.cells.toArray) (results_one Tryd.results43 rfl HLF.out) rfl ⟨q, rfl, HV, HFIN.out.1, HFIN.out.2⟩
end Go.Proofs.YtoboickdkednkabDoor