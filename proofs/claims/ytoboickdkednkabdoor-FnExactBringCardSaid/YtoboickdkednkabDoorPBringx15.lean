/- Several texts in one, in their order. -/
import Derived.Test.YtoboickdkednkabDoorPBringx12
import Derived.Test.YtoboickdkednkabDoorPBringx7
import Derived.Test.YtoboickdkednkabDoorPBringx10
import Derived.Deep.CutRange
import Derived.Test.YtoboickdkednkabDoorPBringx11
import Derived.Test.YtoboickdkednkabDoorPBringx9
import Derived.Test.YtoboickdkednkabDoorPBringx13
import Derived.Deep.RegionHeld3
import Derived.Test.YtoboickdkednkabDoorPBringx14
import Derived.Test.YtoboickdkednkabDoorPBringx1
set_option maxHeartbeats 8000000
set_option maxRecDepth 100000
namespace Go.Proofs.YtoboickdkednkabDoor
open Go.RowKit
def markSt (s : SeatA) (k : Int) : SeatA := ⟨k, k + 1, s.s0, s.s1, s.s2, s.s3, ((k + 1 + 1) % 3 == 0), ((k + 1 + 1 + 1) % 3 == 0)⟩
def markSts : List SeatA → Int → List SeatA
 | [], _ => []
 | r :: t, k => markSt r k :: markSts t (k + 4)
theorem markSts_len (rs : List SeatA) : ∀ k, (markSts rs k).length = rs.length := by
 induction rs with
 | nil => intro k; rfl
 | cons x r ih => intro k; simp [markSts, ih]
theorem markSts_app (A B : List SeatA) : ∀ k, markSts (A ++ B) k = markSts A k ++ markSts B (k + 4 * (A.length : Int)) := by
 induction A with
 | nil => intro k; simp [markSts]
 | cons x r ih =>
  intro k
  simp only [List.cons_append, markSts, ih, List.length_cons]
  congr 3
  omega
theorem seats_split (rs : List SeatA) (j : Nat) (h : j < rs.length) : rs.drop j = rs.getD j zeroSt :: rs.drop (j + 1) ∧ rs.take (j + 1) = rs.take j ++ [rs.getD j zeroSt] := by
 have e : rs.getD j zeroSt = rs[j] := by simp [List.getD, h]
 exact ⟨by rw [List.drop_eq_getElem_cons h, e], by rw [List.take_succ_eq_append_getElem h, e]⟩
def halfSts (rs : List SeatA) (k : Int) (j : Nat) : List SeatA := markSts (rs.take j) k ++ rs.drop j
theorem halfSts_at (rs : List SeatA) (k : Int) (j : Nat) (h : j < rs.length) : halfSts rs k j = markSts (rs.take j) k ++ rs.getD j zeroSt :: rs.drop (j + 1) := by rw [halfSts, (seats_split rs j h).1]
theorem halfSts_next (rs : List SeatA) (k : Int) (j : Nat) (h : j < rs.length) : halfSts rs k (j + 1) = markSts (rs.take j) k ++ markSt (rs.getD j zeroSt) (k + 4 * (j : Int)) :: rs.drop (j + 1) := by
 rw [halfSts, (seats_split rs j h).2, markSts_app, List.length_take, Nat.min_eq_left (by omega)]
 simp [markSts]
theorem OwnSts.mark4 {w : World} {lo hi g c j : Nat} {A B : List SeatA} {z : SeatA} (h : OwnSts w lo hi (some ⟨g, 0, none⟩) c (A ++ z :: B)) (hj : A.length = j) (v0 v1 : Int) (d t : Bool) :
  ∃ W, Hid ((((w.setCell ⟨g, j * 20, none⟩ (.int .i64 v0)).setCell ⟨g, j * 20 + 1, none⟩ (.int .i64 v1)).setCell ⟨g, j * 20 + 18, none⟩ (.bool d)).setCell ⟨g, j * 20 + 19, none⟩ (.bool t) = W) ∧ OwnSts W lo hi (some ⟨g, 0, none⟩) c (A ++ ⟨v0, v1, z.s0, z.s1, z.s2, z.s3, d, t⟩ :: B) ∧ Touch [g] w W := by
 subst hj
 obtain ⟨h0, t0⟩ := h.cellSet (z' := ⟨v0, z.lsn, z.s0, z.s1, z.s2, z.s3, z.dirty, z.hot⟩) 0 (.int .i64 v0) (by omega) rfl rfl
 obtain ⟨h1, t1⟩ := h0.cellSet (z' := ⟨v0, v1, z.s0, z.s1, z.s2, z.s3, z.dirty, z.hot⟩) 1 (.int .i64 v1) (by omega) rfl rfl
 obtain ⟨h2, t2⟩ := h1.cellSet (z' := ⟨v0, v1, z.s0, z.s1, z.s2, z.s3, d, z.hot⟩) 18 (.bool d) (by omega) rfl rfl
 obtain ⟨h3, t3⟩ := h2.cellSet (z' := ⟨v0, v1, z.s0, z.s1, z.s2, z.s3, d, t⟩) 19 (.bool t) (by omega) rfl rfl
 exact ⟨_, rfl, h3, ((t0.trans t1).trans t2).trans t3⟩
theorem markSeatS_touch (lo hi : Nat) (a : Option Addr) (cap : Nat) (k0 : Int) (rs : List SeatA) (w : World) (ho : OwnSts w lo hi a cap rs) (h0 : 0 ≤ k0) (hk : k0 + 4 * (rs.length : Int) ≤ 1152921504606846976) :
  Calls Tryd.prog 37 #[.slice a rs.length cap, .int .i64 k0] w fun e w' => e = .returned (.int .i64 (k0 + 4 * (rs.length : Int))) ∧ OwnSts w' lo hi a cap (markSts rs k0) ∧ Touch (blocksSts a cap rs) w w' := by
 rcases ho.row.2 with ⟨hv, h00⟩ | ⟨g, cap', cur, hv, hg, hgg, hr⟩
 ·simp only [Value.slice.injEq] at hv
  obtain ⟨rfl, _, rfl⟩ := hv
  obtain rfl := List.length_eq_zero_iff.1 h00
  go_enter Tryd.func37, Tryd.ntmps37
  go_wp2
  refine wp_loop_rounds 1 ?_
  rw [rounds_succ]
  go_wp2
  go_ret
  exact ⟨by simp, ho, Touch.refl _ _⟩
 ·simp only [Value.slice.injEq] at hv
  obtain ⟨rfl, _, rfl⟩ := hv
  have hlm : rs.length ≤ maxLen := Nat.le_trans hr.1 hr.2.1
  simp only [maxLen] at hlm
  clear hgg hr
  have HH : Hid (halfSts rs k0 0 = rs ∧ halfSts rs k0 rs.length = markSts rs k0) := ⟨by simp [halfSts, markSts], by simp [halfSts]⟩
  have HST : Hid (OwnSts w lo hi (some ⟨g, 0, none⟩) cap (halfSts rs k0 0)) := by rw [HH.out.1]; exact ho
  have HSUB : Hid (∀ k ∈ [g], k ∈ blocksSts (some ⟨g, 0, none⟩) cap rs) := fun k hk => by
   obtain rfl := List.mem_singleton.1 hk
   exact List.mem_append.2 (.inl (by simp [Value.ownBlock]))
  clear ho
  go_enter Tryd.func37, Tryd.ntmps37
  go_wp2
  go_loopw [1, 5] (fun kk i wr => ∃ j : Nat, j ≤ rs.length ∧ i = .int .i64 j ∧ kk = .int .i64 (k0 + 4 * (j : Int)) ∧ Hid (OwnSts wr lo hi (some ⟨g, 0, none⟩) cap (halfSts rs k0 j)) ∧ Touch (blocksSts (some ⟨g, 0, none⟩) cap rs) w wr)
   (fun _ i _ => rs.length - (intOf i).toNat)
  case atStart => exact ⟨0, Nat.zero_le _, rfl, by simp, HST, Touch.refl _ _⟩
  case round =>
   obtain ⟨j, hj, rfl, rfl, hown, htw⟩ := hrel
   clear HST
   by_cases hlt : j < rs.length
   ·have ho := hown.out
    rw [halfSts_at rs k0 j hlt] at ho
    have HN : Hid (halfSts rs k0 (j + 1) = _) := halfSts_next rs k0 j hlt
    have hA : (markSts (rs.take j) k0).length = j := by rw [markSts_len, List.length_take]; omega
    have hkb : 0 ≤ k0 + 4 * (j : Int) ∧ k0 + 4 * (j : Int) + 4 ≤ 1152921504606846976 := ⟨by omega, by omega⟩
    have HKN : Hid (k0 + 4 * ((j + 1 : Nat) : Int) = k0 + 4 * (j : Int) + 1 + 1 + 1 + 1) := by rw [Hid]; omega
    have hjl : j < (markSts (rs.take j) k0 ++ rs.getD j zeroSt :: rs.drop (j + 1)).length := by simp [hA]
    have hrow := ho.row
    have hat := (row_seat ho.row rfl j hjl).1
    have ez : (markSts (rs.take j) k0 ++ rs.getD j zeroSt :: rs.drop (j + 1)).getD j zeroSt = rs.getD j zeroSt := by simp [List.getD, hA]
    rw [ez] at hat
    have x0 : wr.cell? ⟨g, j * 20, none⟩ = some (.int .i64 (rs.getD j zeroSt).no) := hat 0 _ rfl
    have x1 : wr.cell? ⟨g, j * 20 + 1, none⟩ = some (.int .i64 (rs.getD j zeroSt).lsn) := hat 1 _ rfl
    have x18 : wr.cell? ⟨g, j * 20 + 18, none⟩ = some (.bool (rs.getD j zeroSt).dirty) := hat 18 _ rfl
    have x19 : wr.cell? ⟨g, j * 20 + 19, none⟩ = some (.bool (rs.getD j zeroSt).hot) := hat 19 _ rfl
    have f0 : wr.frozen? ⟨g, j * 20, none⟩ = false := hrow.frozenAt _
    have f1 := hrow.frozenAt (j * 20 + 1)
    have f18 := hrow.frozenAt (j * 20 + 18)
    have f19 := hrow.frozenAt (j * 20 + 19)
    obtain ⟨W, hW, oW, tW⟩ := ho.mark4 hA (k0 + 4 * (j : Int)) (k0 + 4 * (j : Int) + 1) ((k0 + 4 * (j : Int) + 1 + 1) % 3 == 0) ((k0 + 4 * (j : Int) + 1 + 1 + 1) % 3 == 0)
    have HFIN : Hid (OwnSts W lo hi (some ⟨g, 0, none⟩) cap (halfSts rs k0 (j + 1)) ∧ Touch (blocksSts (some ⟨g, 0, none⟩) cap rs) w W) := by
     refine ⟨?_, htw.trans (tW.mono HSUB.out)⟩
     rw [HN.out]
     exact oW
    clear ho hown htw oW tW HN hat hrow hjl ez hA hk h0
    generalize (rs.getD j zeroSt).no = z0 at *
    generalize (rs.getD j zeroSt).lsn = z1 at *
    generalize (rs.getD j zeroSt).dirty = z2 at *
    generalize (rs.getD j zeroSt).hot = z3 at *
    generalize k0 + 4 * (j : Int) = kk at *
    go_wp2_with fail
    rw [hW.out]
    go_roundw
    case rel => exact ⟨j + 1, by omega, by go_num, by rw [HKN.out], HFIN.out.1, HFIN.out.2⟩
    case measure => simp [intOf]; omega
   ·have HE : Hid (OwnSts wr lo hi (some ⟨g, 0, none⟩) cap (markSts rs k0) ∧ k0 + 4 * (j : Int) = k0 + 4 * (rs.length : Int)) := by
     have e : j = rs.length := by omega
     rw [e, HH.out.2] at hown
     exact ⟨hown.out, by rw [e]⟩
    go_wp2
    go_ret
    exact ⟨ret_int HE.out.2, HE.out.1, htw⟩
theorem markSts_at (rs : List SeatA) (k : Int) (j : Nat) (h : j < rs.length) : (markSts rs k).getD j zeroSt = markSt (rs.getD j zeroSt) (k + 4 * (j : Int)) := by
 have e : markSts rs k = markSts (rs.take j) k ++ markSts (rs.drop j) (k + 4 * (j : Int)) := by
  have := markSts_app (rs.take j) (rs.drop j) k
  rw [List.take_append_drop, List.length_take, Nat.min_eq_left (by omega)] at this
  exact this
 have hl : (markSts (rs.take j) k).length = j := by rw [markSts_len, List.length_take]; omega
 rw [e, (seats_split rs j h).1, markSts]
 simp [List.getD, hl]
def PoolA.mark (l : PoolA) (k : Int) : PoolA := { l with seats := markSts l.seats k }
def PoolA.count (l : PoolA) : Nat := 4 * l.seats.length
theorem cnt4 (n : Nat) : ((4 * n : Nat) : Int) = 4 * (n : Int) := by omega
theorem markPool_touch (l : PoolA) (lo hi : Nat) (k0 : Int) (w : World) (ho : l.own w lo hi) (hl : l.short 1099511627776) (h0 : 0 ≤ k0) (hk : k0 + l.count ≤ 1152921504606846976) :
  Calls Tryd.prog 13 #[.agg l.cells.toArray, .int .i64 k0] w fun e w' => e = .returned (.int .i64 (k0 + l.count)) ∧ (l.mark k0).own w' lo hi ∧ Touch l.blocks w w' := by
 obtain ⟨rs, s, a, c⟩ := l
 simp only [PoolA.cells, PoolA.own, PoolA.count, PoolA.mark, PoolA.blocks, cnt4] at *
 obtain ⟨W, hW, b0, hbW, hsW⟩ := boxes1 w [.slice a rs.length c, .int .i64 s] 37
 have c0 := b0.cell 0 _ rfl
 have C := markSeatS_touch lo hi a c k0 rs W (ho.below hbW) h0 hk
 clear hsW b0
 go_enter Tryd.func13, Tryd.ntmps13
 go_wp2_with fail
 rw [hW.out]
 clear hW
 refine C.mono ?_
 rintro e w1 ⟨rfl, ho1, ht1⟩
 go_wp2
 go_ret
 exact ⟨rfl, ho1, (Touch.of_below hbW).trans ht1⟩
theorem countSt_short {t : PoolA} (h : t.short 1048576) : 1 + (t.count : Int) ≤ 1152921504606846976 := by
 have h2 := h.len
 have e : t.count = 4 * t.seats.length := rfl
 rw [e]
 omega
def SeatA.count (s : SeatA) : Nat := countS s.ss
theorem markSeat_touch (s : SeatA) (lo hi : Nat) (k0 : Int) (w : World) (ho : s.own w lo hi) (hl : s.short 1099511627776) (h0 : 0 ≤ k0) (hk : k0 ≤ 10995116277760) (hhi : hi ≤ w.heap.size) :
  Calls Tryd.prog 15 #[.agg s.cells.toArray, .int .i64 k0] w fun e w' => e = .returned (.int .i64 (k0 + s.count)) ∧ OwnS w' lo hi (markSs s.ss k0) ∧ Touch s.blocks w w' := by
 obtain ⟨W, hW, b0, hbW, hsW⟩ := boxes1 w s.cells 45
 have hrg0 : W.rangeAt w.heap.size 1 s.page.cells := seat_page s b0
 have HL := Tryd.infoPg s.page rfl
 have hs0 := hbW.size
 have C := markPage_touch s.page rfl lo hi k0 W (SeatA.own.below ho hbW) hl h0 hk (by omega)
 clear hsW b0
 go_enter Tryd.func15, Tryd.ntmps15
 go_wp2_with (first | (guard_target = wpList _ _ _ (Oper.mk (some 6) _ _ _ _ _ :: _) _ _; refine wpList_load_mid rfl 43 (.tmp 5) rfl w.heap.size 1 rfl s.page.cells _ (by rw [hW.out]; exact hrg0) Tryd.underlying43 rfl HL ?_) | fail)
 rw [hW.out]
 clear hW hrg0 HL
 refine C.mono ?_
 clear C
 rintro e w1 ⟨rfl, ho1, ht1⟩
 go_wp2
 go_ret
 exact ⟨rfl, ho1, (Touch.of_below hbW).trans ht1⟩
theorem heldSeat_any (s : SeatA) (lo hi : Nat) (k0 : Int) (w : World) (ho : OwnS w lo hi (markSs s.ss k0)) (hl : s.short 1099511627776) (h0 : 0 ≤ k0) (hk : k0 ≤ 10995116277760) :
  Calls Tryd.prog 17 #[.agg s.cells.toArray, .int .i64 k0] w fun e w' => e = .returned (.int .i64 (k0 + s.count)) ∧ Below w.heap.size w w' := by
 obtain ⟨W, hW, b0, hbW, hsW⟩ := boxes1 w s.cells 45
 have hrg0 : W.rangeAt w.heap.size 1 s.page.cells := seat_page s b0
 have HL := Tryd.infoPg s.page rfl
 have C := heldPage_any s.page rfl lo hi k0 W (ho.below hbW) hl h0 hk
 clear hsW b0
 go_enter Tryd.func17, Tryd.ntmps17
 go_wp2_with (first | (guard_target = wpList _ _ _ (Oper.mk (some 6) _ _ _ _ _ :: _) _ _; refine wpList_load_mid rfl 43 (.tmp 5) rfl w.heap.size 1 rfl s.page.cells _ (by rw [hW.out]; exact hrg0) Tryd.underlying43 rfl HL ?_) | fail)
 rw [hW.out]
 clear hW hrg0 HL
 refine C.mono ?_
 clear C
 rintro e w1 ⟨rfl, hb1⟩
 have hnn' : ¬ (k0 + (countS s.page.ss : Int)) < 0 := by omega
 go_wp2
 go_ret
 exact ⟨rfl, hbW.trans (hb1.mono hbW.size)⟩
def RowSts (w : World) (a : Option Addr) (rs : List SeatA) : Prop := rs ≠ [] → ∃ b off, a = some ⟨b, off, none⟩ ∧ ∀ k, k < rs.length → w.rangeAt b (off + k * 20) (rs.getD k zeroSt).cells
theorem ReadsSts.rows {w : World} {a : Option Addr} {rs : List SeatA} (h : ReadsSts w a rs) : RowSts w a rs := fun hne => by
 obtain ⟨b, off, ha, hc⟩ := h hne
 exact ⟨b, off, ha, fun k hk => (hc k hk).1⟩
theorem RowSts.cases {w : World} {a : Option Addr} {rs : List SeatA} (h : RowSts w a rs) : rs = [] ∨ ∃ b off, a = some ⟨b, off, none⟩ ∧ 0 < rs.length ∧ ∀ k, k < rs.length → w.rangeAt b (off + k * 20) (rs.getD k zeroSt).cells := by
 by_cases e : rs = []
 ·exact .inl e
 ·obtain ⟨b, off, ha, hc⟩ := h e
  exact .inr ⟨b, off, ha, List.length_pos_iff.2 e, hc⟩
theorem RowSts.keep {w w' : World} {a : Option Addr} {rs : List SeatA} (h : RowSts w a rs) (hk : ∀ b off, a = some ⟨b, off, none⟩ → w'.heap[b]? = w.heap[b]?) : RowSts w' a rs := fun hne => by
 obtain ⟨b, off, ha, hc⟩ := h hne
 refine ⟨b, off, ha, fun k hkk => ?_⟩
 intro i v hi
 have := hc k hkk i v hi
 simp only [World.cell?] at this ⊢
 rw [hk b off ha]
 exact this
theorem RowSts.lt {w : World} {a : Option Addr} {rs : List SeatA} (h : RowSts w a rs) {b off : Nat} (ha : a = some ⟨b, off, none⟩) (hne : rs ≠ []) : b < w.heap.size := by
 obtain ⟨b', off', ha', hc⟩ := h hne
 rw [ha] at ha'
 obtain ⟨rfl, rfl, _⟩ := Addr.mk.inj (Option.some.inj ha')
 have := hc 0 (List.length_pos_iff.2 hne) 0 _ rfl
 simp only [World.cell?] at this
 by_cases hb : b < w.heap.size
 ·exact hb
 ·rw [Array.getElem?_eq_none (by omega)] at this
  simp at this
theorem RowSts.below {w w' : World} {a : Option Addr} {rs : List SeatA} (h : RowSts w a rs) (hb : Below w.heap.size w w') : RowSts w' a rs := by
 intro hne
 exact (h.keep (w' := w') fun b off ha => hb.block b (h.lt ha hne)) hne
theorem RowSts.touch {w w' : World} {a : Option Addr} {rs : List SeatA} {bl : List Nat} (h : RowSts w a rs) (ht : Touch bl w w') (hn : ∀ b off, a = some ⟨b, off, none⟩ → b ∉ bl) : RowSts w' a rs := by
 intro hne
 exact (h.keep (w' := w') fun b off ha => ht.block b (h.lt ha hne) (hn b off ha)) hne
theorem markSeatS_row (lo hi : Nat) (a : Option Addr) (cap : Nat) (k0 : Int) (rs : List SeatA) (w : World) (ho : OwnSts w lo hi a cap rs) (h0 : 0 ≤ k0) (hk : k0 + 4 * (rs.length : Int) ≤ 1152921504606846976) :
  Calls Tryd.prog 37 #[.slice a rs.length cap, .int .i64 k0] w fun e w' => e = .returned (.int .i64 (k0 + 4 * (rs.length : Int))) ∧ OwnSts w' lo hi a cap (markSts rs k0) ∧ Touch (Value.slice a rs.length cap).ownBlock.toList w w' := by
 rcases ho.row.2 with ⟨hv, h00⟩ | ⟨g, cap', cur, hv, hg, hgg, hr⟩
 ·simp only [Value.slice.injEq] at hv
  obtain ⟨rfl, _, rfl⟩ := hv
  obtain rfl := List.length_eq_zero_iff.1 h00
  go_enter Tryd.func37, Tryd.ntmps37
  go_wp2
  refine wp_loop_rounds 1 ?_
  rw [rounds_succ]
  go_wp2
  go_ret
  exact ⟨by simp, ho, Touch.refl _ _⟩
 ·simp only [Value.slice.injEq] at hv
  obtain ⟨rfl, _, rfl⟩ := hv
  have hlm : rs.length ≤ maxLen := Nat.le_trans hr.1 hr.2.1
  simp only [maxLen] at hlm
  clear hgg hr
  have HH : Hid (halfSts rs k0 0 = rs ∧ halfSts rs k0 rs.length = markSts rs k0) := ⟨by simp [halfSts, markSts], by simp [halfSts]⟩
  have HST : Hid (OwnSts w lo hi (some ⟨g, 0, none⟩) cap (halfSts rs k0 0)) := by rw [HH.out.1]; exact ho
  clear ho
  go_enter Tryd.func37, Tryd.ntmps37
  go_wp2
  go_loopw [1, 5] (fun kk i wr => ∃ j : Nat, j ≤ rs.length ∧ i = .int .i64 j ∧ kk = .int .i64 (k0 + 4 * (j : Int)) ∧ Hid (OwnSts wr lo hi (some ⟨g, 0, none⟩) cap (halfSts rs k0 j)) ∧ Touch [g] w wr)
   (fun _ i _ => rs.length - (intOf i).toNat)
  case atStart => exact ⟨0, Nat.zero_le _, rfl, by simp, HST, Touch.refl _ _⟩
  case round =>
   obtain ⟨j, hj, rfl, rfl, hown, htw⟩ := hrel
   clear HST
   by_cases hlt : j < rs.length
   ·have ho := hown.out
    rw [halfSts_at rs k0 j hlt] at ho
    have HN : Hid (halfSts rs k0 (j + 1) = _) := halfSts_next rs k0 j hlt
    have hA : (markSts (rs.take j) k0).length = j := by rw [markSts_len, List.length_take]; omega
    have hkb : 0 ≤ k0 + 4 * (j : Int) ∧ k0 + 4 * (j : Int) + 4 ≤ 1152921504606846976 := ⟨by omega, by omega⟩
    have HKN : Hid (k0 + 4 * ((j + 1 : Nat) : Int) = k0 + 4 * (j : Int) + 1 + 1 + 1 + 1) := by rw [Hid]; omega
    have hjl : j < (markSts (rs.take j) k0 ++ rs.getD j zeroSt :: rs.drop (j + 1)).length := by simp [hA]
    have hrow := ho.row
    have hat := (row_seat ho.row rfl j hjl).1
    have ez : (markSts (rs.take j) k0 ++ rs.getD j zeroSt :: rs.drop (j + 1)).getD j zeroSt = rs.getD j zeroSt := by simp [List.getD, hA]
    rw [ez] at hat
    have x0 : wr.cell? ⟨g, j * 20, none⟩ = some (.int .i64 (rs.getD j zeroSt).no) := hat 0 _ rfl
    have x1 : wr.cell? ⟨g, j * 20 + 1, none⟩ = some (.int .i64 (rs.getD j zeroSt).lsn) := hat 1 _ rfl
    have x18 : wr.cell? ⟨g, j * 20 + 18, none⟩ = some (.bool (rs.getD j zeroSt).dirty) := hat 18 _ rfl
    have x19 : wr.cell? ⟨g, j * 20 + 19, none⟩ = some (.bool (rs.getD j zeroSt).hot) := hat 19 _ rfl
    have f0 : wr.frozen? ⟨g, j * 20, none⟩ = false := hrow.frozenAt _
    have f1 := hrow.frozenAt (j * 20 + 1)
    have f18 := hrow.frozenAt (j * 20 + 18)
    have f19 := hrow.frozenAt (j * 20 + 19)
    obtain ⟨W, hW, oW, tW⟩ := ho.mark4 hA (k0 + 4 * (j : Int)) (k0 + 4 * (j : Int) + 1) ((k0 + 4 * (j : Int) + 1 + 1) % 3 == 0) ((k0 + 4 * (j : Int) + 1 + 1 + 1) % 3 == 0)
    have HFIN : Hid (OwnSts W lo hi (some ⟨g, 0, none⟩) cap (halfSts rs k0 (j + 1)) ∧ Touch [g] w W) := by
     refine ⟨?_, htw.trans tW⟩
     rw [HN.out]
     exact oW
    clear ho hown htw oW tW HN hat hrow hjl ez hA hk h0
    generalize (rs.getD j zeroSt).no = z0 at *
    generalize (rs.getD j zeroSt).lsn = z1 at *
    generalize (rs.getD j zeroSt).dirty = z2 at *
    generalize (rs.getD j zeroSt).hot = z3 at *
    generalize k0 + 4 * (j : Int) = kk at *
    go_wp2_with fail
    rw [hW.out]
    go_roundw
    case rel => exact ⟨j + 1, by omega, by go_num, by rw [HKN.out], HFIN.out.1, HFIN.out.2⟩
    case measure => simp [intOf]; omega
   ·have HE : Hid (OwnSts wr lo hi (some ⟨g, 0, none⟩) cap (markSts rs k0) ∧ k0 + 4 * (j : Int) = k0 + 4 * (rs.length : Int)) := by
     have e : j = rs.length := by omega
     rw [e, HH.out.2] at hown
     exact ⟨hown.out, by rw [e]⟩
    go_wp2
    go_ret
    exact ⟨ret_int HE.out.2, HE.out.1, htw⟩
theorem heldSeatS_row (a : Option Addr) (cap : Nat) (k0 : Int) (rs : List SeatA) (w : World) (hr : RowSts w a (markSts rs k0)) (h0 : 0 ≤ k0) (hk : k0 + 4 * (rs.length : Int) ≤ 1152921504606846976) (hlm : rs.length ≤ 9223372036854775807) :
  Calls Tryd.prog 39 #[.slice a rs.length cap, .int .i64 k0] w fun e w' => e = .returned (.int .i64 (k0 + 4 * (rs.length : Int))) ∧ w' = w := by
 have hml := markSts_len rs k0
 rcases hr.cases with h | ⟨b, off, rfl, hpos, hcell⟩
 ·have h' := congrArg List.length h
  rw [hml] at h'
  obtain rfl := List.length_eq_zero_iff.1 h'
  go_enter Tryd.func39, Tryd.ntmps39
  go_wp2
  refine wp_loop_rounds 1 ?_
  rw [rounds_succ]
  go_wp2
  go_ret
  exact ⟨by simp, rfl⟩
 ·rw [hml] at hpos hcell
  go_enter Tryd.func39, Tryd.ntmps39
  go_wp2
  go_loop [1, 5] (fun kk i => ∃ j : Nat, j ≤ rs.length ∧ i = .int .i64 j ∧ kk = .int .i64 (k0 + 4 * (j : Int))) (fun _ i => rs.length - (intOf i).toNat)
  case atStart => exact ⟨0, Nat.zero_le _, rfl, by simp⟩
  case round =>
   obtain ⟨j, hj, rfl, rfl⟩ := hrel
   by_cases hlt : j < rs.length
   ·have hc := hcell j hlt
    rw [markSts_at rs k0 j hlt] at hc
    have hkb : 0 ≤ k0 + 4 * (j : Int) ∧ k0 + 4 * (j : Int) + 4 ≤ 1152921504606846976 := ⟨by omega, by omega⟩
    have HKN : Hid (k0 + 4 * ((j + 1 : Nat) : Int) = k0 + 4 * (j : Int) + 1 + 1 + 1 + 1) := by rw [Hid]; omega
    clear hk h0 hcell hpos hr hml
    generalize k0 + 4 * (j : Int) = kk at *
    generalize rs.getD j zeroSt = z at *
    have x0 : w.cell? ⟨b, off + j * 20, none⟩ = some (.int .i64 kk) := hc 0 _ rfl
    have x1 : w.cell? ⟨b, off + j * 20 + 1, none⟩ = some (.int .i64 (kk + 1)) := hc 1 _ rfl
    have x2 : w.cell? ⟨b, off + j * 20 + 18, none⟩ = some (.bool ((kk + 1 + 1) % 3 == 0)) := hc 18 _ rfl
    have x3 : w.cell? ⟨b, off + j * 20 + 19, none⟩ = some (.bool ((kk + 1 + 1 + 1) % 3 == 0)) := hc 19 _ rfl
    clear hc
    go_wp2_with fail
    go_round
    case rel => exact ⟨j + 1, by omega, by go_num, by rw [HKN.out]⟩
    case measure => simp [intOf]; omega
   ·have HE : Hid (k0 + 4 * (j : Int) = k0 + 4 * (rs.length : Int)) := by
     have e : j = rs.length := by omega
     rw [Hid, e]
    go_wp2
    go_ret
    exact ⟨ret_int HE.out, rfl⟩
def PoolA.rowBlk (l : PoolA) : List Nat := (Value.slice l.a l.seats.length l.c).ownBlock.toList
theorem markPool_row (l : PoolA) (lo hi : Nat) (k0 : Int) (w : World) (ho : l.own w lo hi) (hl : l.short 1099511627776) (h0 : 0 ≤ k0) (hk : k0 + l.count ≤ 1152921504606846976) :
  Calls Tryd.prog 13 #[.agg l.cells.toArray, .int .i64 k0] w fun e w' => e = .returned (.int .i64 (k0 + l.count)) ∧ (l.mark k0).own w' lo hi ∧ Touch l.rowBlk w w' := by
 obtain ⟨rs, s, a, c⟩ := l
 simp only [PoolA.cells, PoolA.own, PoolA.count, PoolA.mark, PoolA.rowBlk, cnt4] at *
 obtain ⟨W, hW, b0, hbW, hsW⟩ := boxes1 w [.slice a rs.length c, .int .i64 s] 37
 have c0 := b0.cell 0 _ rfl
 have C := markSeatS_row lo hi a c k0 rs W (ho.below hbW) h0 hk
 clear hsW b0
 go_enter Tryd.func13, Tryd.ntmps13
 go_wp2_with fail
 rw [hW.out]
 clear hW
 refine C.mono ?_
 rintro e w1 ⟨rfl, ho1, ht1⟩
 go_wp2
 go_ret
 exact ⟨rfl, ho1, (Touch.of_below hbW).trans ht1⟩
theorem heldPool_row (l : PoolA) (k0 : Int) (w : World) (ho : RowSts w l.a (markSts l.seats k0)) (hl : l.seats.length ≤ 1099511627776) (h0 : 0 ≤ k0) (hk : k0 + l.count ≤ 1152921504606846976) :
  Calls Tryd.prog 16 #[.agg l.cells.toArray, .int .i64 k0] w fun e w' => e = .returned (.int .i64 (k0 + l.count)) ∧ Below w.heap.size w w' := by
 obtain ⟨rs, s, a, c⟩ := l
 simp only [PoolA.cells, PoolA.count, cnt4] at *
 obtain ⟨W, hW, b0, hbW, hsW⟩ := boxes1 w [.slice a rs.length c, .int .i64 s] 37
 have c0 := b0.cell 0 _ rfl
 have C := heldSeatS_row a c k0 rs W (ho.below hbW) h0 hk (by omega)
 have hnn : ¬ (k0 + 4 * (rs.length : Int) < 0) := by omega
 clear hsW b0
 go_enter Tryd.func16, Tryd.ntmps16
 go_wp2_with fail
 rw [hW.out]
 clear hW
 refine C.mono ?_
 rintro e w1 ⟨rfl, rfl⟩
 go_wp2
 go_ret
 exact ⟨rfl, hbW⟩
end Go.Proofs.YtoboickdkednkabDoor
namespace Go.Proofs.YtoboickdkednkabDoor
open Go.RowKit
theorem lpool_info (q : PoolA) : (Tryd.prog.info? 24).map (·.size) = some q.cells.length := by show _ = some 2; kernel_rfl
theorem pool_rng {w : World} {B : Nat} {t : TypeId} (q : PoolA) (b : Box w B q.cells t) : w.rangeAt B 0 q.cells := Box.range [] q.cells [] (by simpa using b)
theorem countSt_mid {t : PoolA} (h : t.short 1048576) : (t.count : Int) ≤ 4194304 := by
 have h2 := h.len
 have e : t.count = 4 * t.seats.length := rfl
 rw [e]
 omega
theorem load_if6 {ops : Array Oper} {rest : List Oper} {op : Oper} {a : Act} {w : World} {Q : Exit → Act → World → Prop} {P : Program} (hw : Region.wanted op (yielded ops a.tmps) = true) (ty : TypeId) (x : Operand) (ho : op.op = .load ty x)
  (b o : Nat) (hx : a.eval x = .pointer (some ⟨b, o, none⟩)) (cs : List Value) (d : TypeDesc) (hc : w.rangeAt b o cs)
  (hu : P.underlying ty = some d) (hd : d.isRow = true) (hi : (P.info? ty).map (·.size) = some cs.length)
  (h : wpList P ops Q rest (a.put op.dst (.agg cs.toArray)) w) : wpList P ops Q (op :: rest) a w :=
 wpList_load_mid_if hw ty x ho b o hx cs d hc hu hd hi h
end Go.Proofs.YtoboickdkednkabDoor