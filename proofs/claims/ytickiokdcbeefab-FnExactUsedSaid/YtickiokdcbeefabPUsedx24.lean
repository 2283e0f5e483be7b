/- Several texts in one, in their order. -/
import Derived.Test.YtickiokdcbeefabPUsedx22
import Derived.Test.YtickiokdcbeefabPUsedx14
import Derived.Test.YtickiokdcbeefabPUsedx20
import Derived.Deep.CutRange
import Derived.Test.YtickiokdcbeefabPUsedx23
import Derived.Deep.RegionHeld3
/- The walks of laws.markSeatS, heldSeatS, markPool, heldPool, markSeat, heldSeat. -/
namespace Go.Proofs.Ytickiokdcbeefab
open Go.RowKit

/-- A seat with marks from k on. -/
def markSt (s : SeatA) (k : Int) : SeatA := ⟨k, k + 1, s.s0, s.s1, s.s2, s.s3, ((k + 1 + 1) % 3 == 0), ((k + 1 + 1 + 1) % 3 == 0)⟩
def markSts : List SeatA → Int → List SeatA
  | [], _ => []
  | r :: t, k => markSt r k :: markSts t (k + 4)
theorem markSt_blocks (r : SeatA) (k : Int) : (markSt r k).blocks = r.blocks := rfl
theorem markSts_len (rs : List SeatA) : ∀ k, (markSts rs k).length = rs.length := by
  induction rs with
  | nil => intro k; rfl
  | cons x r ih => intro k; simp [markSts, ih]
theorem markSts_app (A B : List SeatA) : ∀ k, markSts (A ++ B) k = markSts A k ++ markSts B (k + 4 * (A.length : Int)) := by
  induction A with
  | nil => intro k; simp [markSts]
  | cons x r ih =>
    intro k
    simp only [List.cons_append, markSts, ih, List.length_cons]
    congr 3
    omega
theorem markSts_blocks (rs : List SeatA) : ∀ k, (markSts rs k).flatMap SeatA.blocks = rs.flatMap SeatA.blocks := by
  induction rs with
  | nil => intro k; rfl
  | cons x r ih => intro k; simp only [markSts, List.flatMap_cons, ih, markSt_blocks]
theorem seats_split (rs : List SeatA) (j : Nat) (h : j < rs.length) : rs.drop j = rs.getD j zeroSt :: rs.drop (j + 1) ∧ rs.take (j + 1) = rs.take j ++ [rs.getD j zeroSt] := by
  have e : rs.getD j zeroSt = rs[j] := by simp [List.getD, h]
  exact ⟨by rw [List.drop_eq_getElem_cons h, e], by rw [List.take_succ_eq_append_getElem h, e]⟩
/-- How far the marks have come. -/
def halfSts (rs : List SeatA) (k : Int) (j : Nat) : List SeatA := markSts (rs.take j) k ++ rs.drop j
theorem halfSts_at (rs : List SeatA) (k : Int) (j : Nat) (h : j < rs.length) : halfSts rs k j = markSts (rs.take j) k ++ rs.getD j zeroSt :: rs.drop (j + 1) := by rw [halfSts, (seats_split rs j h).1]
theorem halfSts_next (rs : List SeatA) (k : Int) (j : Nat) (h : j < rs.length) : halfSts rs k (j + 1) = markSts (rs.take j) k ++ markSt (rs.getD j zeroSt) (k + 4 * (j : Int)) :: rs.drop (j + 1) := by
  rw [halfSts, (seats_split rs j h).2, markSts_app, List.length_take, Nat.min_eq_left (by omega)]
  simp [markSts]
theorem halfSts_len (rs : List SeatA) (k : Int) (j : Nat) (h : j ≤ rs.length) : (halfSts rs k j).length = rs.length := by simp [halfSts, markSts_len]; omega
/-- The four marks of a seat, stored. -/
theorem OwnSts.mark4 {w : World} {lo hi g c j : Nat} {A B : List SeatA} {z : SeatA} (h : OwnSts w lo hi (some ⟨g, 0, none⟩) c (A ++ z :: B)) (hj : A.length = j) (v0 v1 : Int) (d t : Bool) :
    ∃ W, Hid ((((w.setCell ⟨g, j * 20, none⟩ (.int .i64 v0)).setCell ⟨g, j * 20 + 1, none⟩ (.int .i64 v1)).setCell ⟨g, j * 20 + 18, none⟩ (.bool d)).setCell ⟨g, j * 20 + 19, none⟩ (.bool t) = W) ∧ OwnSts W lo hi (some ⟨g, 0, none⟩) c (A ++ ⟨v0, v1, z.s0, z.s1, z.s2, z.s3, d, t⟩ :: B) ∧ Touch [g] w W := by
  subst hj
  obtain ⟨h0, t0⟩ := h.cellSet (z' := ⟨v0, z.lsn, z.s0, z.s1, z.s2, z.s3, z.dirty, z.hot⟩) 0 (.int .i64 v0) (by omega) rfl rfl
  obtain ⟨h1, t1⟩ := h0.cellSet (z' := ⟨v0, v1, z.s0, z.s1, z.s2, z.s3, z.dirty, z.hot⟩) 1 (.int .i64 v1) (by omega) rfl rfl
  obtain ⟨h2, t2⟩ := h1.cellSet (z' := ⟨v0, v1, z.s0, z.s1, z.s2, z.s3, d, z.hot⟩) 18 (.bool d) (by omega) rfl rfl
  obtain ⟨h3, t3⟩ := h2.cellSet (z' := ⟨v0, v1, z.s0, z.s1, z.s2, z.s3, d, t⟩) 19 (.bool t) (by omega) rfl rfl
  exact ⟨_, rfl, h3, ((t0.trans t1).trans t2).trans t3⟩

set_option maxHeartbeats 2000000 in
set_option maxRecDepth 100000 in
theorem markSeatS_touch (lo hi : Nat) (a : Option Addr) (cap : Nat) (k0 : Int) (rs : List SeatA) (w : World) (ho : OwnSts w lo hi a cap rs) (h0 : 0 ≤ k0) (hk : k0 + 4 * (rs.length : Int) ≤ 1152921504606846976) :
    Calls Try.prog 22 #[.slice a rs.length cap, .int .i64 k0] w fun e w' => e = .returned (.int .i64 (k0 + 4 * (rs.length : Int))) ∧ OwnSts w' lo hi a cap (markSts rs k0) ∧ Touch (blocksSts a cap rs) w w' := by
  rcases ho.row.2 with ⟨hv, h00⟩ | ⟨g, cap', cur, hv, hg, hgg, hr⟩
  · simp only [Value.slice.injEq] at hv
    obtain ⟨rfl, _, rfl⟩ := hv
    obtain rfl := List.length_eq_zero_iff.1 h00
    go_enter Try.func22, Try.ntmps22
    go_wp2
    refine wp_loop_rounds 1 ?_
    rw [rounds_succ]
    go_wp2
    go_ret
    exact ⟨by simp, ho, Touch.refl _ _⟩
  · simp only [Value.slice.injEq] at hv
    obtain ⟨rfl, _, rfl⟩ := hv
    have hlm : rs.length ≤ maxLen := Nat.le_trans hr.1 hr.2.1
    simp only [maxLen] at hlm
    clear hgg hr
    have HH : Hid (halfSts rs k0 0 = rs ∧ halfSts rs k0 rs.length = markSts rs k0) := ⟨by simp [halfSts, markSts], by simp [halfSts]⟩
    have HST : Hid (OwnSts w lo hi (some ⟨g, 0, none⟩) cap (halfSts rs k0 0)) := by rw [HH.out.1]; exact ho
    have HSUB : Hid (∀ k ∈ [g], k ∈ blocksSts (some ⟨g, 0, none⟩) cap rs) := fun k hk => by
      obtain rfl := List.mem_singleton.1 hk
      exact List.mem_append.2 (.inl (by simp [Value.ownBlock]))
    clear ho
    go_enter Try.func22, Try.ntmps22
    go_wp2
    go_loopw [1, 5] (fun kk i wr => ∃ j : Nat, j ≤ rs.length ∧ i = .int .i64 j ∧ kk = .int .i64 (k0 + 4 * (j : Int)) ∧ Hid (OwnSts wr lo hi (some ⟨g, 0, none⟩) cap (halfSts rs k0 j)) ∧ Touch (blocksSts (some ⟨g, 0, none⟩) cap rs) w wr)
      (fun _ i _ => rs.length - (intOf i).toNat)
    case atStart => exact ⟨0, Nat.zero_le _, rfl, by simp, HST, Touch.refl _ _⟩
    case round =>
      obtain ⟨j, hj, rfl, rfl, hown, htw⟩ := hrel
      clear HST
      by_cases hlt : j < rs.length
      · have ho := hown.out
        rw [halfSts_at rs k0 j hlt] at ho
        have HN : Hid (halfSts rs k0 (j + 1) = _) := halfSts_next rs k0 j hlt
        have hA : (markSts (rs.take j) k0).length = j := by rw [markSts_len, List.length_take]; omega
        have hkb : 0 ≤ k0 + 4 * (j : Int) ∧ k0 + 4 * (j : Int) + 4 ≤ 1152921504606846976 := ⟨by omega, by omega⟩
        have HKN : Hid (k0 + 4 * ((j + 1 : Nat) : Int) = k0 + 4 * (j : Int) + 1 + 1 + 1 + 1) := by rw [Hid]; omega
        have hjl : j < (markSts (rs.take j) k0 ++ rs.getD j zeroSt :: rs.drop (j + 1)).length := by simp [hA]
        have hrow := ho.row
        have hat := (row_seat ho.row rfl j hjl).1
        have ez : (markSts (rs.take j) k0 ++ rs.getD j zeroSt :: rs.drop (j + 1)).getD j zeroSt = rs.getD j zeroSt := by simp [List.getD, hA]
        rw [ez] at hat
        have x0 : wr.cell? ⟨g, j * 20, none⟩ = some (.int .i64 (rs.getD j zeroSt).no) := hat 0 _ rfl
        have x1 : wr.cell? ⟨g, j * 20 + 1, none⟩ = some (.int .i64 (rs.getD j zeroSt).lsn) := hat 1 _ rfl
        have x18 : wr.cell? ⟨g, j * 20 + 18, none⟩ = some (.bool (rs.getD j zeroSt).dirty) := hat 18 _ rfl
        have x19 : wr.cell? ⟨g, j * 20 + 19, none⟩ = some (.bool (rs.getD j zeroSt).hot) := hat 19 _ rfl
        have f0 : wr.frozen? ⟨g, j * 20, none⟩ = false := hrow.frozenAt _
        have f1 := hrow.frozenAt (j * 20 + 1)
        have f18 := hrow.frozenAt (j * 20 + 18)
        have f19 := hrow.frozenAt (j * 20 + 19)
        obtain ⟨W, hW, oW, tW⟩ := ho.mark4 hA (k0 + 4 * (j : Int)) (k0 + 4 * (j : Int) + 1) ((k0 + 4 * (j : Int) + 1 + 1) % 3 == 0) ((k0 + 4 * (j : Int) + 1 + 1 + 1) % 3 == 0)
        have HFIN : Hid (OwnSts W lo hi (some ⟨g, 0, none⟩) cap (halfSts rs k0 (j + 1)) ∧ Touch (blocksSts (some ⟨g, 0, none⟩) cap rs) w W) := by
          refine ⟨?_, htw.trans (tW.mono HSUB.out)⟩
          rw [HN.out]
          exact oW
        clear ho hown htw oW tW HN hat hrow hjl ez hA hk h0
        generalize (rs.getD j zeroSt).no = z0 at *
        generalize (rs.getD j zeroSt).lsn = z1 at *
        generalize (rs.getD j zeroSt).dirty = z2 at *
        generalize (rs.getD j zeroSt).hot = z3 at *
        generalize k0 + 4 * (j : Int) = kk at *
        go_wp2_with fail
        rw [hW.out]
        go_roundw
        case rel => exact ⟨j + 1, by omega, by go_num, by rw [HKN.out], HFIN.out.1, HFIN.out.2⟩
        case measure => simp [intOf]; omega
      · have HE : Hid (OwnSts wr lo hi (some ⟨g, 0, none⟩) cap (markSts rs k0) ∧ k0 + 4 * (j : Int) = k0 + 4 * (rs.length : Int)) := by
          have e : j = rs.length := by omega
          rw [e, HH.out.2] at hown
          exact ⟨hown.out, by rw [e]⟩
        go_wp2
        go_ret
        exact ⟨ret_int HE.out.2, HE.out.1, htw⟩

theorem markSts_at (rs : List SeatA) (k : Int) (j : Nat) (h : j < rs.length) : (markSts rs k).getD j zeroSt = markSt (rs.getD j zeroSt) (k + 4 * (j : Int)) := by
  have e : markSts rs k = markSts (rs.take j) k ++ markSts (rs.drop j) (k + 4 * (j : Int)) := by
    have := markSts_app (rs.take j) (rs.drop j) k
    rw [List.take_append_drop, List.length_take, Nat.min_eq_left (by omega)] at this
    exact this
  have hl : (markSts (rs.take j) k).length = j := by rw [markSts_len, List.length_take]; omega
  rw [e, (seats_split rs j h).1, markSts]
  simp [List.getD, hl]

set_option maxHeartbeats 2000000 in
set_option maxRecDepth 100000 in
theorem heldSeatS_any (a : Option Addr) (cap : Nat) (k0 : Int) (rs : List SeatA) (w : World) (hr : ReadsSts w a (markSts rs k0)) (h0 : 0 ≤ k0) (hk : k0 + 4 * (rs.length : Int) ≤ 1152921504606846976) (hlm : rs.length ≤ 9223372036854775807) :
    Calls Try.prog 23 #[.slice a rs.length cap, .int .i64 k0] w fun e w' => e = .returned (.int .i64 (k0 + 4 * (rs.length : Int))) ∧ w' = w := by
  have hml := markSts_len rs k0
  rcases hr.cases with h | ⟨b, off, rfl, hpos, hcell⟩
  · have h' := congrArg List.length h
    rw [hml] at h'
    obtain rfl := List.length_eq_zero_iff.1 h'
    go_enter Try.func23, Try.ntmps23
    go_wp2
    refine wp_loop_rounds 1 ?_
    rw [rounds_succ]
    go_wp2
    go_ret
    exact ⟨by simp, rfl⟩
  · rw [hml] at hpos hcell
    go_enter Try.func23, Try.ntmps23
    go_wp2
    go_loop [1, 5] (fun kk i => ∃ j : Nat, j ≤ rs.length ∧ i = .int .i64 j ∧ kk = .int .i64 (k0 + 4 * (j : Int))) (fun _ i => rs.length - (intOf i).toNat)
    case atStart => exact ⟨0, Nat.zero_le _, rfl, by simp⟩
    case round =>
      obtain ⟨j, hj, rfl, rfl⟩ := hrel
      by_cases hlt : j < rs.length
      · obtain ⟨hc, hrd⟩ := hcell j hlt
        rw [markSts_at rs k0 j hlt] at hc
        have hkb : 0 ≤ k0 + 4 * (j : Int) ∧ k0 + 4 * (j : Int) + 4 ≤ 1152921504606846976 := ⟨by omega, by omega⟩
        have HKN : Hid (k0 + 4 * ((j + 1 : Nat) : Int) = k0 + 4 * (j : Int) + 1 + 1 + 1 + 1) := by rw [Hid]; omega
        clear hk h0 hcell hpos hr hml hrd
        generalize k0 + 4 * (j : Int) = kk at *
        generalize rs.getD j zeroSt = z at *
        have x0 : w.cell? ⟨b, off + j * 20, none⟩ = some (.int .i64 kk) := hc 0 _ rfl
        have x1 : w.cell? ⟨b, off + j * 20 + 1, none⟩ = some (.int .i64 (kk + 1)) := hc 1 _ rfl
        have x2 : w.cell? ⟨b, off + j * 20 + 18, none⟩ = some (.bool ((kk + 1 + 1) % 3 == 0)) := hc 18 _ rfl
        have x3 : w.cell? ⟨b, off + j * 20 + 19, none⟩ = some (.bool ((kk + 1 + 1 + 1) % 3 == 0)) := hc 19 _ rfl
        clear hc
        go_wp2_with fail
        go_round
        case rel => exact ⟨j + 1, by omega, by go_num, by rw [HKN.out]⟩
        case measure => simp [intOf]; omega
      · have HE : Hid (k0 + 4 * (j : Int) = k0 + 4 * (rs.length : Int)) := by
          have e : j = rs.length := by omega
          rw [Hid, e]
        go_wp2
        go_ret
        exact ⟨ret_int HE.out, rfl⟩

def PoolA.mark (l : PoolA) (k : Int) : PoolA := { l with seats := markSts l.seats k }
def PoolA.count (l : PoolA) : Nat := 4 * l.seats.length
theorem markPool_cells (l : PoolA) (k : Int) : (l.mark k).cells = l.cells := by simp [PoolA.mark, PoolA.cells, markSts_len]
theorem cnt4 (n : Nat) : ((4 * n : Nat) : Int) = 4 * (n : Int) := by omega

set_option maxHeartbeats 1000000 in
theorem markPool_touch (l : PoolA) (lo hi : Nat) (k0 : Int) (w : World) (ho : l.own w lo hi) (hl : l.short 1099511627776) (h0 : 0 ≤ k0) (hk : k0 + l.count ≤ 1152921504606846976) :
    Calls Try.prog 13 #[.agg l.cells.toArray, .int .i64 k0] w fun e w' => e = .returned (.int .i64 (k0 + l.count)) ∧ (l.mark k0).own w' lo hi ∧ Touch l.blocks w w' := by
  obtain ⟨rs, s, a, c⟩ := l
  simp only [PoolA.cells, PoolA.own, PoolA.count, PoolA.mark, PoolA.blocks, cnt4] at *
  obtain ⟨W, hW, b0, hbW, hsW⟩ := boxes1 w [.slice a rs.length c, .int .i64 s] 29
  have c0 := b0.cell 0 _ rfl
  have C := markSeatS_touch lo hi a c k0 rs W (ho.below hbW) h0 hk
  clear hsW b0
  go_enter Try.func13, Try.ntmps13
  go_wp2_with fail
  rw [hW.out]
  clear hW
  refine C.mono ?_
  rintro e w1 ⟨rfl, ho1, ht1⟩
  go_wp2
  go_ret
  exact ⟨rfl, ho1, (Touch.of_below hbW).trans ht1⟩

set_option maxHeartbeats 1000000 in
theorem heldPool_any (l : PoolA) (lo hi : Nat) (k0 : Int) (w : World) (ho : (l.mark k0).own w lo hi) (hl : l.seats.length ≤ 1099511627776) (h0 : 0 ≤ k0) (hk : k0 + l.count ≤ 1152921504606846976) :
    Calls Try.prog 14 #[.agg l.cells.toArray, .int .i64 k0] w fun e w' => e = .returned (.int .i64 (k0 + l.count)) ∧ Below w.heap.size w w' := by
  obtain ⟨rs, s, a, c⟩ := l
  simp only [PoolA.cells, PoolA.own, PoolA.count, PoolA.mark, cnt4] at *
  obtain ⟨W, hW, b0, hbW, hsW⟩ := boxes1 w [.slice a rs.length c, .int .i64 s] 29
  have c0 := b0.cell 0 _ rfl
  have C := heldSeatS_any a c k0 rs W (ho.below hbW).reads h0 hk (by omega)
  have hnn : ¬ (k0 + 4 * (rs.length : Int) < 0) := by omega
  clear hsW b0
  go_enter Try.func14, Try.ntmps14
  go_wp2_with fail
  rw [hW.out]
  clear hW
  refine C.mono ?_
  rintro e w1 ⟨rfl, rfl⟩
  go_wp2
  go_ret
  exact ⟨rfl, hbW⟩
theorem countSt_short {t : PoolA} (h : t.short 1048576) : 1 + (t.count : Int) ≤ 1152921504606846976 := by
  have h2 := h.len
  have e : t.count = 4 * t.seats.length := rfl
  rw [e]
  omega
end Go.Proofs.Ytickiokdcbeefab

/- The walk of laws.FnExactUsed. -/
namespace Go.Proofs.Ytickiokdcbeefab
open Go.RowKit

set_option maxHeartbeats 4000000 in
set_option maxRecDepth 100000 in
theorem lawUsed_walk (p : PoolA) (n : Int) (w : World) (hin : InPool w p) :
    Calls Try.prog 4 #[.agg p.cells.toArray, .int .i64 n] w fun e w' => e = .returned (.bool true) ∧ Below w.heap.size w w' := by
  have hsm : p.short 9223372036854775807 := hin.short
  have hrd : p.reads w := hin.reads
  obtain ⟨W, hW, b0, hbW, hsW⟩ := boxes1 w p.cells 24
  have HP : Hid (∀ u, Below W.heap.size W u → u.cell? ⟨w.heap.size, 0, none⟩ = some (.slice p.a p.seats.length p.c) ∧ u.cell? ⟨w.heap.size, 1, none⟩ = some (.int .i64 p.hand)) := fun u hu => ⟨(b0.below hu b0.lt).cell 0 _ rfl, (b0.below hu b0.lt).cell 1 _ rfl⟩
  have hRd : ∀ u, Below W.heap.size W u → p.reads u := fun u hu => hrd.below (hbW.trans (hu.mono hbW.size))
  have HOK : Hid (∀ t : PoolA, t.v = usedOf p.v n → p.short 1048576 → t.short 1048576) := fun t h hs => used_short h hs
  have HCT : Hid (∀ t : PoolA, t.short 1048576 → 1 + (t.count : Int) ≤ 1152921504606846976) := fun t h => countSt_short h
  have hlt0 := b0.lt
  clear hsW b0 hin
  simp only [PoolA.cells] at *
  have p0 := (HP.out W (Below.refl _ _)).1
  have p1 := (HP.out W (Below.refl _ _)).2
  have C := szPool_any p 1048576 W (hRd W (Below.refl _ _)) hsm (by omega)
  simp only [PoolA.cells] at C
  go_enter Try.func4, Try.ntmps4
  go_wp2_with fail
  rw [hW.out]
  clear hW
  refine C.mono ?_
  clear C p0 p1
  rintro e w1 ⟨z, rfl, hz, B1⟩
  rcases hz with hneg | ⟨hz0, _, hl⟩
  · go_wp2
    go_ret
    exact ⟨rfl, hbW.trans (B1.mono hbW.size)⟩
  have hzn : ¬ z < 0 := by omega
  have hs1 := B1.size
  have p0 := (HP.out w1 B1).1
  have p1 := (HP.out w1 B1).2
  have C := toPool_any p w1 (hRd w1 B1) hl
  simp only [PoolA.cells] at C
  go_wp2_with fail
  refine C.mono ?_
  clear C p0 p1
  rintro e w2 ⟨ts, rfl, hv2, o2, hb2⟩
  have hs2 := hb2.size
  have B2 : Below W.heap.size W w2 := B1.trans (hb2.mono hs1)
  have C := specUsed_any ts n w2 o2.reads (PoolA.short_of hv2.out hl)
  simp only [PoolA.cells, hv2.out] at C
  go_wp2_with fail
  refine C.mono ?_
  clear C o2 hv2
  rintro e w3 ⟨tw, rfl, hvw, ow3, hb3⟩
  have hs3 := hb3.size
  have B3 : Below W.heap.size W w3 := B2.trans (hb3.mono (by omega))
  clear hb2 hb3
  obtain ⟨W4, hW4, k6, hb4, hs4⟩ := boxes1 w3 [.slice tw.a tw.seats.length tw.c, .int .i64 tw.hand] 29
  have hs4' := k6.lt
  clear hs4
  have B4 : Below W.heap.size W W4 := B3.trans (hb4.mono (by omega))
  have ow4 := ow3.below hb4
  clear ow3 hb4
  go_upto_region 6 with fail
  rw [hW4.out]
  clear hW4
  have p0 := (HP.out W4 B4).1
  have p1 := (HP.out W4 B4).2
  have C := toPool_any p W4 (hRd W4 B4) hl
  simp only [PoolA.cells] at C
  go_wp2_with fail
  refine C.mono ?_
  clear C p0 p1
  rintro e w5 ⟨q, rfl, hqm, oq5, hb5⟩
  have hs5 := hb5.size
  have B5 : Below W.heap.size W w5 := B4.trans (hb5.mono (by omega))
  have k65 := k6.below hb5 k6.lt
  have ow5 := ow4.below hb5
  have hqS := PoolA.short_of hqm.out hl
  clear k6 ow4 hb5
  obtain ⟨W6, hW6, k7, hb6, hs6⟩ := boxes1 w5 [.slice q.a q.seats.length q.c, .int .i64 q.hand] 29
  have hs6' := k7.lt
  clear hs6
  have B6 : Below W.heap.size W W6 := B5.trans (hb6.mono (by omega))
  have k66 := k65.below hb6 k65.lt
  have ow6 := ow5.below hb6
  have oq6 := oq5.below hb6
  clear k65 ow5 oq5 hb6
  go_upto_region 7 with fail
  rw [hW6.out]
  clear hW6
  have p0 := k7.cell 0 _ rfl
  have p1 := k7.cell 1 _ rfl
  have C := implUsed_any q n W6 oq6.reads hqS
  simp only [PoolA.cells, hqm.out] at C
  go_wp2_with fail
  refine C.mono ?_
  clear C p0 p1
  rintro e w7 ⟨tg, rfl, hvg, og7, hb7⟩
  have hs7 := hb7.size
  have B7 : Below W.heap.size W w7 := B6.trans (hb7.mono (by omega))
  have k67 := k66.below hb7 k66.lt
  have k77 := k7.below hb7 k7.lt
  have ow7 := ow6.below hb7
  have oq7 := oq6.below hb7
  clear k66 k7 ow6 oq6 hb7
  obtain ⟨W8, hW8, k8, hb8, hs8⟩ := boxes1 w7 [.slice tg.a tg.seats.length tg.c, .int .i64 tg.hand] 29
  have hs8' := k8.lt
  clear hs8
  have B8 : Below W.heap.size W W8 := B7.trans (hb8.mono (by omega))
  have k68 := k67.below hb8 k67.lt
  have k78 := k77.below hb8 k77.lt
  have ow8 := ow7.below hb8
  have oq8 := oq7.below hb8
  have og8 := og7.below hb8
  have HWG : Hid (tw.v = tg.v) := hvw.out.trans hvg.out.symm
  have hgS := HOK.out tg hvg.out hl
  clear k67 k77 ow7 oq7 og7 hb8
  go_upto_region 8 with fail
  rw [hW8.out]
  clear hW8
  have g0 := k8.cell 0 _ rfl
  have g1 := k8.cell 1 _ rfl
  have v0 := k68.cell 0 _ rfl
  have v1 := k68.cell 1 _ rfl
  have C := eqPool_same tg tw HWG.out W8 og8.reads ow8.reads (PoolA.short_wide hgS)
  simp only [PoolA.cells] at C
  go_wp2_with fail
  refine C.mono ?_
  clear C g0 g1 v0 v1
  rintro e w9 ⟨rfl, hb9⟩
  have hs9 := hb9.size
  have B9 : Below W.heap.size W w9 := B8.trans (hb9.mono (by omega))
  have k69 := k68.below hb9 k68.lt
  have k79 := k78.below hb9 k78.lt
  have k89 := k8.below hb9 k8.lt
  have ow9 := ow8.below hb9
  have oq9 := oq8.below hb9
  have og9 := og8.below hb9
  clear k68 k78 k8 ow8 oq8 og8 hb9
  have HQ : Hid (q.v = p.v) := hqm.out
  have HS7 : Hid (∀ u, Below W.heap.size W u → Below w9.heap.size w9 u → (u.cell? ⟨w.heap.size, 0, none⟩ = some (.slice p.a p.seats.length p.c) ∧ u.cell? ⟨w.heap.size, 1, none⟩ = some (.int .i64 p.hand)) ∧ (u.cell? ⟨w5.heap.size, 0, none⟩ = some (.slice q.a q.seats.length q.c) ∧ u.cell? ⟨w5.heap.size, 1, none⟩ = some (.int .i64 q.hand))) := fun u h1 h2 => ⟨HP.out u h1, (k79.below h2 k79.lt).cell 0 _ rfl, (k79.below h2 k79.lt).cell 1 _ rfl⟩
  have hr9 := hRd _ B9.drew
  have oqr := oq9.reads
  clear hqm
  go_wp2_with fail
  refine wp_region_held_drew (S := fun u => (u.cell? ⟨w.heap.size, 0, none⟩ = some (.slice p.a p.seats.length p.c) ∧ u.cell? ⟨w.heap.size, 1, none⟩ = some (.int .i64 p.hand)) ∧ (u.cell? ⟨w5.heap.size, 0, none⟩ = some (.slice q.a q.seats.length q.c) ∧ u.cell? ⟨w5.heap.size, 1, none⟩ = some (.int .i64 q.hand))) (by kernel_rfl) ?_ (fun hHeld => ?_)
  · exact HS7.out _ B9.drew (Below.refl _ _).drew
  refine wpAnyH_take (i := 0) (v := .agg #[.slice q.a q.seats.length q.c, .int .i64 q.hand]) rfl (by kernel_rfl) (by kernel_rfl) (by kernel_rfl) (fun _ _ _ h => h) (Or.inl ⟨by rfl, ?_⟩) hHeld ?_
  · intro w' hSw
    have hx0 := hSw.2.1
    have hx1 := hSw.2.2
    go_simp <;> rfl
  try simp only [Act.put, List.getElem_toArray, List.getElem_cons_zero, List.setIfInBounds_toArray, List.set_cons_zero, List.set_cons_succ]
  refine wpAnyH_take (i := 1) (v := .agg #[.slice p.a p.seats.length p.c, .int .i64 p.hand]) rfl (by kernel_rfl) (by kernel_rfl) (by kernel_rfl) (fun _ _ _ h => h) (Or.inl ⟨by rfl, ?_⟩) hHeld ?_
  · intro w' hSw
    have hx0 := hSw.1.1
    have hx1 := hSw.1.2
    go_simp <;> rfl
  try simp only [Act.put, List.getElem_toArray, List.getElem_cons_zero, List.getElem_cons_succ, List.setIfInBounds_toArray, List.set_cons_zero, List.set_cons_succ]
  refine wpAnyH_ready (rs := [2]) (by kernel_rfl) (by simp) ?_
  refine AllReadyH.cons rfl (fun K hK => ?_) AllReadyH.nil
  have C := toPool_any p w9.drew hr9 hl
  simp only [PoolA.cells] at C
  go_simp
  refine C.mono ?_
  clear C
  rintro e w10 ⟨vs, rfl, hv10, o10, hb10⟩
  have hb10' : Below w9.heap.size w9 w10 := ((Below.refl _ _).drew).trans hb10
  have B10 : Below W.heap.size W w10 := B9.trans (hb10'.mono (by omega))
  refine hK.out _ _ (HS7.out _ B10 hb10') (fun hHeld => ?_)
  clear hK K
  try simp only [Act.put, List.getElem_toArray, List.getElem_cons_zero, List.getElem_cons_succ, List.setIfInBounds_toArray, List.set_cons_zero, List.set_cons_succ]
  refine wpAnyH_ready (rs := [3]) (by kernel_rfl) (by simp) ?_
  refine AllReadyH.cons rfl (fun K hK => ?_) AllReadyH.nil
  have C := eqPool_same q vs (hv10.out.trans HQ.out.symm) w10 (oqr.below hb10') o10.reads (PoolA.short_wide hqS)
  simp only [PoolA.cells] at C
  go_simp
  refine C.mono ?_
  clear C
  rintro e w11 ⟨rfl, hb11⟩
  have hb11' : Below w9.heap.size w9 w11 := hb10'.trans (hb11.mono hb10'.size)
  have B11 : Below W.heap.size W w11 := B9.trans (hb11'.mono (by omega))
  refine hK.out _ _ (HS7.out _ B11 hb11') (fun hHeld => ?_)
  clear hK K
  try simp only [Act.put, List.getElem_toArray, List.getElem_cons_zero, List.getElem_cons_succ, List.setIfInBounds_toArray, List.set_cons_zero, List.set_cons_succ]
  refine wpAnyH_take (i := 4) (v := .bool false) rfl (by kernel_rfl) (by kernel_rfl) (by kernel_rfl) (fun _ _ _ h => h) (Or.inl ⟨by rfl, ?_⟩) hHeld ?_
  · intro w' _; go_simp
  refine wpAnyH_done (by kernel_rfl) ?_ _
  have hs11 := hb11'.size
  have k6b := k69.below hb11' k69.lt
  have k7b := k79.below hb11' k79.lt
  have k8b := k89.below hb11' k89.lt
  have owb := ow9.below hb11'
  have oqb := oq9.below hb11'
  have ogb := og9.below hb11'
  clear hHeld hb11 hb10 hb10' hb11' o10 hv10 B10 k69 k79 k89 ow9 oq9 og9 oqr hr9 HS7
  have p0 := k7b.cell 0 _ rfl
  have p1 := k7b.cell 1 _ rfl
  have C := markPool_touch q W4.heap.size w5.heap.size 1 w11 oqb (PoolA.short_wide hqS) (by omega) (HCT.out q hqS)
  simp only [PoolA.cells] at C
  go_wp2_with fail
  refine C.mono ?_
  clear C p0 p1
  rintro e w12 ⟨rfl, _, ht12⟩
  have hw12 : Within W4.heap.size w5.heap.size w11 w12 := ht12.within oqb.blocks_lt
  have hs12 := hw12.size
  have k6c := k6b.within hw12 (by omega)
  have k8c := k8b.within hw12 (by omega)
  have owc := owb.within hw12 (.inl (by omega))
  have ogc := ogb.within hw12 (.inr (by omega))
  have B12 : Below W.heap.size W w12 := B11.trans (hw12.below (by omega) (by omega))
  have hcn : ¬ ((1 : Int) + (q.count : Int)) < 0 := by omega
  clear ht12 hw12 k6b k7b k8b owb oqb ogb
  generalize q.count = cq at *
  have g0 := k8c.cell 0 _ rfl
  have g1 := k8c.cell 1 _ rfl
  have v0 := k6c.cell 0 _ rfl
  have v1 := k6c.cell 1 _ rfl
  have C := eqPool_same tg tw HWG.out w12 ogc.reads owc.reads (PoolA.short_wide hgS)
  simp only [PoolA.cells] at C
  go_wp2_with fail
  refine C.mono ?_
  clear C g0 g1 v0 v1
  rintro e w13 ⟨rfl, hb13⟩
  have hs13 := hb13.size
  have B13 : Below W.heap.size W w13 := B12.trans (hb13.mono (by omega))
  have k6d := k6c.below hb13 k6c.lt
  have k8d := k8c.below hb13 k8c.lt
  have owd := owc.below hb13
  have ogd := ogc.below hb13
  clear k6c k8c owc ogc hb13
  have g0 := k8d.cell 0 _ rfl
  have g1 := k8d.cell 1 _ rfl
  have C := markPool_touch tg W6.heap.size w7.heap.size 1 w13 ogd (PoolA.short_wide hgS) (by omega) (HCT.out tg hgS)
  simp only [PoolA.cells] at C
  go_wp2_with fail
  refine C.mono ?_
  clear C g0 g1
  rintro e w14 ⟨rfl, omg, ht14⟩
  have hw14 : Within W6.heap.size w7.heap.size w13 w14 := ht14.within ogd.blocks_lt
  have hs14 := hw14.size
  have k6e := k6d.within hw14 (by omega)
  have k8e := k8d.within hw14 (by omega)
  have owe := owd.within hw14 (.inl (by omega))
  have B14 : Below W.heap.size W w14 := B13.trans (hw14.below (by omega) (by omega))
  clear ht14 hw14 k6d k8d owd ogd
  have hcg : ¬ ((1 : Int) + (tg.count : Int)) < 0 := by omega
  have g0 := k8e.cell 0 _ rfl
  have g1 := k8e.cell 1 _ rfl
  have C := heldPool_any tg W6.heap.size w7.heap.size 1 w14 omg (by have := hgS.len; omega) (by omega) (HCT.out tg hgS)
  simp only [PoolA.cells] at C
  go_wp2_with fail
  refine C.mono ?_
  clear C g0 g1
  rintro e w15 ⟨rfl, hb15⟩
  have hs15 := hb15.size
  have B15 : Below W.heap.size W w15 := B14.trans (hb15.mono (by omega))
  have k6f := k6e.below hb15 k6e.lt
  have k8f := k8e.below hb15 k8e.lt
  have owf := owe.below hb15
  have omf := omg.below hb15
  clear k6e k8e owe omg hb15
  have p0 := (HP.out w15 B15).1
  have p1 := (HP.out w15 B15).2
  have C := toPool_any p w15 (hRd w15 B15) hl
  simp only [PoolA.cells] at C
  go_wp2_with fail
  refine C.mono ?_
  clear C p0 p1
  rintro e w16 ⟨us, rfl, hvu, ou, hb16⟩
  have hs16 := hb16.size
  have B16 : Below W.heap.size W w16 := B15.trans (hb16.mono (by omega))
  have C := implUsed_any us n w16 ou.reads (PoolA.short_of hvu.out hl)
  simp only [PoolA.cells, hvu.out] at C
  go_wp2_with fail
  refine C.mono ?_
  clear C
  rintro e w17 ⟨th, rfl, hvh, oh, hb17⟩
  have hb17' : Below w15.heap.size w15 w17 := hb16.trans (hb17.mono hs16)
  have hs17 := hb17'.size
  have B17 : Below W.heap.size W w17 := B15.trans (hb17'.mono (by omega))
  have k6g := k6f.below hb17' k6f.lt
  have k8g := k8f.below hb17' k8f.lt
  have owg := owf.below hb17'
  have omgg := omf.below hb17'
  clear k6f k8f owf omf hb17 hb16 hb17' ou hvu B16
  obtain ⟨W18, hW18, k12, hb18, hs18⟩ := boxes1 w17 [.slice th.a th.seats.length th.c, .int .i64 th.hand] 29
  have hs18' := k12.lt
  clear hs18
  have B18 : Below W.heap.size W W18 := B17.trans (hb18.mono (by omega))
  have k6h := k6g.below hb18 k6g.lt
  have k8h := k8g.below hb18 k8g.lt
  have owh := owg.below hb18
  have omh := omgg.below hb18
  have ohh := oh.below hb18
  have HWH : Hid (tw.v = th.v) := hvw.out.trans hvh.out.symm
  have hhS := HOK.out th hvh.out hl
  clear k6g k8g owg omgg oh hb18
  go_upto_region 25 with fail
  rw [hW18.out]
  clear hW18
  have g0 := k12.cell 0 _ rfl
  have g1 := k12.cell 1 _ rfl
  have v0 := k6h.cell 0 _ rfl
  have v1 := k6h.cell 1 _ rfl
  have C := eqPool_same th tw HWH.out W18 ohh.reads owh.reads (PoolA.short_wide hhS)
  simp only [PoolA.cells] at C
  go_wp2_with fail
  refine C.mono ?_
  clear C g0 g1 v0 v1
  rintro e w19 ⟨rfl, hb19⟩
  have B19 : Below W.heap.size W w19 := B18.trans (hb19.mono (by omega))
  have k8i := k8h.below hb19 k8h.lt
  have omi := omh.below hb19
  clear k6h k8h owh omh ohh k12
  have g0 := k8i.cell 0 _ rfl
  have g1 := k8i.cell 1 _ rfl
  have C := heldPool_any tg W6.heap.size w7.heap.size 1 w19 omi (by have := hgS.len; omega) (by omega) (HCT.out tg hgS)
  simp only [PoolA.cells] at C
  go_wp2_with fail
  refine C.mono ?_
  clear C g0 g1
  rintro e w20 ⟨rfl, hb20⟩
  have B20 : Below W.heap.size W w20 := B19.trans (hb20.mono B19.size)
  go_wp2
  go_ret
  exact ⟨rfl, hbW.trans (B20.mono hbW.size)⟩
end Go.Proofs.Ytickiokdcbeefab
