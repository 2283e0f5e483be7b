/- Several texts in one, in their order. -/
import Derived.Test.YtickiokdcbeefabDoorPChangex16
import Derived.Test.YtickiokdcbeefabDoorPChangex10
import Derived.Test.YtickiokdcbeefabDoorPChangex15
import Derived.Deep.CutRange
/- What the pool's functions make stays short. -/
namespace Go.Proofs.YtickiokdcbeefabDoor
open Go.RowKit

def SeatV.short (s : SeatV) (m : Nat) : Prop := ∀ x ∈ s.ss, x.o.ints.length ≤ m ∧ x.o.refs.length ≤ m
theorem setV_short {ss : List SeatV} {m k : Nat} {x : SeatV} (h : ∀ s ∈ ss, s.short m) (hx : x.short m) : ∀ s ∈ ss.set k x, s.short m := fun s hs => by
  rcases List.mem_or_eq_of_mem_set hs with hs | rfl
  · exact h s hs
  · exact hx
theorem pool_shortV {p : PoolA} {m : Nat} (h : p.short m) : ∀ s ∈ p.v.seats, s.short m := fun s hs => by
  obtain ⟨r, hr, rfl⟩ := List.mem_map.1 hs
  intro x hx
  obtain ⟨y, hy, rfl⟩ := List.mem_map.1 hx
  exact h.each r hr y hy
theorem short_by {t : PoolA} {m : Nat} (hlen : t.v.seats.length ≤ m) (h : ∀ s ∈ t.v.seats, s.short m) : t.short m := by
  refine ⟨by simpa [PoolA.v] using hlen, fun r hr x hx => ?_⟩
  exact h r.v (List.mem_map.2 ⟨r, hr, rfl⟩) x.v (List.mem_map.2 ⟨x, hx, rfl⟩)
theorem change_short {p t : PoolA} {no lsn : Int} {ss : List SlotV} (h : t.v = (changeOf6 p.v no lsn ss).1) (hl : p.short 1048576) (hp : ∀ x ∈ ss, x.o.ints.length ≤ 1048576 ∧ x.o.refs.length ≤ 1048576) : t.short 1048576 := by
  have hs := pool_shortV hl
  have hlen : p.v.seats.length ≤ 1048576 := by have := hl.len; simpa [PoolA.v] using this
  rw [changeOf6] at h
  split at h
  · exact short_by (by rw [h]; simpa [setSeatV] using hlen) (by rw [h]; exact setV_short hs hp)
  · exact short_by (by rw [h]; exact hlen) (by rw [h]; exact hs)
end Go.Proofs.YtickiokdcbeefabDoor

/- A page of four slots, as the laws hand it: its walks in the form of a record's. -/
namespace Go.Proofs.YtickiokdcbeefabDoor
open Go.RowKit

structure PgA where
  lsn : Int
  s0 : SlotA
  s1 : SlotA
  s2 : SlotA
  s3 : SlotA
structure PgV where
  lsn : Int
  ss : List SlotV
def PgA.ss (r : PgA) : List SlotA := [r.s0, r.s1, r.s2, r.s3]
def PgA.page (r : PgA) : PageA := ⟨r.lsn, r.ss⟩
def PgA.v (r : PgA) : PgV := ⟨r.lsn, r.ss.map (·.v)⟩
def PgA.cells (r : PgA) : List Value := r.page.cells
def PgA.reads (w : World) (r : PgA) : Prop := ReadsS w r.ss
def PgA.own (w : World) (lo hi : Nat) (r : PgA) : Prop := OwnS w lo hi r.ss
def PgA.short (r : PgA) (m : Nat) : Prop := ∀ x ∈ r.ss, x.v.o.ints.length ≤ m ∧ x.v.o.refs.length ≤ m
def PgA.blocks (r : PgA) : List Nat := r.ss.flatMap SlotA.blocks
def PgA.count (r : PgA) : Nat := countS r.ss
theorem PgA.reads.below {w w' : World} {r : PgA} (h : r.reads w) (hb : Below w.heap.size w w') : r.reads w' := ReadsS.below h hb
theorem PgA.own.reads {w : World} {lo hi : Nat} {r : PgA} (h : r.own w lo hi) : r.reads w := OwnS.reads h
theorem PgA.own.below {w w' : World} {lo hi : Nat} {r : PgA} (h : r.own w lo hi) (hb : Below w.heap.size w w') : r.own w' lo hi := OwnS.below h hb
theorem PgA.own.within {w w' : World} {lo hi l u : Nat} {r : PgA} (h : r.own w lo hi) (hw : Within l u w w') (hd : hi ≤ l ∨ u ≤ lo) : r.own w' lo hi := OwnS.within h hw hd
theorem PgA.own.blocks_lt {w : World} {lo hi : Nat} {r : PgA} (h : r.own w lo hi) : ∀ k ∈ r.blocks, lo ≤ k ∧ k < hi := OwnS.blocks_lt h
theorem PgA.own.top {w : World} {lo hi : Nat} {r : PgA} (h : r.own w lo hi) : hi ≤ w.heap.size := (h.each r.s0 (by simp [PgA.ss])).ints.2.1
theorem pg_short_of {a b : PgA} {m : Nat} (h : a.v = b.v) (hb : b.short m) : a.short m := by
  intro x hx
  have e : a.ss.map (·.v) = b.ss.map (·.v) := congrArg PgV.ss h
  have : x.v ∈ b.ss.map (·.v) := by rw [← e]; exact List.mem_map.2 ⟨x, hx, rfl⟩
  obtain ⟨y, hy, e⟩ := List.mem_map.1 this
  rw [← e]
  exact hb y hy
theorem pg_short_wide {r : PgA} (h : r.short 1048576) : r.short 1099511627776 := fun x hx => by have := h x hx; omega
theorem pg_info (q : PgA) : (Tryd.prog.info? 49).map (·.size) = some q.cells.length := by show _ = some 17; kernel_rfl
theorem lpg_info (q : PgA) : (Tryd.prog.info? 42).map (·.size) = some q.cells.length := by show _ = some 17; kernel_rfl
theorem pg_one (q : PgA) : q.cells.toArray.all (·.oneCell') = true := all_oneCell_toArray (oneP q.page)
theorem pg_rng {w : World} {B : Nat} {t : TypeId} (q : PgA) (b : Box w B q.cells t) : w.rangeAt B 0 q.cells := Box.range [] q.cells [] (by simpa using b)
theorem pg_out {w : World} {C : Nat} (q : PgA) (old : List Value) (ho : old.length = 17) (bC : Box w C old 49) :
    ∃ WF, Hid (w.setCells C 0 q.cells = WF) ∧ Within C (C + 1) w WF ∧ WF.heap.size = w.heap.size ∧ Hid (w.there C 0 q.cells.toArray.size) ∧ Hid ((loadVar 49 ⟨C, 0, none⟩).run Tryd.prog WF = .ok (.agg q.cells.toArray) WF) ∧ Box WF C q.cells 49 := by
  obtain ⟨WF, hWF, bF, hwF, hsF⟩ := range_fill [] old q.cells [] (by simpa using bC) (by rw [ho]; rfl)
  have bF' : Box WF C q.cells 49 := by simpa using bF
  exact ⟨WF, hWF, hwF, hsF, bC.there 0 _ (by rw [ho]; show 0 + 17 ≤ 17; decide), run_loadVar_mid (P := Tryd.prog) WF C 0 49 q.cells _ (pg_rng q bF') Tryd.underlying49 rfl (pg_info q), bF'⟩
theorem toPg_law (r : PgA) (w : World) (hr : r.reads w) (hl : r.short 1048576) :
    Calls Tryd.prog 15 #[.agg r.cells.toArray] w fun e w' => ∃ t : PgA, e = .returned (.agg t.cells.toArray) ∧ Hid (t.v = r.v) ∧ t.own w' w.heap.size w'.heap.size ∧ Below w.heap.size w w' := by
  refine (toPage_own r.page rfl w hr (wide_of hl)).mono ?_
  rintro e w' ⟨ts, rfl, hv, ho, hb⟩
  obtain ⟨a, b, c, d, rfl⟩ := four_slots' (ts := ts) (by have := congrArg List.length hv.out; simpa [PgA.page, PgA.ss] using this)
  exact ⟨⟨r.lsn, a, b, c, d⟩, rfl, by rw [Hid]; simp only [PgA.v, PgV.mk.injEq]; exact ⟨trivial, hv.out⟩, ho, hb⟩
theorem szPg_any (r : PgA) (left : Int) (w : World) (hn : r.short 9223372036854775807) (h0 : 0 ≤ left ∧ left ≤ 1048576) :
    Calls Tryd.prog 13 #[.agg r.cells.toArray, .int .i64 left] w fun e w' => ∃ z, e = .returned (.int .i64 z) ∧ (z < 0 ∨ (0 ≤ z ∧ z ≤ left ∧ r.short 1048576)) ∧ Below w.heap.size w w' :=
  szPage_any r.page rfl left w hn h0
theorem eqPg_same (s t : PgA) (he : t.v = s.v) (w : World) (hs : s.reads w) (ht : t.reads w) (hl : s.short 1099511627776) :
    Calls Tryd.prog 18 #[.agg s.cells.toArray, .agg t.cells.toArray] w fun e w' => e = .returned (.bool true) ∧ Below w.heap.size w w' := by
  simp only [PgA.v, PgV.mk.injEq] at he
  have e : t.cells = PageA.cells ⟨s.lsn, t.ss⟩ := by show PageA.cells ⟨t.lsn, t.ss⟩ = _; rw [he.1]
  rw [e]
  exact eqPage_same s.lsn s.ss t.ss rfl he.2 w hs ht hl
theorem markPg_wide (r : PgA) (lo hi : Nat) (k0 : Int) (w : World) (ho : r.own w lo hi) (hl : r.short 1099511627776) (h0 : 0 ≤ k0) (hk : k0 ≤ 10995116277760) :
    Calls Tryd.prog 19 #[.agg r.cells.toArray, .int .i64 k0] w fun e w' => e = .returned (.int .i64 (k0 + r.count)) ∧ True ∧ Touch r.blocks w w' := by
  refine (markPage_touch r.page rfl lo hi k0 w ho hl h0 hk ho.top).mono ?_
  rintro e w' ⟨rfl, _, ht⟩
  exact ⟨rfl, trivial, ht⟩
/-- What a pool's law is answered: this pool, this word. -/
def PoolAns (w w' : World) (RO : PoolV) (RK : Bool) (e : Ending) : Prop := ∃ t : PoolA, e = .returned (.tuple #[.agg t.cells.toArray, .bool RK]) ∧ Hid (t.v = RO) ∧ t.own w' w.heap.size w'.heap.size ∧ Below w.heap.size w w'
end Go.Proofs.YtickiokdcbeefabDoor

/- The walks of laws.markSeatS, heldSeatS, markPool, heldPool, markSeat, heldSeat. -/
namespace Go.Proofs.YtickiokdcbeefabDoor
open Go.RowKit

/-- A seat with marks from k on. -/
def markSt (s : SeatA) (k : Int) : SeatA := ⟨k, k + 1, s.s0, s.s1, s.s2, s.s3, ((k + 1 + 1) % 3 == 0), ((k + 1 + 1 + 1) % 3 == 0)⟩
def markSts : List SeatA → Int → List SeatA
  | [], _ => []
  | r :: t, k => markSt r k :: markSts t (k + 4)
theorem markSts_len (rs : List SeatA) : ∀ k, (markSts rs k).length = rs.length := by
  induction rs with
  | nil => intro k; rfl
  | cons x r ih => intro k; simp [markSts, ih]
theorem markSts_app (A B : List SeatA) : ∀ k, markSts (A ++ B) k = markSts A k ++ markSts B (k + 4 * (A.length : Int)) := by
  induction A with
  | nil => intro k; simp [markSts]
  | cons x r ih =>
    intro k
    simp only [List.cons_append, markSts, ih, List.length_cons]
    congr 3
    omega
theorem seats_split (rs : List SeatA) (j : Nat) (h : j < rs.length) : rs.drop j = rs.getD j zeroSt :: rs.drop (j + 1) ∧ rs.take (j + 1) = rs.take j ++ [rs.getD j zeroSt] := by
  have e : rs.getD j zeroSt = rs[j] := by simp [List.getD, h]
  exact ⟨by rw [List.drop_eq_getElem_cons h, e], by rw [List.take_succ_eq_append_getElem h, e]⟩
/-- How far the marks have come. -/
def halfSts (rs : List SeatA) (k : Int) (j : Nat) : List SeatA := markSts (rs.take j) k ++ rs.drop j
theorem halfSts_at (rs : List SeatA) (k : Int) (j : Nat) (h : j < rs.length) : halfSts rs k j = markSts (rs.take j) k ++ rs.getD j zeroSt :: rs.drop (j + 1) := by rw [halfSts, (seats_split rs j h).1]
theorem halfSts_next (rs : List SeatA) (k : Int) (j : Nat) (h : j < rs.length) : halfSts rs k (j + 1) = markSts (rs.take j) k ++ markSt (rs.getD j zeroSt) (k + 4 * (j : Int)) :: rs.drop (j + 1) := by
  rw [halfSts, (seats_split rs j h).2, markSts_app, List.length_take, Nat.min_eq_left (by omega)]
  simp [markSts]
/-- The four marks of a seat, stored. -/
theorem OwnSts.mark4 {w : World} {lo hi g c j : Nat} {A B : List SeatA} {z : SeatA} (h : OwnSts w lo hi (some ⟨g, 0, none⟩) c (A ++ z :: B)) (hj : A.length = j) (v0 v1 : Int) (d t : Bool) :
    ∃ W, Hid ((((w.setCell ⟨g, j * 20, none⟩ (.int .i64 v0)).setCell ⟨g, j * 20 + 1, none⟩ (.int .i64 v1)).setCell ⟨g, j * 20 + 18, none⟩ (.bool d)).setCell ⟨g, j * 20 + 19, none⟩ (.bool t) = W) ∧ OwnSts W lo hi (some ⟨g, 0, none⟩) c (A ++ ⟨v0, v1, z.s0, z.s1, z.s2, z.s3, d, t⟩ :: B) ∧ Touch [g] w W := by
  subst hj
  obtain ⟨h0, t0⟩ := h.cellSet (z' := ⟨v0, z.lsn, z.s0, z.s1, z.s2, z.s3, z.dirty, z.hot⟩) 0 (.int .i64 v0) (by omega) rfl rfl
  obtain ⟨h1, t1⟩ := h0.cellSet (z' := ⟨v0, v1, z.s0, z.s1, z.s2, z.s3, z.dirty, z.hot⟩) 1 (.int .i64 v1) (by omega) rfl rfl
  obtain ⟨h2, t2⟩ := h1.cellSet (z' := ⟨v0, v1, z.s0, z.s1, z.s2, z.s3, d, z.hot⟩) 18 (.bool d) (by omega) rfl rfl
  obtain ⟨h3, t3⟩ := h2.cellSet (z' := ⟨v0, v1, z.s0, z.s1, z.s2, z.s3, d, t⟩) 19 (.bool t) (by omega) rfl rfl
  exact ⟨_, rfl, h3, ((t0.trans t1).trans t2).trans t3⟩

set_option maxHeartbeats 2000000 in
set_option maxRecDepth 100000 in
theorem markSeatS_touch (lo hi : Nat) (a : Option Addr) (cap : Nat) (k0 : Int) (rs : List SeatA) (w : World) (ho : OwnSts w lo hi a cap rs) (h0 : 0 ≤ k0) (hk : k0 + 4 * (rs.length : Int) ≤ 1152921504606846976) :
    Calls Tryd.prog 33 #[.slice a rs.length cap, .int .i64 k0] w fun e w' => e = .returned (.int .i64 (k0 + 4 * (rs.length : Int))) ∧ OwnSts w' lo hi a cap (markSts rs k0) ∧ Touch (blocksSts a cap rs) w w' := by
  rcases ho.row.2 with ⟨hv, h00⟩ | ⟨g, cap', cur, hv, hg, hgg, hr⟩
  · simp only [Value.slice.injEq] at hv
    obtain ⟨rfl, _, rfl⟩ := hv
    obtain rfl := List.length_eq_zero_iff.1 h00
    go_enter Tryd.func33, Tryd.ntmps33
    go_wp2
    refine wp_loop_rounds 1 ?_
    rw [rounds_succ]
    go_wp2
    go_ret
    exact ⟨by simp, ho, Touch.refl _ _⟩
  · simp only [Value.slice.injEq] at hv
    obtain ⟨rfl, _, rfl⟩ := hv
    have hlm : rs.length ≤ maxLen := Nat.le_trans hr.1 hr.2.1
    simp only [maxLen] at hlm
    clear hgg hr
    have HH : Hid (halfSts rs k0 0 = rs ∧ halfSts rs k0 rs.length = markSts rs k0) := ⟨by simp [halfSts, markSts], by simp [halfSts]⟩
    have HST : Hid (OwnSts w lo hi (some ⟨g, 0, none⟩) cap (halfSts rs k0 0)) := by rw [HH.out.1]; exact ho
    have HSUB : Hid (∀ k ∈ [g], k ∈ blocksSts (some ⟨g, 0, none⟩) cap rs) := fun k hk => by
      obtain rfl := List.mem_singleton.1 hk
      exact List.mem_append.2 (.inl (by simp [Value.ownBlock]))
    clear ho
    go_enter Tryd.func33, Tryd.ntmps33
    go_wp2
    go_loopw [1, 5] (fun kk i wr => ∃ j : Nat, j ≤ rs.length ∧ i = .int .i64 j ∧ kk = .int .i64 (k0 + 4 * (j : Int)) ∧ Hid (OwnSts wr lo hi (some ⟨g, 0, none⟩) cap (halfSts rs k0 j)) ∧ Touch (blocksSts (some ⟨g, 0, none⟩) cap rs) w wr)
      (fun _ i _ => rs.length - (intOf i).toNat)
    case atStart => exact ⟨0, Nat.zero_le _, rfl, by simp, HST, Touch.refl _ _⟩
    case round =>
      obtain ⟨j, hj, rfl, rfl, hown, htw⟩ := hrel
      clear HST
      by_cases hlt : j < rs.length
      · have ho := hown.out
        rw [halfSts_at rs k0 j hlt] at ho
        have HN : Hid (halfSts rs k0 (j + 1) = _) := halfSts_next rs k0 j hlt
        have hA : (markSts (rs.take j) k0).length = j := by rw [markSts_len, List.length_take]; omega
        have hkb : 0 ≤ k0 + 4 * (j : Int) ∧ k0 + 4 * (j : Int) + 4 ≤ 1152921504606846976 := ⟨by omega, by omega⟩
        have HKN : Hid (k0 + 4 * ((j + 1 : Nat) : Int) = k0 + 4 * (j : Int) + 1 + 1 + 1 + 1) := by rw [Hid]; omega
        have hjl : j < (markSts (rs.take j) k0 ++ rs.getD j zeroSt :: rs.drop (j + 1)).length := by simp [hA]
        have hrow := ho.row
        have hat := (row_seat ho.row rfl j hjl).1
        have ez : (markSts (rs.take j) k0 ++ rs.getD j zeroSt :: rs.drop (j + 1)).getD j zeroSt = rs.getD j zeroSt := by simp [List.getD, hA]
        rw [ez] at hat
        have x0 : wr.cell? ⟨g, j * 20, none⟩ = some (.int .i64 (rs.getD j zeroSt).no) := hat 0 _ rfl
        have x1 : wr.cell? ⟨g, j * 20 + 1, none⟩ = some (.int .i64 (rs.getD j zeroSt).lsn) := hat 1 _ rfl
        have x18 : wr.cell? ⟨g, j * 20 + 18, none⟩ = some (.bool (rs.getD j zeroSt).dirty) := hat 18 _ rfl
        have x19 : wr.cell? ⟨g, j * 20 + 19, none⟩ = some (.bool (rs.getD j zeroSt).hot) := hat 19 _ rfl
        have f0 : wr.frozen? ⟨g, j * 20, none⟩ = false := hrow.frozenAt _
        have f1 := hrow.frozenAt (j * 20 + 1)
        have f18 := hrow.frozenAt (j * 20 + 18)
        have f19 := hrow.frozenAt (j * 20 + 19)
        obtain ⟨W, hW, oW, tW⟩ := ho.mark4 hA (k0 + 4 * (j : Int)) (k0 + 4 * (j : Int) + 1) ((k0 + 4 * (j : Int) + 1 + 1) % 3 == 0) ((k0 + 4 * (j : Int) + 1 + 1 + 1) % 3 == 0)
        have HFIN : Hid (OwnSts W lo hi (some ⟨g, 0, none⟩) cap (halfSts rs k0 (j + 1)) ∧ Touch (blocksSts (some ⟨g, 0, none⟩) cap rs) w W) := by
          refine ⟨?_, htw.trans (tW.mono HSUB.out)⟩
          rw [HN.out]
          exact oW
        clear ho hown htw oW tW HN hat hrow hjl ez hA hk h0
        generalize (rs.getD j zeroSt).no = z0 at *
        generalize (rs.getD j zeroSt).lsn = z1 at *
        generalize (rs.getD j zeroSt).dirty = z2 at *
        generalize (rs.getD j zeroSt).hot = z3 at *
        generalize k0 + 4 * (j : Int) = kk at *
        go_wp2_with fail
        rw [hW.out]
        go_roundw
        case rel => exact ⟨j + 1, by omega, by go_num, by rw [HKN.out], HFIN.out.1, HFIN.out.2⟩
        case measure => simp [intOf]; omega
      · have HE : Hid (OwnSts wr lo hi (some ⟨g, 0, none⟩) cap (markSts rs k0) ∧ k0 + 4 * (j : Int) = k0 + 4 * (rs.length : Int)) := by
          have e : j = rs.length := by omega
          rw [e, HH.out.2] at hown
          exact ⟨hown.out, by rw [e]⟩
        go_wp2
        go_ret
        exact ⟨ret_int HE.out.2, HE.out.1, htw⟩

theorem markSts_at (rs : List SeatA) (k : Int) (j : Nat) (h : j < rs.length) : (markSts rs k).getD j zeroSt = markSt (rs.getD j zeroSt) (k + 4 * (j : Int)) := by
  have e : markSts rs k = markSts (rs.take j) k ++ markSts (rs.drop j) (k + 4 * (j : Int)) := by
    have := markSts_app (rs.take j) (rs.drop j) k
    rw [List.take_append_drop, List.length_take, Nat.min_eq_left (by omega)] at this
    exact this
  have hl : (markSts (rs.take j) k).length = j := by rw [markSts_len, List.length_take]; omega
  rw [e, (seats_split rs j h).1, markSts]
  simp [List.getD, hl]

set_option maxHeartbeats 2000000 in
set_option maxRecDepth 100000 in
theorem heldSeatS_any (a : Option Addr) (cap : Nat) (k0 : Int) (rs : List SeatA) (w : World) (hr : ReadsSts w a (markSts rs k0)) (h0 : 0 ≤ k0) (hk : k0 + 4 * (rs.length : Int) ≤ 1152921504606846976) (hlm : rs.length ≤ 9223372036854775807) :
    Calls Tryd.prog 34 #[.slice a rs.length cap, .int .i64 k0] w fun e w' => e = .returned (.int .i64 (k0 + 4 * (rs.length : Int))) ∧ w' = w := by
  have hml := markSts_len rs k0
  rcases hr.cases with h | ⟨b, off, rfl, hpos, hcell⟩
  · have h' := congrArg List.length h
    rw [hml] at h'
    obtain rfl := List.length_eq_zero_iff.1 h'
    go_enter Tryd.func34, Tryd.ntmps34
    go_wp2
    refine wp_loop_rounds 1 ?_
    rw [rounds_succ]
    go_wp2
    go_ret
    exact ⟨by simp, rfl⟩
  · rw [hml] at hpos hcell
    go_enter Tryd.func34, Tryd.ntmps34
    go_wp2
    go_loop [1, 5] (fun kk i => ∃ j : Nat, j ≤ rs.length ∧ i = .int .i64 j ∧ kk = .int .i64 (k0 + 4 * (j : Int))) (fun _ i => rs.length - (intOf i).toNat)
    case atStart => exact ⟨0, Nat.zero_le _, rfl, by simp⟩
    case round =>
      obtain ⟨j, hj, rfl, rfl⟩ := hrel
      by_cases hlt : j < rs.length
      · obtain ⟨hc, hrd⟩ := hcell j hlt
        rw [markSts_at rs k0 j hlt] at hc
        have hkb : 0 ≤ k0 + 4 * (j : Int) ∧ k0 + 4 * (j : Int) + 4 ≤ 1152921504606846976 := ⟨by omega, by omega⟩
        have HKN : Hid (k0 + 4 * ((j + 1 : Nat) : Int) = k0 + 4 * (j : Int) + 1 + 1 + 1 + 1) := by rw [Hid]; omega
        clear hk h0 hcell hpos hr hml hrd
        generalize k0 + 4 * (j : Int) = kk at *
        generalize rs.getD j zeroSt = z at *
        have x0 : w.cell? ⟨b, off + j * 20, none⟩ = some (.int .i64 kk) := hc 0 _ rfl
        have x1 : w.cell? ⟨b, off + j * 20 + 1, none⟩ = some (.int .i64 (kk + 1)) := hc 1 _ rfl
        have x2 : w.cell? ⟨b, off + j * 20 + 18, none⟩ = some (.bool ((kk + 1 + 1) % 3 == 0)) := hc 18 _ rfl
        have x3 : w.cell? ⟨b, off + j * 20 + 19, none⟩ = some (.bool ((kk + 1 + 1 + 1) % 3 == 0)) := hc 19 _ rfl
        clear hc
        go_wp2_with fail
        go_round
        case rel => exact ⟨j + 1, by omega, by go_num, by rw [HKN.out]⟩
        case measure => simp [intOf]; omega
      · have HE : Hid (k0 + 4 * (j : Int) = k0 + 4 * (rs.length : Int)) := by
          have e : j = rs.length := by omega
          rw [Hid, e]
        go_wp2
        go_ret
        exact ⟨ret_int HE.out, rfl⟩

def PoolA.mark (l : PoolA) (k : Int) : PoolA := { l with seats := markSts l.seats k }
def PoolA.count (l : PoolA) : Nat := 4 * l.seats.length
theorem cnt4 (n : Nat) : ((4 * n : Nat) : Int) = 4 * (n : Int) := by omega

set_option maxHeartbeats 1000000 in
theorem markPool_touch (l : PoolA) (lo hi : Nat) (k0 : Int) (w : World) (ho : l.own w lo hi) (hl : l.short 1099511627776) (h0 : 0 ≤ k0) (hk : k0 + l.count ≤ 1152921504606846976) :
    Calls Tryd.prog 11 #[.agg l.cells.toArray, .int .i64 k0] w fun e w' => e = .returned (.int .i64 (k0 + l.count)) ∧ (l.mark k0).own w' lo hi ∧ Touch l.blocks w w' := by
  obtain ⟨rs, s, a, c⟩ := l
  simp only [PoolA.cells, PoolA.own, PoolA.count, PoolA.mark, PoolA.blocks, cnt4] at *
  obtain ⟨W, hW, b0, hbW, hsW⟩ := boxes1 w [.slice a rs.length c, .int .i64 s] 28
  have c0 := b0.cell 0 _ rfl
  have C := markSeatS_touch lo hi a c k0 rs W (ho.below hbW) h0 hk
  clear hsW b0
  go_enter Tryd.func11, Tryd.ntmps11
  go_wp2_with fail
  rw [hW.out]
  clear hW
  refine C.mono ?_
  rintro e w1 ⟨rfl, ho1, ht1⟩
  go_wp2
  go_ret
  exact ⟨rfl, ho1, (Touch.of_below hbW).trans ht1⟩

set_option maxHeartbeats 1000000 in
theorem heldPool_any (l : PoolA) (lo hi : Nat) (k0 : Int) (w : World) (ho : (l.mark k0).own w lo hi) (hl : l.seats.length ≤ 1099511627776) (h0 : 0 ≤ k0) (hk : k0 + l.count ≤ 1152921504606846976) :
    Calls Tryd.prog 12 #[.agg l.cells.toArray, .int .i64 k0] w fun e w' => e = .returned (.int .i64 (k0 + l.count)) ∧ Below w.heap.size w w' := by
  obtain ⟨rs, s, a, c⟩ := l
  simp only [PoolA.cells, PoolA.own, PoolA.count, PoolA.mark, cnt4] at *
  obtain ⟨W, hW, b0, hbW, hsW⟩ := boxes1 w [.slice a rs.length c, .int .i64 s] 28
  have c0 := b0.cell 0 _ rfl
  have C := heldSeatS_any a c k0 rs W (ho.below hbW).reads h0 hk (by omega)
  have hnn : ¬ (k0 + 4 * (rs.length : Int) < 0) := by omega
  clear hsW b0
  go_enter Tryd.func12, Tryd.ntmps12
  go_wp2_with fail
  rw [hW.out]
  clear hW
  refine C.mono ?_
  rintro e w1 ⟨rfl, rfl⟩
  go_wp2
  go_ret
  exact ⟨rfl, hbW⟩
theorem countSt_short {t : PoolA} (h : t.short 1048576) : 1 + (t.count : Int) ≤ 1152921504606846976 := by
  have h2 := h.len
  have e : t.count = 4 * t.seats.length := rfl
  rw [e]
  omega
end Go.Proofs.YtickiokdcbeefabDoor
