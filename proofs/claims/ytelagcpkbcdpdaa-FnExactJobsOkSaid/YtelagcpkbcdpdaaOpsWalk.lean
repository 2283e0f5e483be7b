/- The walks of laws.toOp, toOpS, eqOp, eqOpS, szOpS. -/
import Derived.Test.YtelagcpkbcdpdaaOps
import Derived.Deep.RegionHeld3
namespace Go.Proofs.Ytelagcpkbcdpdaa
open Go.RowKit

set_option maxHeartbeats 400000 in
set_option maxRecDepth 100000 in
theorem toOp_any (l : OpV) (w : World) :
    Calls Try.prog 37 #[.agg l.cells.toArray] w fun e w' => e = .returned (.agg l.cells.toArray) ∧ Below w.heap.size w w' := by
  obtain ⟨x, y, z⟩ := l
  simp only [OpV.cells]
  obtain ⟨W, hW, b0, b1, b2, hbW, hsW⟩ := boxes3 w [.int .i64 x, .int .i64 y, .int .i64 z] [.int .i64 x, .int .i64 y, .int .i64 z] [.int .i64 x, .int .i64 y, .int .i64 z] 77 62 62
  obtain ⟨q0, q1, q2, _⟩ := b1.three
  clear b0 b2 hsW
  go_enter Try.func37, Try.ntmps37
  go_wp2
  rw [hW.out]
  exact bodyPost_ret (v := .agg #[.int .i64 x, .int .i64 y, .int .i64 z]) (by simp [results, Try.results37, go_sem, q0, q1, q2]) rfl ⟨rfl, hbW⟩

theorem zero_cellsQ (n : Nat) : (madeCells #[.int .i64 0, .int .i64 0, .int .i64 0] (n * 3)).toList = cellsQ (List.replicate n zeroQ) := by
  apply List.ext_getElem?
  intro i
  by_cases h : i < n * 3
  · have e := cellsQ_at (List.replicate n zeroQ) (i / 3) (i % 3) (by simp; omega) (Nat.mod_lt _ (by omega))
    rw [show i / 3 * 3 + i % 3 = i by omega] at e
    rw [e]
    have hg : (List.replicate n zeroQ).getD (i / 3) zeroQ = zeroQ := by simp [List.getD, show i / 3 < n by omega]
    rw [hg]
    simp only [madeCells, Array.toList_map, List.getElem?_map, Array.toList_range, List.getElem?_range h, Option.map_some, OpV.cells, zeroQ]
    have : i % 3 < 3 := Nat.mod_lt _ (by omega)
    show some (#[Value.int .i64 0, .int .i64 0, .int .i64 0][i % 3]!) = _
    rcases (by omega : i % 3 = 0 ∨ i % 3 = 1 ∨ i % 3 = 2) with h' | h' | h' <;> rw [h'] <;> rfl
  · rw [List.getElem?_eq_none (by simp [size_madeCells]; omega), List.getElem?_eq_none (by rw [cellsQ_len]; simp; omega)]

theorem made_op (n : Nat) : (madeCells (Value.agg #[.int .i64 0, .int .i64 0, .int .i64 0]).cells (n * 3)).toList = cellsQ (List.replicate n zeroQ) := zero_cellsQ n
def partQ (ls : List OpV) (k : Nat) : List OpV := ls.take k ++ List.replicate (ls.length - k) zeroQ
theorem partQ_len (ls : List OpV) (k : Nat) (h : k ≤ ls.length) : (partQ ls k).length = ls.length := by simp [partQ]; omega
theorem partQ_all (ls : List OpV) : partQ ls ls.length = ls := by simp [partQ]
theorem partQ_none (ls : List OpV) : partQ ls 0 = List.replicate ls.length zeroQ := by simp [partQ]
theorem partQ_set (ls : List OpV) (k : Nat) (h : k < ls.length) : (partQ ls k).set k (ls.getD k zeroQ) = partQ ls (k + 1) := by
  unfold partQ
  rw [List.set_append, if_neg (by simp; omega), List.take_succ_eq_append_getElem h]
  have e : ls.length - k = (ls.length - (k + 1)) + 1 := by omega
  have e2 : k - (List.take k ls).length = 0 := by simp; omega
  rw [e2, e, List.replicate_succ, List.set_cons_zero]
  simp only [List.getD, h, List.getElem?_eq_getElem, Option.getD_some, List.append_assoc, List.singleton_append]

theorem Try.infoOp : (Try.prog.info? 62).map (fun i => (i.zero, i.size, i.bytes)) = some (some (.agg #[.int .i64 0, .int .i64 0, .int .i64 0]), 3, 24) := by kernel_rfl

set_option maxHeartbeats 400000 in
set_option maxRecDepth 100000 in
theorem toOpS_any (a : Option Addr) (cap : Nat) (ls : List OpV) (w : World) (hr : ReadsQ w a ls) (hl : ls.length ≤ 1099511627776) :
    Calls Try.prog 18 #[.slice a ls.length cap] w fun e w' => ∃ a' c', e = .returned (.slice a' ls.length c') ∧ OwnQ w' w.heap.size w'.heap.size a' c' ls ∧ Below w.heap.size w w' := by
  obtain ⟨i0, hi, hz0, hz1, hz2⟩ := info_parts Try.infoOp
  rcases hr.cases with rfl | ⟨b, off, rfl, hpos, hcell⟩
  · go_enter Try.func18, Try.ntmps18
    go_wp2_with (at_make; refine wpList_make_full _ rfl _ _ 59 rfl w.heap.size 62 i0 (.agg #[.int .i64 0, .int .i64 0, .int .i64 0]) 3 Try.underlying59 hi hz0 hz1 _ _ _ _ 0 rfl rfl (by simp) (by simp) (by omega) (by simp [maxLen]) (Nat.le_refl _) ?_)
    intro w0 hown0 hgrow0
    go_wp2
    refine wp_loop_rounds 1 ?_
    rw [rounds_succ]
    go_wp2
    go_ret
    have ho : w0.ownsRow w.heap.size 62 3 (.slice (some ⟨w.heap.size, 0, none⟩) 0 0) 0 (cellsQ []) := by
      have e := made_op 0
      simp only [List.replicate_zero] at e
      rw [← e]
      exact hown0
    exact ⟨_, _, rfl, ⟨ho, Nat.le_refl _, fun k hk => (ho.lt k hk).2⟩, (Below.refl _ _).grown hgrow0 (Nat.le_refl _) (fun k h => by cases h)⟩
  · have hbB : b < w.heap.size := block_lt (hcell 0 hpos).1
    go_enter Try.func18, Try.ntmps18
    go_wp2_with (at_make; refine wpList_make_full _ rfl _ _ 59 rfl w.heap.size 62 i0 (.agg #[.int .i64 0, .int .i64 0, .int .i64 0]) 3 Try.underlying59 hi hz0 hz1 _ _ _ _ ls.length rfl rfl rfl rfl (by rw [hz2]; omega) (by simp [maxLen]; omega) (Nat.le_refl _) ?_)
    intro w0 hown0 hgrow0
    have hown1 : w0.ownsRow w.heap.size 62 3 (.slice (some ⟨w.heap.size, 0, none⟩) ls.length ls.length) ls.length (cellsQ (partQ ls 0)) := by
      rw [partQ_none, ← made_op]
      exact hown0
    have hb0 : Below w.heap.size w w0 := (Below.refl _ _).grown hgrow0 (Nat.le_refl _) (fun k h => by cases h)
    clear hown0 hgrow0
    go_wp2
    go_loopw [4] (fun i wr => ∃ k : Nat, k ≤ ls.length ∧ i = .int .i64 k ∧ wr.ownsRow w.heap.size 62 3 (.slice (some ⟨w.heap.size, 0, none⟩) ls.length ls.length) ls.length (cellsQ (partQ ls k)) ∧ Below w.heap.size w wr)
      (fun i _ => ls.length - (intOf i).toNat)
    case atStart => exact ⟨0, Nat.zero_le _, rfl, hown1, hb0⟩
    case round =>
      obtain ⟨k, hk, rfl, hown, hnx⟩ := hrel
      by_cases hlt : k < ls.length
      · obtain ⟨c0, c1, c2⟩ := hcell k hlt
        have d0 : wr.cell? ⟨b, off + k * 3, none⟩ = _ := (hnx.cell (by exact hbB)).trans c0
        have d1 : wr.cell? ⟨b, off + k * 3 + 1, none⟩ = _ := (hnx.cell (by exact hbB)).trans c1
        have d2 : wr.cell? ⟨b, off + k * 3 + 2, none⟩ = _ := (hnx.cell (by exact hbB)).trans c2
        have hp := partQ_len ls k hk
        have HSET : Hid ((partQ ls k).set k (ls.getD k zeroQ) = partQ ls (k + 1)) := partQ_set ls k hlt
        clear c0 c1 c2 hcell hown1 hb0
        generalize ls.getD k zeroQ = z at *
        have C := toOp_any z wr
        simp only [OpV.cells] at C
        go_wp2_with fail
        refine C.mono ?_
        clear C d0 d1 d2
        rintro e w1 ⟨rfl, hb1⟩
        have hownA := ownsRow_block hown (fun j hj => hb1.block j (hown.lt j hj).2)
        obtain ⟨x0, x1, x2, hfz⟩ := row_op hownA hp k hlt
        have f0 := hfz (k * 3)
        have f1 := hfz (k * 3 + 1)
        have f2 := hfz (k * 3 + 2)
        obtain ⟨W2, hW2, ho2, hg2⟩ := row_storeQ hownA hp k hlt z
        rw [HSET.out] at ho2
        have hB2 : Below w.heap.size w W2 := (hnx.trans (hb1.mono hnx.size)).grown hg2 (by have := hnx.size; have := hb1.size; omega) (fun j hj => by cases hj; omega)
        have HH : Hid (_ ∧ _) := ⟨ho2, hB2⟩
        clear ho2 hB2 hg2 hfz hownA hown hb1 hnx HSET
        generalize (partQ ls k).getD k zeroQ = old at *
        go_wp2_with fail
        rw [hW2.out]
        go_roundw
        case rel => exact ⟨k + 1, by omega, by go_num, HH.out.1, HH.out.2⟩
        case measure => simp [intOf]; omega
      · have HE : Hid (wr.ownsRow w.heap.size 62 3 (.slice (some ⟨w.heap.size, 0, none⟩) ls.length ls.length) ls.length (cellsQ ls)) := by
          have e : k = ls.length := by omega
          rw [e, partQ_all] at hown
          exact hown
        go_wp2
        go_ret
        exact ⟨_, _, rfl, ⟨HE.out, Nat.le_refl _, fun k hk => (HE.out.lt k hk).2⟩, hnx⟩

set_option maxHeartbeats 400000 in
set_option maxRecDepth 100000 in
theorem eqOp_same (l : OpV) (w : World) :
    Calls Try.prog 39 #[.agg l.cells.toArray, .agg l.cells.toArray] w fun e w' => e = .returned (.bool true) ∧ Below w.heap.size w w' := by
  obtain ⟨x, y, z⟩ := l
  simp only [OpV.cells]
  obtain ⟨W, hW, b0, b1, hbW, hsW⟩ := boxes2 w [.int .i64 x, .int .i64 y, .int .i64 z] [.int .i64 x, .int .i64 y, .int .i64 z] 62 62
  clear b0 b1 hsW
  go_enter Try.func39, Try.ntmps39
  go_wp2
  rw [hW.out]
  go_ret
  exact ⟨rfl, hbW⟩

set_option maxHeartbeats 1000000 in
set_option maxRecDepth 100000 in
theorem eqOpS_same (a b : Option Addr) (ca cb : Nat) (ls : List OpV) (w : World) (ha : ReadsQ w a ls) (hb : ReadsQ w b ls) (hl : ls.length ≤ 1099511627776) :
    Calls Try.prog 20 #[.slice a ls.length ca, .slice b ls.length cb] w fun e w' => e = .returned (.bool true) ∧ Below w.heap.size w w' := by
  rcases ha.cases with rfl | ⟨b1, o1, rfl, hpos, hc1⟩
  · go_enter Try.func20, Try.ntmps20
    go_wp2
    refine wp_loop_rounds 1 ?_
    rw [rounds_succ]
    go_wp2
    go_ret
    exact ⟨rfl, Below.refl _ _⟩
  · rcases hb.cases with rfl | ⟨b2, o2, rfl, _, hc2⟩
    · simp at hpos
    · go_enter Try.func20, Try.ntmps20
      go_wp2
      go_loopw [5] (fun i wr => ∃ k : Nat, k ≤ ls.length ∧ i = .int .i64 k ∧ Below w.heap.size w wr) (fun i _ => ls.length - (intOf i).toNat)
      case atStart => exact ⟨0, Nat.zero_le _, rfl, Below.refl _ _⟩
      case round =>
        obtain ⟨k, hk, rfl, hbl⟩ := hrel
        by_cases hlt : k < ls.length
        · have h1 := hc1 k hlt
          have h2 := hc2 k hlt
          clear hc1 hc2
          generalize ls.getD k zeroQ = z at *
          have HS : Hid (∀ w1, Below w.heap.size w w1 → (w1.cell? ⟨b1, o1 + k * 3, none⟩ = some (.int .i64 z.kd) ∧ w1.cell? ⟨b1, o1 + k * 3 + 1, none⟩ = some (.int .i64 z.oid) ∧ w1.cell? ⟨b1, o1 + k * 3 + 2, none⟩ = some (.int .i64 z.num)) ∧ (w1.cell? ⟨b2, o2 + k * 3, none⟩ = some (.int .i64 z.kd) ∧ w1.cell? ⟨b2, o2 + k * 3 + 1, none⟩ = some (.int .i64 z.oid) ∧ w1.cell? ⟨b2, o2 + k * 3 + 2, none⟩ = some (.int .i64 z.num))) := fun w1 hh =>
            ⟨⟨(hh.cell (block_lt h1.1)).trans h1.1, (hh.cell (block_lt h1.2.1)).trans h1.2.1, (hh.cell (block_lt h1.2.2)).trans h1.2.2⟩, (hh.cell (block_lt h2.1)).trans h2.1, (hh.cell (block_lt h2.2.1)).trans h2.2.1, (hh.cell (block_lt h2.2.2)).trans h2.2.2⟩
          have hh := HS.out wr hbl
          clear h1 h2
          go_wp2_with fail
          go_region_held3 (fun w1 => (w1.cell? ⟨b1, o1 + k * 3, none⟩ = some (.int .i64 z.kd) ∧ w1.cell? ⟨b1, o1 + k * 3 + 1, none⟩ = some (.int .i64 z.oid) ∧ w1.cell? ⟨b1, o1 + k * 3 + 2, none⟩ = some (.int .i64 z.num)) ∧ (w1.cell? ⟨b2, o2 + k * 3, none⟩ = some (.int .i64 z.kd) ∧ w1.cell? ⟨b2, o2 + k * 3 + 1, none⟩ = some (.int .i64 z.oid) ∧ w1.cell? ⟨b2, o2 + k * 3 + 2, none⟩ = some (.int .i64 z.num)))
            (first | exact HS.out _ hw2 | go_keep | fail)
            ((first | (go_at_call 39; refine (eqOp_same z _).mono ?_; rintro e w2 ⟨rfl, hb2⟩; have hw2 : Below w.heap.size w w2 := (hbl.drew).trans (hb2.mono hbl.size)) | fail))
          all_goals
            go_wp2_with fail
            go_roundw
            case rel => exact ⟨k + 1, by omega, by go_num, hw2⟩
            case measure => simp [intOf]; omega
        · go_wp2
          go_ret
          exact ⟨rfl, hbl⟩
end Go.Proofs.Ytelagcpkbcdpdaa
