/- The walks of laws.toPathStep, toPathStepS, eqPathStep, eqPathStepS, szPathStepS. -/
import Derived.Test.YtajcffchopcamaaStepRows
import Derived.Deep.RegionHeld3
namespace Go.Proofs.Ytajcffchopcamaa
open Go.RowKit

set_option maxHeartbeats 400000 in
set_option maxRecDepth 100000 in
theorem toPathStep_any (l : StepV) (w : World) :
    Calls Try.prog 16 #[.agg l.cells.toArray] w fun e w' => e = .returned (.agg l.cells.toArray) ∧ Below w.heap.size w w' := by
  obtain ⟨x, y⟩ := l
  simp only [StepV.cells]
  obtain ⟨W, hW, b0, b1, b2, hbW, hsW⟩ := boxes3 w [.int .i64 x, .int .i64 y] [.int .i64 x, .int .i64 y] [.int .i64 x, .int .i64 y] 43 36 36
  have q0 := b1.cell 0 _ rfl
  have q1 := b1.cell 1 _ rfl
  clear b0 b2 hsW
  go_enter Try.func16, Try.ntmps16
  go_wp2
  rw [hW.out]
  exact bodyPost_ret (v := .agg #[.int .i64 x, .int .i64 y]) (by simp [results, Try.results16, go_sem, q0, q1]) rfl ⟨rfl, hbW⟩

theorem zero_cellsPh (n : Nat) : (madeCells #[.int .i64 0, .int .i64 0] (n * 2)).toList = cellsPh (List.replicate n zeroPh) := by
  apply List.ext_getElem?
  intro i
  by_cases h : i < n * 2
  · have e := cellsPh_at (List.replicate n zeroPh) (i / 2) (i % 2) (by simp; omega) (Nat.mod_lt _ (by omega))
    rw [show i / 2 * 2 + i % 2 = i by omega] at e
    rw [e]
    have hg : (List.replicate n zeroPh).getD (i / 2) zeroPh = zeroPh := by simp [List.getD, show i / 2 < n by omega]
    rw [hg]
    simp only [madeCells, Array.toList_map, List.getElem?_map, Array.toList_range, List.getElem?_range h, Option.map_some, StepV.cells, zeroPh]
    have : i % 2 < 2 := Nat.mod_lt _ (by omega)
    show some (#[Value.int .i64 0, .int .i64 0][i % 2]!) = _
    rcases (by omega : i % 2 = 0 ∨ i % 2 = 1) with h' | h' <;> rw [h'] <;> rfl
  · rw [List.getElem?_eq_none (by simp [size_madeCells]; omega), List.getElem?_eq_none (by rw [cellsPh_len]; simp; omega)]

theorem made_step (n : Nat) : (madeCells (Value.agg #[.int .i64 0, .int .i64 0]).cells (n * 2)).toList = cellsPh (List.replicate n zeroPh) := zero_cellsPh n
def partPh (ls : List StepV) (k : Nat) : List StepV := ls.take k ++ List.replicate (ls.length - k) zeroPh
theorem partPh_len (ls : List StepV) (k : Nat) (h : k ≤ ls.length) : (partPh ls k).length = ls.length := by simp [partPh]; omega
theorem partPh_all (ls : List StepV) : partPh ls ls.length = ls := by simp [partPh]
theorem partPh_none (ls : List StepV) : partPh ls 0 = List.replicate ls.length zeroPh := by simp [partPh]
theorem partPh_set (ls : List StepV) (k : Nat) (h : k < ls.length) : (partPh ls k).set k (ls.getD k zeroPh) = partPh ls (k + 1) := by
  unfold partPh
  rw [List.set_append, if_neg (by simp; omega), List.take_succ_eq_append_getElem h]
  have e : ls.length - k = (ls.length - (k + 1)) + 1 := by omega
  have e2 : k - (List.take k ls).length = 0 := by simp; omega
  rw [e2, e, List.replicate_succ, List.set_cons_zero]
  simp only [List.getD, h, List.getElem?_eq_getElem, Option.getD_some, List.append_assoc, List.singleton_append]


set_option maxHeartbeats 400000 in
set_option maxRecDepth 100000 in
theorem toPathStepS_any (a : Option Addr) (cap : Nat) (ls : List StepV) (w : World) (hr : ReadsPh w a ls) (hl : ls.length ≤ 1099511627776) :
    Calls Try.prog 12 #[.slice a ls.length cap] w fun e w' => ∃ a' c', e = .returned (.slice a' ls.length c') ∧ OwnPh w' w.heap.size w'.heap.size a' c' ls ∧ Below w.heap.size w w' := by
  obtain ⟨i0, hi, hz0, hz1, hz2⟩ := info_parts Try.infoStep
  rcases hr.cases with rfl | ⟨b, off, rfl, hpos, hcell⟩
  · go_enter Try.func12, Try.ntmps12
    go_wp2_with (at_make; refine wpList_make_full _ rfl _ _ 27 rfl w.heap.size 36 i0 (.agg #[.int .i64 0, .int .i64 0]) 2 Try.underlying27 hi hz0 hz1 _ _ _ _ 0 rfl rfl (by simp) (by simp) (by omega) (by simp [maxLen]) (Nat.le_refl _) ?_)
    intro w0 hown0 hgrow0
    go_wp2
    refine wp_loop_rounds 1 ?_
    rw [rounds_succ]
    go_wp2
    go_ret
    have ho : w0.ownsRow w.heap.size 36 2 (.slice (some ⟨w.heap.size, 0, none⟩) 0 0) 0 (cellsPh []) := by
      have e := made_step 0
      simp only [List.replicate_zero] at e
      rw [← e]
      exact hown0
    exact ⟨_, _, rfl, ⟨ho, Nat.le_refl _, fun k hk => (ho.lt k hk).2⟩, (Below.refl _ _).grown hgrow0 (Nat.le_refl _) (fun k h => by cases h)⟩
  · have hbB : b < w.heap.size := block_lt (hcell 0 hpos).1
    go_enter Try.func12, Try.ntmps12
    go_wp2_with (at_make; refine wpList_make_full _ rfl _ _ 27 rfl w.heap.size 36 i0 (.agg #[.int .i64 0, .int .i64 0]) 2 Try.underlying27 hi hz0 hz1 _ _ _ _ ls.length rfl rfl rfl rfl (by rw [hz2]; omega) (by simp [maxLen]; omega) (Nat.le_refl _) ?_)
    intro w0 hown0 hgrow0
    have hown1 : w0.ownsRow w.heap.size 36 2 (.slice (some ⟨w.heap.size, 0, none⟩) ls.length ls.length) ls.length (cellsPh (partPh ls 0)) := by
      rw [partPh_none, ← made_step]
      exact hown0
    have hb0 : Below w.heap.size w w0 := (Below.refl _ _).grown hgrow0 (Nat.le_refl _) (fun k h => by cases h)
    clear hown0 hgrow0
    go_wp2
    go_loopw [4] (fun i wr => ∃ k : Nat, k ≤ ls.length ∧ i = .int .i64 k ∧ wr.ownsRow w.heap.size 36 2 (.slice (some ⟨w.heap.size, 0, none⟩) ls.length ls.length) ls.length (cellsPh (partPh ls k)) ∧ Below w.heap.size w wr)
      (fun i _ => ls.length - (intOf i).toNat)
    case atStart => exact ⟨0, Nat.zero_le _, rfl, hown1, hb0⟩
    case round =>
      obtain ⟨k, hk, rfl, hown, hnx⟩ := hrel
      by_cases hlt : k < ls.length
      · obtain ⟨c0, c1⟩ := hcell k hlt
        have d0 : wr.cell? ⟨b, off + k * 2, none⟩ = _ := (hnx.cell (by exact hbB)).trans c0
        have d1 : wr.cell? ⟨b, off + k * 2 + 1, none⟩ = _ := (hnx.cell (by exact hbB)).trans c1
        have hp := partPh_len ls k hk
        have HSET : Hid ((partPh ls k).set k (ls.getD k zeroPh) = partPh ls (k + 1)) := partPh_set ls k hlt
        clear c0 c1 hcell hown1 hb0
        generalize ls.getD k zeroPh = z at *
        have C := toPathStep_any z wr
        simp only [StepV.cells] at C
        go_wp2_with fail
        refine C.mono ?_
        clear C d0 d1
        rintro e w1 ⟨rfl, hb1⟩
        have hownA := ownsRow_block hown (fun j hj => hb1.block j (hown.lt j hj).2)
        obtain ⟨x0, x1, hfz⟩ := row_step hownA hp k hlt
        have f0 := hfz (k * 2)
        have f1 := hfz (k * 2 + 1)
        obtain ⟨W2, hW2, ho2, hg2⟩ := row_storePh hownA hp k hlt z
        rw [HSET.out] at ho2
        have hB2 : Below w.heap.size w W2 := (hnx.trans (hb1.mono hnx.size)).grown hg2 (by have := hnx.size; have := hb1.size; omega) (fun j hj => by cases hj; omega)
        have HH : Hid (_ ∧ _) := ⟨ho2, hB2⟩
        clear ho2 hB2 hg2 hfz hownA hown hb1 hnx HSET
        generalize (partPh ls k).getD k zeroPh = old at *
        go_wp2_with fail
        rw [hW2.out]
        go_roundw
        case rel => exact ⟨k + 1, by omega, by go_num, HH.out.1, HH.out.2⟩
        case measure => simp [intOf]; omega
      · have HE : Hid (wr.ownsRow w.heap.size 36 2 (.slice (some ⟨w.heap.size, 0, none⟩) ls.length ls.length) ls.length (cellsPh ls)) := by
          have e : k = ls.length := by omega
          rw [e, partPh_all] at hown
          exact hown
        go_wp2
        go_ret
        exact ⟨_, _, rfl, ⟨HE.out, Nat.le_refl _, fun k hk => (HE.out.lt k hk).2⟩, hnx⟩

set_option maxHeartbeats 400000 in
set_option maxRecDepth 100000 in
theorem eqPathStep_same (l : StepV) (w : World) :
    Calls Try.prog 18 #[.agg l.cells.toArray, .agg l.cells.toArray] w fun e w' => e = .returned (.bool true) ∧ Below w.heap.size w w' := by
  obtain ⟨x, y⟩ := l
  simp only [StepV.cells]
  obtain ⟨W, hW, b0, b1, hbW, hsW⟩ := boxes2 w [.int .i64 x, .int .i64 y] [.int .i64 x, .int .i64 y] 36 36
  clear b0 b1 hsW
  go_enter Try.func18, Try.ntmps18
  go_wp2
  rw [hW.out]
  go_ret
  exact ⟨rfl, hbW⟩

set_option maxHeartbeats 1000000 in
set_option maxRecDepth 100000 in
theorem eqPathStepS_same (a b : Option Addr) (ca cb : Nat) (ls : List StepV) (w : World) (ha : ReadsPh w a ls) (hb : ReadsPh w b ls) (hl : ls.length ≤ 1099511627776) :
    Calls Try.prog 15 #[.slice a ls.length ca, .slice b ls.length cb] w fun e w' => e = .returned (.bool true) ∧ Below w.heap.size w w' := by
  rcases ha.cases with rfl | ⟨b1, o1, rfl, hpos, hc1⟩
  · go_enter Try.func15, Try.ntmps15
    go_wp2
    refine wp_loop_rounds 1 ?_
    rw [rounds_succ]
    go_wp2
    go_ret
    exact ⟨rfl, Below.refl _ _⟩
  · rcases hb.cases with rfl | ⟨b2, o2, rfl, _, hc2⟩
    · simp at hpos
    · go_enter Try.func15, Try.ntmps15
      go_wp2
      go_loopw [5] (fun i wr => ∃ k : Nat, k ≤ ls.length ∧ i = .int .i64 k ∧ Below w.heap.size w wr) (fun i _ => ls.length - (intOf i).toNat)
      case atStart => exact ⟨0, Nat.zero_le _, rfl, Below.refl _ _⟩
      case round =>
        obtain ⟨k, hk, rfl, hbl⟩ := hrel
        by_cases hlt : k < ls.length
        · have h1 := hc1 k hlt
          have h2 := hc2 k hlt
          clear hc1 hc2
          generalize ls.getD k zeroPh = z at *
          have HS : Hid (∀ w1, Below w.heap.size w w1 → (w1.cell? ⟨b1, o1 + k * 2, none⟩ = some (.int .i64 z.kd) ∧ w1.cell? ⟨b1, o1 + k * 2 + 1, none⟩ = some (.int .i64 z.num)) ∧ (w1.cell? ⟨b2, o2 + k * 2, none⟩ = some (.int .i64 z.kd) ∧ w1.cell? ⟨b2, o2 + k * 2 + 1, none⟩ = some (.int .i64 z.num))) := fun w1 hh =>
            ⟨⟨(hh.cell (block_lt h1.1)).trans h1.1, (hh.cell (block_lt h1.2)).trans h1.2⟩, (hh.cell (block_lt h2.1)).trans h2.1, (hh.cell (block_lt h2.2)).trans h2.2⟩
          have hh := HS.out wr hbl
          clear h1 h2
          go_wp2_with fail
          go_region_held3 (fun w1 => (w1.cell? ⟨b1, o1 + k * 2, none⟩ = some (.int .i64 z.kd) ∧ w1.cell? ⟨b1, o1 + k * 2 + 1, none⟩ = some (.int .i64 z.num)) ∧ (w1.cell? ⟨b2, o2 + k * 2, none⟩ = some (.int .i64 z.kd) ∧ w1.cell? ⟨b2, o2 + k * 2 + 1, none⟩ = some (.int .i64 z.num)))
            (first | exact HS.out _ hw2 | go_keep | fail)
            ((first | (go_at_call 18; refine (eqPathStep_same z _).mono ?_; rintro e w2 ⟨rfl, hb2⟩; have hw2 : Below w.heap.size w w2 := (hbl.drew).trans (hb2.mono hbl.size)) | fail))
          all_goals
            go_wp2_with fail
            go_roundw
            case rel => exact ⟨k + 1, by omega, by go_num, hw2⟩
            case measure => simp [intOf]; omega
        · go_wp2
          go_ret
          exact ⟨rfl, hbl⟩
end Go.Proofs.Ytajcffchopcamaa
