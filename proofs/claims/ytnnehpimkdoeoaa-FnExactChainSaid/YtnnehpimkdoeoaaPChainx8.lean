/- Several texts in one, in their order. -/
import Derived.Test.YtnnehpimkdoeoaaPChainx7
import Derived.Deep.RegionHeld3
import Derived.Test.YtnnehpimkdoeoaaPChainx4
import Derived.Deep.MidRow
/- Rows of Lives: what they are, what a walk reads and owns of them. -/
namespace Go.Proofs.Ytnnehpimkdoeoaa
open Go.RowKit

structure LiveV where
  tx : Int
  last : Int
  aborts : Bool
def LiveV.cells (l : LiveV) : List Value := [.int .i64 l.tx, .int .i64 l.last, .bool l.aborts]
def zeroL : LiveV := ⟨0, 0, false⟩
def cellsL (ls : List LiveV) : List Value := ls.flatMap LiveV.cells
theorem cellsL_len (ls : List LiveV) : (cellsL ls).length = ls.length * 3 := by
  induction ls with
  | nil => rfl
  | cons s r ih => simp only [cellsL, List.flatMap_cons, List.length_append, LiveV.cells, List.length_cons, List.length_nil] at *; omega
theorem cellsL_app (a b : List LiveV) : cellsL (a ++ b) = cellsL a ++ cellsL b := by simp [cellsL]
theorem cellsL_at (ls : List LiveV) (k j : Nat) (hk : k < ls.length) (hj : j < 3) : (cellsL ls)[k * 3 + j]? = (ls.getD k zeroL).cells[j]? := by
  induction ls generalizing k with
  | nil => simp at hk
  | cons s r ih =>
    have e : cellsL (s :: r) = s.cells ++ cellsL r := by simp [cellsL]
    have l3 : s.cells.length = 3 := rfl
    rw [e]
    cases k with
    | zero => rw [List.getElem?_append_left (by rw [l3]; omega)]; simp
    | succ k =>
      rw [List.getElem?_append_right (by rw [l3]; omega), l3]
      have := ih k (by simpa using hk)
      rw [show (k + 1) * 3 + j - 3 = k * 3 + j by omega, this]
      simp
theorem cellsL_set (ls : List LiveV) (k : Nat) (hk : k < ls.length) (t : LiveV) :
    (((cellsL ls).set (k * 3) (.int .i64 t.tx)).set (k * 3 + 1) (.int .i64 t.last)).set (k * 3 + 2) (.bool t.aborts) = cellsL (ls.set k t) := by
  induction ls generalizing k with
  | nil => simp at hk
  | cons s r ih =>
    cases k with
    | zero => simp [cellsL, LiveV.cells]
    | succ k =>
      have := ih k (by simpa using hk)
      have e2 : ∀ x, cellsL (s :: x) = s.cells ++ cellsL x := fun x => by simp [cellsL]
      have l3 : s.cells.length = 3 := rfl
      rw [e2, List.set_append_right _ _ (by rw [l3]; omega), List.set_append_right _ _ (by rw [l3]; omega), List.set_append_right _ _ (by rw [l3]; omega), l3, show (k + 1) * 3 - 3 = k * 3 by omega, show (k + 1) * 3 + 1 - 3 = k * 3 + 1 by omega, show (k + 1) * 3 + 2 - 3 = k * 3 + 2 by omega, this, List.set_cons_succ, e2]

/-- The slice at a reads these. -/
def ReadsL (w : World) (a : Option Addr) (ls : List LiveV) : Prop := ls ≠ [] → ∃ b off, a = some ⟨b, off, none⟩ ∧ ∀ k, k < ls.length → w.cell? ⟨b, off + k * 3, none⟩ = some (.int .i64 (ls.getD k zeroL).tx) ∧ w.cell? ⟨b, off + k * 3 + 1, none⟩ = some (.int .i64 (ls.getD k zeroL).last) ∧ w.cell? ⟨b, off + k * 3 + 2, none⟩ = some (.bool (ls.getD k zeroL).aborts)
theorem ReadsL.nil (w : World) (a : Option Addr) : ReadsL w a [] := fun h => absurd rfl h
theorem ReadsL.below {w w' : World} {a : Option Addr} {ls : List LiveV} (h : ReadsL w a ls) (hb : Below w.heap.size w w') : ReadsL w' a ls := by
  intro hne
  obtain ⟨b, off, ha, hc⟩ := h hne
  refine ⟨b, off, ha, fun k hk => ?_⟩
  obtain ⟨h0, h1, h2⟩ := hc k hk
  have hlt := block_lt h0
  exact ⟨by rw [hb.cell (p := ⟨b, off + k * 3, none⟩) hlt]; exact h0, by rw [hb.cell (p := ⟨b, off + k * 3 + 1, none⟩) hlt]; exact h1, by rw [hb.cell (p := ⟨b, off + k * 3 + 2, none⟩) hlt]; exact h2⟩
theorem ReadsL.cases {w : World} {a : Option Addr} {ls : List LiveV} (h : ReadsL w a ls) : ls = [] ∨ ∃ b off, a = some ⟨b, off, none⟩ ∧ 0 < ls.length ∧ ∀ k, k < ls.length → w.cell? ⟨b, off + k * 3, none⟩ = some (.int .i64 (ls.getD k zeroL).tx) ∧ w.cell? ⟨b, off + k * 3 + 1, none⟩ = some (.int .i64 (ls.getD k zeroL).last) ∧ w.cell? ⟨b, off + k * 3 + 2, none⟩ = some (.bool (ls.getD k zeroL).aborts) := by
  by_cases e : ls = []
  · exact .inl e
  · obtain ⟨b, off, ha, hc⟩ := h e
    exact .inr ⟨b, off, ha, List.length_pos_iff.2 e, hc⟩

/-- The slice at a, of capacity c, owns these; its row lies from lo up to hi. -/
def OwnL (w : World) (lo hi : Nat) (a : Option Addr) (c : Nat) (ls : List LiveV) : Prop :=
  w.ownsRow lo 69 3 (.slice a ls.length c) ls.length (cellsL ls) ∧ hi ≤ w.heap.size ∧ ∀ k, (Value.slice a ls.length c).ownBlock = some k → k < hi
theorem OwnL.lt {w : World} {lo hi : Nat} {a : Option Addr} {c : Nat} {ls : List LiveV} (h : OwnL w lo hi a c ls) : ∀ k, (Value.slice a ls.length c).ownBlock = some k → lo ≤ k ∧ k < hi := fun k hk => ⟨(h.1.lt k hk).1, h.2.2 k hk⟩
theorem OwnL.touch {w w' : World} {lo hi : Nat} {a : Option Addr} {c : Nat} {ls : List LiveV} {bl : List Nat} (h : OwnL w lo hi a c ls) (ht : Touch bl w w') (hd : ∀ k, (Value.slice a ls.length c).ownBlock = some k → k ∉ bl) : OwnL w' lo hi a c ls :=
  ⟨ownsRow_block h.1 (fun k hk => ht.block k (h.1.lt k hk).2 (hd k hk)), Nat.le_trans h.2.1 ht.size, h.2.2⟩
theorem OwnL.within {w w' : World} {lo hi l r : Nat} {a : Option Addr} {c : Nat} {ls : List LiveV} (h : OwnL w lo hi a c ls) (hw : Within l r w w') (hd : hi ≤ l ∨ r ≤ lo) : OwnL w' lo hi a c ls :=
  ⟨ownsRow_block h.1 (fun k hk => hw.block k (by have := h.2.2 k hk; have := h.2.1; omega) (by have := h.lt k hk; omega)), Nat.le_trans h.2.1 hw.size, h.2.2⟩
theorem OwnL.below {w w' : World} {lo hi : Nat} {a : Option Addr} {c : Nat} {ls : List LiveV} (h : OwnL w lo hi a c ls) (hb : Below w.heap.size w w') : OwnL w' lo hi a c ls :=
  h.within (Within.of_below (lo := w.heap.size) (hi := w.heap.size) hb) (.inl h.2.1)
theorem OwnL.widen {w : World} {lo hi lo' hi' : Nat} {a : Option Addr} {c : Nat} {ls : List LiveV} (h : OwnL w lo hi a c ls) (h1 : lo' ≤ lo) (h2 : hi ≤ hi') (h3 : hi' ≤ w.heap.size) : OwnL w lo' hi' a c ls :=
  ⟨ownsRow_base h.1 (fun k hk => by have := h.lt k hk; omega), h3, fun k hk => by have := h.lt k hk; omega⟩
theorem ownL_nil (w : World) (lo hi : Nat) (h : hi ≤ w.heap.size) : OwnL w lo hi none 0 [] := ⟨⟨by simp [cellsL], .inl ⟨rfl, rfl⟩⟩, h, fun k hk => by cases hk⟩
theorem OwnL.nocap {w : World} {lo hi : Nat} {a : Option Addr} {c : Nat} {ls : List LiveV} (h : OwnL w lo hi a c ls) : a = none → c = 0 := by
  intro ha
  rcases h.1.2 with ⟨hv, _⟩ | ⟨g, cap, cur, hv, _⟩
  · simp only [Value.slice.injEq] at hv; exact hv.2.2
  · simp [ha] at hv
/-- The three cells of one of a row that lies in block g. -/
theorem row_live {w : World} {base g n cap : Nat} {ls : List LiveV} (h : w.ownsRow base 69 3 (.slice (some ⟨g, 0, none⟩) n cap) n (cellsL ls)) (hn : ls.length = n) (k : Nat) (hk : k < n) :
    w.cell? ⟨g, k * 3, none⟩ = some (.int .i64 (ls.getD k zeroL).tx) ∧ w.cell? ⟨g, k * 3 + 1, none⟩ = some (.int .i64 (ls.getD k zeroL).last) ∧ w.cell? ⟨g, k * 3 + 2, none⟩ = some (.bool (ls.getD k zeroL).aborts) ∧ (∀ i, w.frozen? ⟨g, i, none⟩ = false) := by
  have a0 := cellsL_at ls k 0 (by omega) (by omega)
  have a1 := cellsL_at ls k 1 (by omega) (by omega)
  have a2 := cellsL_at ls k 2 (by omega) (by omega)
  simp only [LiveV.cells, Nat.add_zero, List.getElem?_cons_zero, List.getElem?_cons_succ] at a0 a1 a2
  exact ⟨by rw [h.cellAt (k * 3) (by omega)]; exact a0, by rw [h.cellAt (k * 3 + 1) (by omega)]; exact a1, by rw [h.cellAt (k * 3 + 2) (by omega)]; exact a2, fun i => h.frozenAt i⟩
/-- One of the row stored. -/
theorem row_store {w : World} {base g n cap : Nat} {ls : List LiveV} (h : w.ownsRow base 69 3 (.slice (some ⟨g, 0, none⟩) n cap) n (cellsL ls)) (hn : ls.length = n) (k : Nat) (hk : k < n) (t : LiveV) :
    ∃ W, Hid (((w.setCell ⟨g, k * 3, none⟩ (.int .i64 t.tx)).setCell ⟨g, k * 3 + 1, none⟩ (.int .i64 t.last)).setCell ⟨g, k * 3 + 2, none⟩ (.bool t.aborts) = W) ∧ W.ownsRow base 69 3 (.slice (some ⟨g, 0, none⟩) n cap) n (cellsL (ls.set k t)) ∧ w.grownBy W (some g) := by
  have s1 := h.stored (k * 3) (.int .i64 t.tx)
  have s2 := s1.1.stored (k * 3 + 1) (.int .i64 t.last)
  have s3 := s2.1.stored (k * 3 + 2) (.bool t.aborts)
  refine ⟨_, rfl, ?_, grownBy_trans (grownBy_trans s1.2 s2.2) s3.2⟩
  have := s3.1
  rw [cellsL_set ls k (by omega) t] at this
  exact this
theorem OwnL.reads {w : World} {lo hi : Nat} {a : Option Addr} {c : Nat} {ls : List LiveV} (h : OwnL w lo hi a c ls) : ReadsL w a ls := by
  intro hne
  rcases h.1.2 with ⟨_, h0⟩ | ⟨g, cap', cur, hv, hb, hg, hr⟩
  · exact absurd (List.length_eq_zero_iff.1 h0) hne
  · simp only [Value.slice.injEq] at hv
    obtain ⟨rfl, _, rfl⟩ := hv
    refine ⟨g, 0, rfl, fun k hk => ?_⟩
    obtain ⟨a0, a1, a2, _⟩ := row_live h.1 rfl k hk
    rw [Nat.zero_add]
    exact ⟨a0, a1, a2⟩
end Go.Proofs.Ytnnehpimkdoeoaa

/- The walks of laws.toLive, toLiveS, eqLive, eqLiveS, szLiveS. -/
namespace Go.Proofs.Ytnnehpimkdoeoaa
open Go.RowKit

set_option maxHeartbeats 400000 in
set_option maxRecDepth 100000 in
theorem toLive_any (l : LiveV) (w : World) :
    Calls Try.prog 31 #[.agg l.cells.toArray] w fun e w' => e = .returned (.agg l.cells.toArray) ∧ Below w.heap.size w w' := by
  obtain ⟨x, y, z⟩ := l
  simp only [LiveV.cells]
  obtain ⟨W, hW, b0, b1, b2, hbW, hsW⟩ := boxes3 w [.int .i64 x, .int .i64 y, .bool z] [.int .i64 x, .int .i64 y, .bool z] [.int .i64 x, .int .i64 y, .bool z] 73 69 69
  obtain ⟨q0, q1, q2, _⟩ := b1.three
  clear b0 b2 hsW
  go_enter Try.func31, Try.ntmps31
  go_wp2
  rw [hW.out]
  exact bodyPost_ret (v := .agg #[.int .i64 x, .int .i64 y, .bool z]) (by simp [results, Try.results31, go_sem, q0, q1, q2]) rfl ⟨rfl, hbW⟩

theorem zero_cellsL (n : Nat) : (madeCells #[.int .i64 0, .int .i64 0, .bool false] (n * 3)).toList = cellsL (List.replicate n zeroL) := by
  apply List.ext_getElem?
  intro i
  by_cases h : i < n * 3
  · have e := cellsL_at (List.replicate n zeroL) (i / 3) (i % 3) (by simp; omega) (Nat.mod_lt _ (by omega))
    rw [show i / 3 * 3 + i % 3 = i by omega] at e
    rw [e]
    have hg : (List.replicate n zeroL).getD (i / 3) zeroL = zeroL := by simp [List.getD, show i / 3 < n by omega]
    rw [hg]
    simp only [madeCells, Array.toList_map, List.getElem?_map, Array.toList_range, List.getElem?_range h, Option.map_some, LiveV.cells, zeroL]
    have : i % 3 < 3 := Nat.mod_lt _ (by omega)
    show some (#[Value.int .i64 0, .int .i64 0, .bool false][i % 3]!) = _
    rcases (by omega : i % 3 = 0 ∨ i % 3 = 1 ∨ i % 3 = 2) with h' | h' | h' <;> rw [h'] <;> rfl
  · rw [List.getElem?_eq_none (by simp [size_madeCells]; omega), List.getElem?_eq_none (by rw [cellsL_len]; simp; omega)]

theorem made_live (n : Nat) : (madeCells (Value.agg #[.int .i64 0, .int .i64 0, .bool false]).cells (n * 3)).toList = cellsL (List.replicate n zeroL) := zero_cellsL n
def partL (ls : List LiveV) (k : Nat) : List LiveV := ls.take k ++ List.replicate (ls.length - k) zeroL
theorem partL_len (ls : List LiveV) (k : Nat) (h : k ≤ ls.length) : (partL ls k).length = ls.length := by simp [partL]; omega
theorem partL_all (ls : List LiveV) : partL ls ls.length = ls := by simp [partL]
theorem partL_none (ls : List LiveV) : partL ls 0 = List.replicate ls.length zeroL := by simp [partL]
theorem partL_set (ls : List LiveV) (k : Nat) (h : k < ls.length) : (partL ls k).set k (ls.getD k zeroL) = partL ls (k + 1) := by
  unfold partL
  rw [List.set_append, if_neg (by simp; omega), List.take_succ_eq_append_getElem h]
  have e : ls.length - k = (ls.length - (k + 1)) + 1 := by omega
  have e2 : k - (List.take k ls).length = 0 := by simp; omega
  rw [e2, e, List.replicate_succ, List.set_cons_zero]
  simp only [List.getD, h, List.getElem?_eq_getElem, Option.getD_some, List.append_assoc, List.singleton_append]

theorem Try.infoLive : (Try.prog.info? 69).map (fun i => (i.zero, i.size, i.bytes)) = some (some (.agg #[.int .i64 0, .int .i64 0, .bool false]), 3, 24) := by kernel_rfl

set_option maxHeartbeats 400000 in
set_option maxRecDepth 100000 in
theorem toLiveS_any (a : Option Addr) (cap : Nat) (ls : List LiveV) (w : World) (hr : ReadsL w a ls) (hl : ls.length ≤ 1099511627776) :
    Calls Try.prog 26 #[.slice a ls.length cap] w fun e w' => ∃ a' c', e = .returned (.slice a' ls.length c') ∧ OwnL w' w.heap.size w'.heap.size a' c' ls ∧ Below w.heap.size w w' := by
  obtain ⟨i0, hi, hz0, hz1, hz2⟩ := info_parts Try.infoLive
  rcases hr.cases with rfl | ⟨b, off, rfl, hpos, hcell⟩
  · go_enter Try.func26, Try.ntmps26
    go_wp2_with (at_make; refine wpList_make_full _ rfl _ _ 42 rfl w.heap.size 69 i0 (.agg #[.int .i64 0, .int .i64 0, .bool false]) 3 Try.underlying42 hi hz0 hz1 _ _ _ _ 0 rfl rfl (by simp) (by simp) (by omega) (by simp [maxLen]) (Nat.le_refl _) ?_)
    intro w0 hown0 hgrow0
    go_wp2
    refine wp_loop_rounds 1 ?_
    rw [rounds_succ]
    go_wp2
    go_ret
    have ho : w0.ownsRow w.heap.size 69 3 (.slice (some ⟨w.heap.size, 0, none⟩) 0 0) 0 (cellsL []) := by
      have e := made_live 0
      simp only [List.replicate_zero] at e
      rw [← e]
      exact hown0
    exact ⟨_, _, rfl, ⟨ho, Nat.le_refl _, fun k hk => (ho.lt k hk).2⟩, (Below.refl _ _).grown hgrow0 (Nat.le_refl _) (fun k h => by cases h)⟩
  · have hbB : b < w.heap.size := block_lt (hcell 0 hpos).1
    go_enter Try.func26, Try.ntmps26
    go_wp2_with (at_make; refine wpList_make_full _ rfl _ _ 42 rfl w.heap.size 69 i0 (.agg #[.int .i64 0, .int .i64 0, .bool false]) 3 Try.underlying42 hi hz0 hz1 _ _ _ _ ls.length rfl rfl rfl rfl (by rw [hz2]; omega) (by simp [maxLen]; omega) (Nat.le_refl _) ?_)
    intro w0 hown0 hgrow0
    have hown1 : w0.ownsRow w.heap.size 69 3 (.slice (some ⟨w.heap.size, 0, none⟩) ls.length ls.length) ls.length (cellsL (partL ls 0)) := by
      rw [partL_none, ← made_live]
      exact hown0
    have hb0 : Below w.heap.size w w0 := (Below.refl _ _).grown hgrow0 (Nat.le_refl _) (fun k h => by cases h)
    clear hown0 hgrow0
    go_wp2
    go_loopw [4] (fun i wr => ∃ k : Nat, k ≤ ls.length ∧ i = .int .i64 k ∧ wr.ownsRow w.heap.size 69 3 (.slice (some ⟨w.heap.size, 0, none⟩) ls.length ls.length) ls.length (cellsL (partL ls k)) ∧ Below w.heap.size w wr)
      (fun i _ => ls.length - (intOf i).toNat)
    case atStart => exact ⟨0, Nat.zero_le _, rfl, hown1, hb0⟩
    case round =>
      obtain ⟨k, hk, rfl, hown, hnx⟩ := hrel
      by_cases hlt : k < ls.length
      · obtain ⟨c0, c1, c2⟩ := hcell k hlt
        have d0 : wr.cell? ⟨b, off + k * 3, none⟩ = _ := (hnx.cell (by exact hbB)).trans c0
        have d1 : wr.cell? ⟨b, off + k * 3 + 1, none⟩ = _ := (hnx.cell (by exact hbB)).trans c1
        have d2 : wr.cell? ⟨b, off + k * 3 + 2, none⟩ = _ := (hnx.cell (by exact hbB)).trans c2
        have hp := partL_len ls k hk
        have HSET : Hid ((partL ls k).set k (ls.getD k zeroL) = partL ls (k + 1)) := partL_set ls k hlt
        clear c0 c1 c2 hcell hown1 hb0
        generalize ls.getD k zeroL = z at *
        have C := toLive_any z wr
        simp only [LiveV.cells] at C
        go_wp2_with fail
        refine C.mono ?_
        clear C d0 d1 d2
        rintro e w1 ⟨rfl, hb1⟩
        have hownA := ownsRow_block hown (fun j hj => hb1.block j (hown.lt j hj).2)
        obtain ⟨x0, x1, x2, hfz⟩ := row_live hownA hp k hlt
        have f0 := hfz (k * 3)
        have f1 := hfz (k * 3 + 1)
        have f2 := hfz (k * 3 + 2)
        obtain ⟨W2, hW2, ho2, hg2⟩ := row_store hownA hp k hlt z
        rw [HSET.out] at ho2
        have hB2 : Below w.heap.size w W2 := (hnx.trans (hb1.mono hnx.size)).grown hg2 (by have := hnx.size; have := hb1.size; omega) (fun j hj => by cases hj; omega)
        have HH : Hid (_ ∧ _) := ⟨ho2, hB2⟩
        clear ho2 hB2 hg2 hfz hownA hown hb1 hnx HSET
        generalize (partL ls k).getD k zeroL = old at *
        go_wp2_with fail
        rw [hW2.out]
        go_roundw
        case rel => exact ⟨k + 1, by omega, by go_num, HH.out.1, HH.out.2⟩
        case measure => simp [intOf]; omega
      · have HE : Hid (wr.ownsRow w.heap.size 69 3 (.slice (some ⟨w.heap.size, 0, none⟩) ls.length ls.length) ls.length (cellsL ls)) := by
          have e : k = ls.length := by omega
          rw [e, partL_all] at hown
          exact hown
        go_wp2
        go_ret
        exact ⟨_, _, rfl, ⟨HE.out, Nat.le_refl _, fun k hk => (HE.out.lt k hk).2⟩, hnx⟩

set_option maxHeartbeats 400000 in
set_option maxRecDepth 100000 in
theorem eqLive_same (l : LiveV) (w : World) :
    Calls Try.prog 33 #[.agg l.cells.toArray, .agg l.cells.toArray] w fun e w' => e = .returned (.bool true) ∧ Below w.heap.size w w' := by
  obtain ⟨x, y, z⟩ := l
  simp only [LiveV.cells]
  obtain ⟨W, hW, b0, b1, hbW, hsW⟩ := boxes2 w [.int .i64 x, .int .i64 y, .bool z] [.int .i64 x, .int .i64 y, .bool z] 69 69
  clear b0 b1 hsW
  go_enter Try.func33, Try.ntmps33
  go_wp2
  rw [hW.out]
  go_ret
  exact ⟨rfl, hbW⟩

set_option maxHeartbeats 1000000 in
set_option maxRecDepth 100000 in
theorem eqLiveS_same (a b : Option Addr) (ca cb : Nat) (ls : List LiveV) (w : World) (ha : ReadsL w a ls) (hb : ReadsL w b ls) (hl : ls.length ≤ 1099511627776) :
    Calls Try.prog 28 #[.slice a ls.length ca, .slice b ls.length cb] w fun e w' => e = .returned (.bool true) ∧ Below w.heap.size w w' := by
  rcases ha.cases with rfl | ⟨b1, o1, rfl, hpos, hc1⟩
  · go_enter Try.func28, Try.ntmps28
    go_wp2
    refine wp_loop_rounds 1 ?_
    rw [rounds_succ]
    go_wp2
    go_ret
    exact ⟨rfl, Below.refl _ _⟩
  · rcases hb.cases with rfl | ⟨b2, o2, rfl, _, hc2⟩
    · simp at hpos
    · go_enter Try.func28, Try.ntmps28
      go_wp2
      go_loopw [5] (fun i wr => ∃ k : Nat, k ≤ ls.length ∧ i = .int .i64 k ∧ Below w.heap.size w wr) (fun i _ => ls.length - (intOf i).toNat)
      case atStart => exact ⟨0, Nat.zero_le _, rfl, Below.refl _ _⟩
      case round =>
        obtain ⟨k, hk, rfl, hbl⟩ := hrel
        by_cases hlt : k < ls.length
        · have h1 := hc1 k hlt
          have h2 := hc2 k hlt
          clear hc1 hc2
          generalize ls.getD k zeroL = z at *
          have HS : Hid (∀ w1, Below w.heap.size w w1 → (w1.cell? ⟨b1, o1 + k * 3, none⟩ = some (.int .i64 z.tx) ∧ w1.cell? ⟨b1, o1 + k * 3 + 1, none⟩ = some (.int .i64 z.last) ∧ w1.cell? ⟨b1, o1 + k * 3 + 2, none⟩ = some (.bool z.aborts)) ∧ (w1.cell? ⟨b2, o2 + k * 3, none⟩ = some (.int .i64 z.tx) ∧ w1.cell? ⟨b2, o2 + k * 3 + 1, none⟩ = some (.int .i64 z.last) ∧ w1.cell? ⟨b2, o2 + k * 3 + 2, none⟩ = some (.bool z.aborts))) := fun w1 hh =>
            ⟨⟨(hh.cell (block_lt h1.1)).trans h1.1, (hh.cell (block_lt h1.2.1)).trans h1.2.1, (hh.cell (block_lt h1.2.2)).trans h1.2.2⟩, (hh.cell (block_lt h2.1)).trans h2.1, (hh.cell (block_lt h2.2.1)).trans h2.2.1, (hh.cell (block_lt h2.2.2)).trans h2.2.2⟩
          have hh := HS.out wr hbl
          clear h1 h2
          go_wp2_with fail
          go_region_held3 (fun w1 => (w1.cell? ⟨b1, o1 + k * 3, none⟩ = some (.int .i64 z.tx) ∧ w1.cell? ⟨b1, o1 + k * 3 + 1, none⟩ = some (.int .i64 z.last) ∧ w1.cell? ⟨b1, o1 + k * 3 + 2, none⟩ = some (.bool z.aborts)) ∧ (w1.cell? ⟨b2, o2 + k * 3, none⟩ = some (.int .i64 z.tx) ∧ w1.cell? ⟨b2, o2 + k * 3 + 1, none⟩ = some (.int .i64 z.last) ∧ w1.cell? ⟨b2, o2 + k * 3 + 2, none⟩ = some (.bool z.aborts)))
            (first | exact HS.out _ hw2 | go_keep | fail)
            ((first | (go_at_call 33; refine (eqLive_same z _).mono ?_; rintro e w2 ⟨rfl, hb2⟩; have hw2 : Below w.heap.size w w2 := (hbl.drew).trans (hb2.mono hbl.size)) | fail))
          all_goals
            go_wp2_with fail
            go_roundw
            case rel => exact ⟨k + 1, by omega, by go_num, hw2⟩
            case measure => simp [intOf]; omega
        · go_wp2
          go_ret
          exact ⟨rfl, hbl⟩
end Go.Proofs.Ytnnehpimkdoeoaa

/- The walk of laws.toSlotA4. -/
namespace Go.Proofs.Ytnnehpimkdoeoaa
open Go.RowKit

def zero4 : List SlotA := [zeroS, zeroS, zeroS, zeroS]
theorem within_setCells (B o : Nat) (vs : List Value) (w : World) : Within B (B + 1) w (w.setCells B o vs) := by
  induction vs generalizing o w with
  | nil => exact Within.refl _ _ _
  | cons v r ih => exact (within_set w B o v (by omega)).trans (ih (o + 1) _)
theorem set_snoc (ts : List SlotA) (n : Nat) (t : SlotA) : (ts ++ List.replicate (n + 1) zeroS).set ts.length t = (ts ++ [t]) ++ List.replicate n zeroS := by
  rw [List.set_append_right _ _ (Nat.le_refl _)]
  simp [List.replicate_succ]
theorem getD_mem {ss : List SlotA} {k : Nat} (h : k < ss.length) : ss.getD k zeroS ∈ ss := by simp [List.getD, h]

end Go.Proofs.Ytnnehpimkdoeoaa
