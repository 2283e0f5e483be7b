/- Several texts in one, in their order. -/
import Derived.Test.YtoboickdkednkaaGreatDoorPAppendx7
import Derived.Test.YtoboickdkednkaaGreatDoorPAppendx4
import Derived.Deep.CutRange
import Derived.Test.YtoboickdkednkaaGreatDoorPAppendx8
import Derived.Test.YtoboickdkednkaaGreatDoorRows
import Derived.Test.YtoboickdkednkaaGreatDoorPAppendx5
import Derived.LaidLaws
import Derived.LaidHandle
import Derived.Stop.Joined
import Derived.ChangeVars
/- The walks of laws.markRecS, heldRecS, markLog, heldLog. -/
namespace Go.Proofs.YtoboickdkednkaaGreatDoor
open Go.RowKit

/-- A record with marks from k on: its numbers, and what its lists hold. -/
def markRA (r : RecA) (k : Int) : RecA :=
  ⟨k, k + 1, k + 1 + 1, k + 1 + 1 + 1, k + 1 + 1 + 1 + 1,
   ⟨⟨((k + 1 + 1 + 1 + 1 + 1) % 3 == 0), ⟨k + 1 + 1 + 1 + 1 + 1 + 1, marksI (k + 1 + 1 + 1 + 1 + 1 + 1 + 1) r.bf.v.o.ints.length, marksI (k + 1 + 1 + 1 + 1 + 1 + 1 + 1 + r.bf.v.o.ints.length) r.bf.v.o.refs.length⟩⟩, r.bf.aI, r.bf.cI, r.bf.aR, r.bf.cR⟩,
   ⟨⟨((k + 1 + 1 + 1 + 1 + 1 + 1 + 1 + r.bf.v.o.ints.length + r.bf.v.o.refs.length) % 3 == 0), ⟨k + 1 + 1 + 1 + 1 + 1 + 1 + 1 + r.bf.v.o.ints.length + r.bf.v.o.refs.length + 1, marksI (k + 1 + 1 + 1 + 1 + 1 + 1 + 1 + r.bf.v.o.ints.length + r.bf.v.o.refs.length + 1 + 1) r.af.v.o.ints.length, marksI (k + 1 + 1 + 1 + 1 + 1 + 1 + 1 + r.bf.v.o.ints.length + r.bf.v.o.refs.length + 1 + 1 + r.af.v.o.ints.length) r.af.v.o.refs.length⟩⟩, r.af.aI, r.af.cI, r.af.aR, r.af.cR⟩,
   k + 1 + 1 + 1 + 1 + 1 + 1 + 1 + r.bf.v.o.ints.length + r.bf.v.o.refs.length + 1 + 1 + r.af.v.o.ints.length + r.af.v.o.refs.length,
   marksL (k + 1 + 1 + 1 + 1 + 1 + 1 + 1 + r.bf.v.o.ints.length + r.bf.v.o.refs.length + 1 + 1 + r.af.v.o.ints.length + r.af.v.o.refs.length + 1) r.txs.length, r.aL, r.cL⟩
def countRA (r : RecA) : Nat := 10 + r.bf.v.o.ints.length + r.bf.v.o.refs.length + r.af.v.o.ints.length + r.af.v.o.refs.length + 3 * r.txs.length
def markRs : List RecA → Int → List RecA
  | [], _ => []
  | r :: t, k => markRA r k :: markRs t (k + countRA r)
def countRs : List RecA → Nat
  | [] => 0
  | r :: t => countRA r + countRs t
theorem markRA_blocks (r : RecA) (k : Int) : (markRA r k).blocks = r.blocks := by simp [markRA, RecA.blocks, SlotA.blocks, marksI_len, marksL_len]
theorem markRs_len (rs : List RecA) : ∀ k, (markRs rs k).length = rs.length := by
  induction rs with
  | nil => intro k; rfl
  | cons x r ih => intro k; simp [markRs, ih]
theorem markRs_app (A B : List RecA) : ∀ k, markRs (A ++ B) k = markRs A k ++ markRs B (k + countRs A) := by
  induction A with
  | nil => intro k; simp [markRs, countRs]
  | cons x r ih =>
    intro k
    simp only [List.cons_append, markRs, ih, countRs]
    congr 3
    omega
theorem countRs_app (A B : List RecA) : countRs (A ++ B) = countRs A + countRs B := by
  induction A with
  | nil => simp [countRs]
  | cons x r ih => simp only [List.cons_append, countRs, ih]; omega
theorem recs_split (rs : List RecA) (j : Nat) (h : j < rs.length) : rs.drop j = rs.getD j zeroR :: rs.drop (j + 1) ∧ rs.take (j + 1) = rs.take j ++ [rs.getD j zeroR] := by
  have e : rs.getD j zeroR = rs[j] := by simp [List.getD, h]
  exact ⟨by rw [List.drop_eq_getElem_cons h, e], by rw [List.take_succ_eq_append_getElem h, e]⟩
/-- How far the marks have come. -/
def halfRs (rs : List RecA) (k : Int) (j : Nat) : List RecA := markRs (rs.take j) k ++ rs.drop j
theorem halfRs_len (rs : List RecA) (k : Int) (j : Nat) (h : j ≤ rs.length) : (halfRs rs k j).length = rs.length := by simp [halfRs, markRs_len]; omega
theorem halfRs_at (rs : List RecA) (k : Int) (j : Nat) (h : j < rs.length) : halfRs rs k j = markRs (rs.take j) k ++ rs.getD j zeroR :: rs.drop (j + 1) := by rw [halfRs, (recs_split rs j h).1]
theorem halfRs_next (rs : List RecA) (k : Int) (j : Nat) (h : j < rs.length) : halfRs rs k (j + 1) = markRs (rs.take j) k ++ markRA (rs.getD j zeroR) (k + countRs (rs.take j)) :: rs.drop (j + 1) := by
  rw [halfRs, (recs_split rs j h).2, markRs_app]
  simp [markRs]
theorem countRs_next (rs : List RecA) (j : Nat) (h : j < rs.length) : countRs (rs.take (j + 1)) = countRs (rs.take j) + countRA (rs.getD j zeroR) := by
  rw [(recs_split rs j h).2, countRs_app]
  simp [countRs]
theorem countRs_le (rs : List RecA) (j : Nat) : countRs (rs.take j) ≤ countRs rs := by
  have : countRs rs = countRs (rs.take j) + countRs (rs.drop j) := by rw [← countRs_app, List.take_append_drop]
  omega

/-- The cells of one record of a row, and of the others. -/
def RowR (w : World) (base g n cap : Nat) (pre cs post : List Value) : Prop := w.ownsRow base 39 15 (.slice (some ⟨g, 0, none⟩) n cap) n (pre ++ (cs ++ post))
theorem RowR.cell {w : World} {base g n cap j : Nat} {pre cs post : List Value} (h : RowR w base g n cap pre cs post) (hp : pre.length = j * 15) (hc : cs.length = 15) (i : Nat) (v : Value) (hv : cs[i]? = some v) : w.cell? ⟨g, j * 15 + i, none⟩ = some v := by
  have hi : i < 15 := by have := (List.getElem?_eq_some_iff.1 hv).1; omega
  have hl := h.1
  rw [List.length_append, List.length_append] at hl
  rw [World.ownsRow.cellAt h (j * 15 + i) (by omega), List.getElem?_append_right (by omega), List.getElem?_append_left (by omega), show j * 15 + i - pre.length = i by omega]
  exact hv
theorem RowR.frozen {w : World} {base g n cap : Nat} {pre cs post : List Value} (h : RowR w base g n cap pre cs post) (i : Nat) : w.frozen? ⟨g, i, none⟩ = false := World.ownsRow.frozenAt h i
theorem RowR.set {w : World} {base g n cap j : Nat} {pre cs post : List Value} (h : RowR w base g n cap pre cs post) (hp : pre.length = j * 15) (hc : cs.length = 15) (i : Nat) (hi : i < 15) (v : Value) : RowR (w.setCell ⟨g, j * 15 + i, none⟩ v) base g n cap pre (cs.set i v) post ∧ w.grownBy (w.setCell ⟨g, j * 15 + i, none⟩ v) (some g) := by
  have := World.ownsRow.stored h (j * 15 + i) v
  rw [List.set_append_right _ _ (by omega), show j * 15 + i - pre.length = i by omega, List.set_append_left _ _ (by omega)] at this
  exact this
theorem RowR.block {w w' : World} {base g n cap : Nat} {pre cs post : List Value} (h : RowR w base g n cap pre cs post) (hb : w'.heap[g]? = w.heap[g]?) : RowR w' base g n cap pre cs post := ownsRow_block h (fun k hk => by cases hk; exact hb)
theorem RowR.sets7 {w : World} {base g n cap j : Nat} {pre post : List Value} {x0 x1 x2 x3 x4 x5 x6 x7 x8 x9 x10 x11 x12 x13 x14 : Value} (h : RowR w base g n cap pre [x0, x1, x2, x3, x4, x5, x6, x7, x8, x9, x10, x11, x12, x13, x14] post) (hp : pre.length = j * 15) (v0 v1 v2 v3 v4 v5 v6 : Value) :
    ∃ W, Hid (((((((w.setCell ⟨g, j * 15, none⟩ v0).setCell ⟨g, j * 15 + 1, none⟩ v1).setCell ⟨g, j * 15 + 2, none⟩ v2).setCell ⟨g, j * 15 + 3, none⟩ v3).setCell ⟨g, j * 15 + 4, none⟩ v4).setCell ⟨g, j * 15 + 5, none⟩ v5).setCell ⟨g, j * 15 + 6, none⟩ v6 = W) ∧ RowR W base g n cap pre [v0, v1, v2, v3, v4, v5, v6, x7, x8, x9, x10, x11, x12, x13, x14] post ∧ Touch [g] w W := by
  obtain ⟨a0, g0⟩ := h.set hp rfl 0 (by omega) v0
  obtain ⟨a1, g1⟩ := a0.set hp rfl 1 (by omega) v1
  obtain ⟨a2, g2⟩ := a1.set hp rfl 2 (by omega) v2
  obtain ⟨a3, g3⟩ := a2.set hp rfl 3 (by omega) v3
  obtain ⟨a4, g4⟩ := a3.set hp rfl 4 (by omega) v4
  obtain ⟨a5, g5⟩ := a4.set hp rfl 5 (by omega) v5
  obtain ⟨a6, g6⟩ := a5.set hp rfl 6 (by omega) v6
  exact ⟨_, rfl, a6, Touch.of_grown (grownBy_trans (grownBy_trans (grownBy_trans (grownBy_trans (grownBy_trans (grownBy_trans g0 g1) g2) g3) g4) g5) g6) (fun k hk => by cases hk; simp)⟩
theorem RowR.sets2 {w : World} {base g n cap j : Nat} {pre post : List Value} {x0 x1 x2 x3 x4 x5 x6 x7 x8 x9 x10 x11 x12 x13 x14 : Value} (h : RowR w base g n cap pre [x0, x1, x2, x3, x4, x5, x6, x7, x8, x9, x10, x11, x12, x13, x14] post) (hp : pre.length = j * 15) (v0 v1 : Value) :
    ∃ W, Hid ((w.setCell ⟨g, j * 15 + 9, none⟩ v0).setCell ⟨g, j * 15 + 10, none⟩ v1 = W) ∧ RowR W base g n cap pre [x0, x1, x2, x3, x4, x5, x6, x7, x8, v0, v1, x11, x12, x13, x14] post ∧ Touch [g] w W := by
  obtain ⟨a0, g0⟩ := h.set hp rfl 9 (by omega) v0
  obtain ⟨a1, g1⟩ := a0.set hp rfl 10 (by omega) v1
  exact ⟨_, rfl, a1, Touch.of_grown (grownBy_trans g0 g1) (fun k hk => by cases hk; simp)⟩
theorem RowR.set1 {w : World} {base g n cap j : Nat} {pre post : List Value} {x0 x1 x2 x3 x4 x5 x6 x7 x8 x9 x10 x11 x12 x13 x14 : Value} (h : RowR w base g n cap pre [x0, x1, x2, x3, x4, x5, x6, x7, x8, x9, x10, x11, x12, x13, x14] post) (hp : pre.length = j * 15) (v0 : Value) :
    ∃ W, Hid (w.setCell ⟨g, j * 15 + 13, none⟩ v0 = W) ∧ RowR W base g n cap pre [x0, x1, x2, x3, x4, x5, x6, x7, x8, x9, x10, x11, x12, v0, x14] post ∧ Touch [g] w W := by
  obtain ⟨a0, g0⟩ := h.set hp rfl 13 (by omega) v0
  exact ⟨_, rfl, a0, Touch.of_grown g0 (fun k hk => by cases hk; simp)⟩

theorem five_apart {L1 L2 L3 L4 L5 : List Nat} (h : ((L1 ++ L2) ++ ((L3 ++ L4) ++ L5)).Nodup) :
    (∀ k, k ∈ L1 → k ∉ L2 ∧ k ∉ L3 ∧ k ∉ L4 ∧ k ∉ L5) ∧ (∀ k, k ∈ L2 → k ∉ L1 ∧ k ∉ L3 ∧ k ∉ L4 ∧ k ∉ L5) ∧ (∀ k, k ∈ L3 → k ∉ L1 ∧ k ∉ L2 ∧ k ∉ L4 ∧ k ∉ L5) ∧ (∀ k, k ∈ L4 → k ∉ L1 ∧ k ∉ L2 ∧ k ∉ L3 ∧ k ∉ L5) ∧ (∀ k, k ∈ L5 → k ∉ L1 ∧ k ∉ L2 ∧ k ∉ L3 ∧ k ∉ L4) := by
  simp only [List.nodup_append, List.mem_append] at h
  obtain ⟨⟨_, _, h12⟩, ⟨⟨_, _, h34⟩, _, h45⟩, hx⟩ := h
  refine ⟨fun k hk => ⟨fun h' => h12 k hk k h' rfl, fun h' => hx k (.inl hk) k (.inl (.inl h')) rfl, fun h' => hx k (.inl hk) k (.inl (.inr h')) rfl, fun h' => hx k (.inl hk) k (.inr h') rfl⟩,
    fun k hk => ⟨fun h' => h12 k h' k hk rfl, fun h' => hx k (.inr hk) k (.inl (.inl h')) rfl, fun h' => hx k (.inr hk) k (.inl (.inr h')) rfl, fun h' => hx k (.inr hk) k (.inr h') rfl⟩,
    fun k hk => ⟨fun h' => hx k (.inl h') k (.inl (.inl hk)) rfl, fun h' => hx k (.inr h') k (.inl (.inl hk)) rfl, fun h' => h34 k hk k h' rfl, fun h' => h45 k (.inl hk) k h' rfl⟩,
    fun k hk => ⟨fun h' => hx k (.inl h') k (.inl (.inr hk)) rfl, fun h' => hx k (.inr h') k (.inl (.inr hk)) rfl, fun h' => h34 k h' k hk rfl, fun h' => h45 k (.inr hk) k h' rfl⟩,
    fun k hk => ⟨fun h' => hx k (.inl h') k (.inr hk) rfl, fun h' => hx k (.inr h') k (.inr hk) rfl, fun h' => h45 k (.inl h') k hk rfl, fun h' => h45 k (.inr h') k hk rfl⟩⟩
theorem markIntS_touch (lo hi : Nat) (a : Option Addr) (cap : Nat) (k0 : Int) (xs : List Int) (w : World) (ho : OwnI w lo hi a cap xs) (h0 : 0 ≤ k0) (hl : k0 + xs.length ≤ 4611686018427387904) :
    Calls Tryz.prog 80 #[.slice a xs.length cap, .int .i64 k0] w fun e w' => e = .returned (.int .i64 (k0 + xs.length)) ∧ OwnI w' lo hi a cap (marksI k0 xs.length) ∧ Touch (Value.slice a xs.length cap).ownBlock.toList w w' := by
  refine (markIntS_any lo a cap k0 xs w ho.1 h0 hl).mono ?_
  rintro e w' ⟨rfl, h1, h2⟩
  exact ⟨rfl, ⟨by rw [marksI_len]; exact h1, Nat.le_trans ho.2.1 h2.size, by rw [marksI_len]; exact ho.2.2⟩, Touch.of_grown h2 (fun j hj => Option.mem_toList.2 hj)⟩
theorem OwnI.keep {w w' : World} {lo hi : Nat} {a : Option Addr} {c : Nat} {ns : List Int} {bl : List Nat} (h : OwnI w lo hi a c ns) (ht : Touch bl w w') (hd : ∀ k, k ∈ (Value.slice a ns.length c).ownBlock.toList → k ∉ bl) : OwnI w' lo hi a c ns := h.touch ht (fun k hk => hd k (Option.mem_toList.2 hk))
theorem OwnL.keep {w w' : World} {lo hi : Nat} {a : Option Addr} {c : Nat} {ns : List LiveV} {bl : List Nat} (h : OwnL w lo hi a c ns) (ht : Touch bl w w') (hd : ∀ k, k ∈ (Value.slice a ns.length c).ownBlock.toList → k ∉ bl) : OwnL w' lo hi a c ns := h.touch ht (fun k hk => hd k (Option.mem_toList.2 hk))
theorem RowR.keep {w w' : World} {base g n cap : Nat} {pre cs post : List Value} {bl : List Nat} (h : RowR w base g n cap pre cs post) (ht : Touch bl w w') (hd : g ∉ bl) : RowR w' base g n cap pre cs post := h.block (ht.block g (World.ownsRow.lt h g rfl).2 hd)

/-- One of them is marked, in its own blocks and its cells of the row: the others are as they were. -/
theorem OwnRs.replace {w w' : World} {lo hi g c : Nat} {A B : List RecA} {z y : RecA} (h : OwnRs w lo hi (some ⟨g, 0, none⟩) c (A ++ z :: B)) (ht : Touch (g :: z.blocks) w w') (hrow : RowR w' lo g (A ++ z :: B).length c (cellsRs A) y.cells (cellsRs B)) (hy : y.own w' lo hi) (hb : y.blocks = z.blocks) : OwnRs w' lo hi (some ⟨g, 0, none⟩) c (A ++ y :: B) := by
  have hap := h.apart
  simp only [List.flatMap_append, List.flatMap_cons, Value.ownBlock, Option.toList, List.singleton_append, List.nodup_cons, List.nodup_append, List.mem_append, not_or] at hap
  obtain ⟨⟨n1, n2, n3⟩, a1, ⟨a2, a3, a4⟩, a5⟩ := hap
  refine ⟨?_, Nat.le_trans h.top ht.size, fun k hk => by cases hk; exact h.blk g rfl, fun r hr => ?_, ?_⟩
  · have e : (A ++ y :: B).length = (A ++ z :: B).length := by simp
    rw [e, cellsRs_app, cellsRs_cons]
    exact hrow
  · rcases List.mem_append.1 hr with hr | hr
    · refine (h.each r (by simp [hr])).touch ht (fun k hk hk' => ?_)
      have hm : k ∈ A.flatMap RecA.blocks := List.mem_flatMap.2 ⟨r, hr, hk⟩
      rcases List.mem_cons.1 hk' with rfl | hk'
      · exact n1 hm
      · exact a5 k hm k (.inl hk') rfl
    · rcases List.mem_cons.1 hr with rfl | hr
      · exact hy
      · refine (h.each r (by simp [hr])).touch ht (fun k hk hk' => ?_)
        have hm : k ∈ B.flatMap RecA.blocks := List.mem_flatMap.2 ⟨r, hr, hk⟩
        rcases List.mem_cons.1 hk' with rfl | hk'
        · exact n3 hm
        · exact a4 k hk' k hm rfl
  · have := h.apart
    simp only [List.flatMap_append, List.flatMap_cons] at this ⊢
    rw [hb]
    exact this

set_option maxHeartbeats 8000000 in
set_option maxRecDepth 100000 in
theorem markRecS_touch (lo hi : Nat) (a : Option Addr) (cap : Nat) (k0 : Int) (rs : List RecA) (w : World) (ho : OwnRs w lo hi a cap rs) (hl : ∀ r ∈ rs, r.short 1099511627776) (h0 : 0 ≤ k0) (hk : k0 + countRs rs ≤ 1152921504606846976) :
    Calls Tryz.prog 55 #[.slice a rs.length cap, .int .i64 k0] w fun e w' => e = .returned (.int .i64 (k0 + countRs rs)) ∧ OwnRs w' lo hi a cap (markRs rs k0) ∧ Touch (blocksRs a cap rs) w w' := by
  rcases ho.row.2 with ⟨hv, h00⟩ | ⟨g, cap', cur, hv, hg, hgg, hr⟩
  · simp only [Value.slice.injEq] at hv
    obtain ⟨rfl, _, rfl⟩ := hv
    obtain rfl := List.length_eq_zero_iff.1 h00
    go_enter Tryz.func55, Tryz.ntmps55
    go_wp2
    refine wp_loop_rounds 1 ?_
    rw [rounds_succ]
    go_wp2
    go_ret
    exact ⟨by simp [countRs], ho, Touch.refl _ _⟩
  · simp only [Value.slice.injEq] at hv
    obtain ⟨rfl, _, rfl⟩ := hv
    have hlm : rs.length ≤ maxLen := Nat.le_trans hr.1 hr.2.1
    simp only [maxLen] at hlm
    clear hgg hr
    have HH : Hid (halfRs rs k0 0 = rs ∧ halfRs rs k0 rs.length = markRs rs k0) := ⟨by simp [halfRs, markRs], by simp [halfRs]⟩
    have HST : Hid (OwnRs w lo hi (some ⟨g, 0, none⟩) cap (halfRs rs k0 0)) := by rw [HH.out.1]; exact ho
    have HSH : Hid (∀ j, j < rs.length → (rs.getD j zeroR).short 1099511627776) := fun j hj => hl _ (recD_mem rs j hj)
    have HSUB : Hid (∀ j, j < rs.length → ∀ k ∈ g :: (rs.getD j zeroR).blocks, k ∈ blocksRs (some ⟨g, 0, none⟩) cap rs) := fun j hj k hk => by
      rcases List.mem_cons.1 hk with rfl | hk
      · exact List.mem_append.2 (.inl (by simp [Value.ownBlock]))
      · exact List.mem_append.2 (.inr (List.mem_flatMap.2 ⟨_, recD_mem rs j hj, hk⟩))
    clear ho hl
    go_enter Tryz.func55, Tryz.ntmps55
    go_wp2
    go_loopw [1, 5] (fun kk i wr => ∃ j : Nat, j ≤ rs.length ∧ i = .int .i64 j ∧ kk = .int .i64 (k0 + countRs (rs.take j)) ∧ Hid (OwnRs wr lo hi (some ⟨g, 0, none⟩) cap (halfRs rs k0 j)) ∧ Touch (blocksRs (some ⟨g, 0, none⟩) cap rs) w wr)
      (fun _ i _ => rs.length - (intOf i).toNat)
    case atStart => exact ⟨0, Nat.zero_le _, rfl, by simp [countRs], HST, Touch.refl _ _⟩
    case round =>
      obtain ⟨j, hj, rfl, rfl, hown, htw⟩ := hrel
      clear HST
      by_cases hlt : j < rs.length
      · have hsh := HSH.out j hlt
        have hsub := HSUB.out j hlt
        have hcn := countRs_next rs j hlt
        have hcl := countRs_le rs (j + 1)
        have ho := hown.out
        rw [halfRs_at rs k0 j hlt] at ho
        have hlen := halfRs_len rs k0 j hj
        rw [halfRs_at rs k0 j hlt] at hlen
        have HN : Hid (halfRs rs k0 (j + 1) = _) := halfRs_next rs k0 j hlt
        have hA : (cellsRs (markRs (rs.take j) k0)).length = j * 15 := by rw [cellsRs_len, markRs_len, List.length_take]; congr 1; omega
        have HCN : Hid (k0 + countRs (rs.take (j + 1)) = k0 + countRs (rs.take j) + countRA (rs.getD j zeroR)) := by rw [Hid, hcn]; omega
        have hkb : 0 ≤ k0 + (countRs (rs.take j) : Int) ∧ k0 + (countRs (rs.take j) : Int) + countRA (rs.getD j zeroR) ≤ 1152921504606846976 := ⟨by omega, by omega⟩
        clear hcn hcl hown hk h0
        generalize k0 + (countRs (rs.take j) : Int) = kk at *
        generalize markRs (rs.take j) k0 = A at *
        generalize rs.drop (j + 1) = B at *
        generalize rs.getD j zeroR = z at *
        have hz := ho.each z (List.mem_append.2 (.inr (List.mem_cons.2 (.inl rfl))))
        have HG : Hid (g ∉ z.blocks) := row_apart ho.row hz g rfl
        have hap := hz.apart
        have HZA : Hid (z.blocks.Nodup) := hz.apart
        simp only [RecA.blocks, SlotA.blocks] at hap
        have HAP : Hid (_ ∧ _ ∧ _ ∧ _ ∧ _) := five_apart hap
        have HGN : Hid (g ∉ (Value.slice z.bf.aI z.bf.v.o.ints.length z.bf.cI).ownBlock.toList ∧ g ∉ (Value.slice z.bf.aR z.bf.v.o.refs.length z.bf.cR).ownBlock.toList ∧ g ∉ (Value.slice z.af.aI z.af.v.o.ints.length z.af.cI).ownBlock.toList ∧ g ∉ (Value.slice z.af.aR z.af.v.o.refs.length z.af.cR).ownBlock.toList ∧ g ∉ (Value.slice z.aL z.txs.length z.cL).ownBlock.toList) := by
          have := HG.out
          simp only [RecA.blocks, SlotA.blocks, List.mem_append, not_or] at this
          exact ⟨this.1.1, this.1.2, this.2.1.1, this.2.1.2, this.2.2⟩
        have HM : Hid ((∀ k ∈ (Value.slice z.bf.aI z.bf.v.o.ints.length z.bf.cI).ownBlock.toList, k ∈ z.blocks) ∧ (∀ k ∈ (Value.slice z.bf.aR z.bf.v.o.refs.length z.bf.cR).ownBlock.toList, k ∈ z.blocks) ∧ (∀ k ∈ (Value.slice z.af.aI z.af.v.o.ints.length z.af.cI).ownBlock.toList, k ∈ z.blocks) ∧ (∀ k ∈ (Value.slice z.af.aR z.af.v.o.refs.length z.af.cR).ownBlock.toList, k ∈ z.blocks) ∧ (∀ k ∈ (Value.slice z.aL z.txs.length z.cL).ownBlock.toList, k ∈ z.blocks)) := by
          simp only [RecA.blocks, SlotA.blocks]
          exact ⟨fun k h => List.mem_append.2 (.inl (List.mem_append.2 (.inl h))), fun k h => List.mem_append.2 (.inl (List.mem_append.2 (.inr h))), fun k h => List.mem_append.2 (.inr (List.mem_append.2 (.inl (List.mem_append.2 (.inl h))))), fun k h => List.mem_append.2 (.inr (List.mem_append.2 (.inl (List.mem_append.2 (.inr h))))), fun k h => List.mem_append.2 (.inr (List.mem_append.2 (.inr h)))⟩
        have row : RowR wr lo g rs.length cap (cellsRs A) z.cells (cellsRs B) := by
          have := ho.row
          rw [hlen, cellsRs_app, cellsRs_cons] at this
          exact this
        have hbI := hz.bf.ints
        have hbR := hz.bf.refs
        have haI := hz.af.ints
        have haR := hz.af.refs
        have hL := hz.txs
        have hcz : countRA z = 10 + z.bf.v.o.ints.length + z.bf.v.o.refs.length + z.af.v.o.ints.length + z.af.v.o.refs.length + 3 * z.txs.length := rfl
        have HBA : Hid (∀ k ∈ z.blocks, k ∈ g :: z.blocks) := fun k hk => List.mem_cons.2 (.inr hk)
        have HGB : Hid (∀ k ∈ [g], k ∈ g :: z.blocks) := fun k hk => List.mem_cons.2 (.inl (List.mem_singleton.1 hk))
        have HNG : Hid (∀ (L : List Nat), g ∉ L → ∀ k, k ∈ L → k ∉ [g]) := fun L hg k hk hk' => hg (by rw [← List.mem_singleton.1 hk']; exact hk)
        clear hap hz
        simp only [RecA.cells] at row
        have x0 : wr.cell? ⟨g, j * 15, none⟩ = _ := row.cell hA rfl 0 _ rfl
        have x1 := row.cell hA rfl 1 _ rfl
        have x2 := row.cell hA rfl 2 _ rfl
        have x3 := row.cell hA rfl 3 _ rfl
        have x4 := row.cell hA rfl 4 _ rfl
        have x5 := row.cell hA rfl 5 _ rfl
        have x6 := row.cell hA rfl 6 _ rfl
        have f0 : wr.frozen? ⟨g, j * 15, none⟩ = false := row.frozen _
        have f1 := row.frozen (j * 15 + 1)
        have f2 := row.frozen (j * 15 + 2)
        have f3 := row.frozen (j * 15 + 3)
        have f4 := row.frozen (j * 15 + 4)
        have f5 := row.frozen (j * 15 + 5)
        have f6 := row.frozen (j * 15 + 6)
        obtain ⟨W1, hW1, row1, t1⟩ := row.sets7 hA (.int .i64 kk) (.int .i64 (kk + 1)) (.int .i64 (kk + 1 + 1)) (.int .i64 (kk + 1 + 1 + 1)) (.int .i64 (kk + 1 + 1 + 1 + 1)) (.bool ((kk + 1 + 1 + 1 + 1 + 1) % 3 == 0)) (.int .i64 (kk + 1 + 1 + 1 + 1 + 1 + 1))
        have HT : Hid (Touch (g :: z.blocks) wr W1) := t1.mono HGB.out
        have bI1 := hbI.keep t1 (HNG.out _ HGN.out.1)
        have bR1 := hbR.keep t1 (HNG.out _ HGN.out.2.1)
        have aI1 := haI.keep t1 (HNG.out _ HGN.out.2.2.1)
        have aR1 := haR.keep t1 (HNG.out _ HGN.out.2.2.2.1)
        have L1 := hL.keep t1 (HNG.out _ HGN.out.2.2.2.2)
        clear t1 hbI hbR haI haR hL row
        go_upto_region 18 with fail
        rw [hW1.out]
        clear hW1 x0 x1 x2 x3 x4 x5 x6 f0 f1 f2 f3 f4 f5 f6
        have y7 := row1.cell hA rfl 7 _ rfl
        have C := markIntS_touch lo hi z.bf.aI z.bf.cI (kk + 1 + 1 + 1 + 1 + 1 + 1 + 1) z.bf.v.o.ints W1 bI1 (by omega) (by omega)
        go_wp2_with fail
        refine C.mono ?_
        clear C y7
        rintro e w2 ⟨rfl, mI, t2⟩
        have row2 := row1.keep t2 HGN.out.1
        have HT2 : Hid (Touch (g :: z.blocks) wr w2) := HT.out.trans ((t2.mono HM.out.1).mono HBA.out)
        have bR2 := bR1.keep t2 (fun k hk h => (HAP.out.1 k h).1 hk)
        have aI2 := aI1.keep t2 (fun k hk h => (HAP.out.1 k h).2.1 hk)
        have aR2 := aR1.keep t2 (fun k hk h => (HAP.out.1 k h).2.2.1 hk)
        have L2 := L1.keep t2 (fun k hk h => (HAP.out.1 k h).2.2.2 hk)
        clear bI1 bR1 aI1 aR1 L1 t2 row1 HT
        have y8 := row2.cell hA rfl 8 _ rfl
        have C := markIntS_touch lo hi z.bf.aR z.bf.cR (kk + 1 + 1 + 1 + 1 + 1 + 1 + 1 + z.bf.v.o.ints.length) z.bf.v.o.refs w2 bR2 (by omega) (by omega)
        go_wp2_with fail
        refine C.mono ?_
        clear C y8
        rintro e w3 ⟨rfl, mR, t3⟩
        have row3 := row2.keep t3 HGN.out.2.1
        have HT3 : Hid (Touch (g :: z.blocks) wr w3) := HT2.out.trans ((t3.mono HM.out.2.1).mono HBA.out)
        have mI3 := mI.keep t3 (fun k hk h => (HAP.out.2.1 k h).1 (by rw [marksI_len] at hk; exact hk))
        have aI3 := aI2.keep t3 (fun k hk h => (HAP.out.2.1 k h).2.1 hk)
        have aR3 := aR2.keep t3 (fun k hk h => (HAP.out.2.1 k h).2.2.1 hk)
        have L3 := L2.keep t3 (fun k hk h => (HAP.out.2.1 k h).2.2.2 hk)
        clear mI bR2 aI2 aR2 L2 t3 row2 HT2
        have x9 := row3.cell hA rfl 9 _ rfl
        have x10 := row3.cell hA rfl 10 _ rfl
        have f9 := row3.frozen (j * 15 + 9)
        have f10 := row3.frozen (j * 15 + 10)
        obtain ⟨W4, hW4, row4, t4⟩ := row3.sets2 hA (.bool ((kk + 1 + 1 + 1 + 1 + 1 + 1 + 1 + z.bf.v.o.ints.length + z.bf.v.o.refs.length) % 3 == 0)) (.int .i64 (kk + 1 + 1 + 1 + 1 + 1 + 1 + 1 + z.bf.v.o.ints.length + z.bf.v.o.refs.length + 1))
        have HT4 : Hid (Touch (g :: z.blocks) wr W4) := HT3.out.trans (t4.mono HGB.out)
        have mI4 := mI3.keep t4 (HNG.out _ (by rw [marksI_len]; exact HGN.out.1))
        have mR4 := mR.keep t4 (HNG.out _ (by rw [marksI_len]; exact HGN.out.2.1))
        have aI4 := aI3.keep t4 (HNG.out _ HGN.out.2.2.1)
        have aR4 := aR3.keep t4 (HNG.out _ HGN.out.2.2.2.1)
        have L4 := L3.keep t4 (HNG.out _ HGN.out.2.2.2.2)
        clear mI3 mR aI3 aR3 L3 t4 row3 HT3
        go_upto_region 24 with fail
        rw [hW4.out]
        clear hW4 x9 x10 f9 f10
        have y11 := row4.cell hA rfl 11 _ rfl
        have C := markIntS_touch lo hi z.af.aI z.af.cI (kk + 1 + 1 + 1 + 1 + 1 + 1 + 1 + z.bf.v.o.ints.length + z.bf.v.o.refs.length + 1 + 1) z.af.v.o.ints W4 aI4 (by omega) (by omega)
        go_wp2_with fail
        refine C.mono ?_
        clear C y11
        rintro e w5 ⟨rfl, nI, t5⟩
        have row5 := row4.keep t5 HGN.out.2.2.1
        have HT5 : Hid (Touch (g :: z.blocks) wr w5) := HT4.out.trans ((t5.mono HM.out.2.2.1).mono HBA.out)
        have mI5 := mI4.keep t5 (fun k hk h => (HAP.out.2.2.1 k h).1 (by rw [marksI_len] at hk; exact hk))
        have mR5 := mR4.keep t5 (fun k hk h => (HAP.out.2.2.1 k h).2.1 (by rw [marksI_len] at hk; exact hk))
        have aR5 := aR4.keep t5 (fun k hk h => (HAP.out.2.2.1 k h).2.2.1 hk)
        have L5 := L4.keep t5 (fun k hk h => (HAP.out.2.2.1 k h).2.2.2 hk)
        clear mI4 mR4 aI4 aR4 L4 t5 row4 HT4
        have y12 := row5.cell hA rfl 12 _ rfl
        have C := markIntS_touch lo hi z.af.aR z.af.cR (kk + 1 + 1 + 1 + 1 + 1 + 1 + 1 + z.bf.v.o.ints.length + z.bf.v.o.refs.length + 1 + 1 + z.af.v.o.ints.length) z.af.v.o.refs w5 aR5 (by omega) (by omega)
        go_wp2_with fail
        refine C.mono ?_
        clear C y12
        rintro e w6 ⟨rfl, nR, t6⟩
        have row6 := row5.keep t6 HGN.out.2.2.2.1
        have HT6 : Hid (Touch (g :: z.blocks) wr w6) := HT5.out.trans ((t6.mono HM.out.2.2.2.1).mono HBA.out)
        have mI6 := mI5.keep t6 (fun k hk h => (HAP.out.2.2.2.1 k h).1 (by rw [marksI_len] at hk; exact hk))
        have mR6 := mR5.keep t6 (fun k hk h => (HAP.out.2.2.2.1 k h).2.1 (by rw [marksI_len] at hk; exact hk))
        have nI6 := nI.keep t6 (fun k hk h => (HAP.out.2.2.2.1 k h).2.2.1 (by rw [marksI_len] at hk; exact hk))
        have L6 := L5.keep t6 (fun k hk h => (HAP.out.2.2.2.1 k h).2.2.2 hk)
        clear mI5 mR5 nI aR5 L5 t6 row5 HT5
        have x13 := row6.cell hA rfl 13 _ rfl
        have f13 := row6.frozen (j * 15 + 13)
        obtain ⟨W7, hW7, row7, t7⟩ := row6.set1 hA (.int .i64 (kk + 1 + 1 + 1 + 1 + 1 + 1 + 1 + z.bf.v.o.ints.length + z.bf.v.o.refs.length + 1 + 1 + z.af.v.o.ints.length + z.af.v.o.refs.length))
        have HT7 : Hid (Touch (g :: z.blocks) wr W7) := HT6.out.trans (t7.mono HGB.out)
        have mI7 := mI6.keep t7 (HNG.out _ (by rw [marksI_len]; exact HGN.out.1))
        have mR7 := mR6.keep t7 (HNG.out _ (by rw [marksI_len]; exact HGN.out.2.1))
        have nI7 := nI6.keep t7 (HNG.out _ (by rw [marksI_len]; exact HGN.out.2.2.1))
        have nR7 := nR.keep t7 (HNG.out _ (by rw [marksI_len]; exact HGN.out.2.2.2.1))
        have L7 := L6.keep t7 (HNG.out _ HGN.out.2.2.2.2)
        clear mI6 mR6 nI6 nR L6 t7 row6 HT6
        go_upto_region 28 with fail
        rw [hW7.out]
        clear hW7 x13 f13
        have y14 := row7.cell hA rfl 14 _ rfl
        have C := markLiveS_own lo hi z.aL z.cL (kk + 1 + 1 + 1 + 1 + 1 + 1 + 1 + z.bf.v.o.ints.length + z.bf.v.o.refs.length + 1 + 1 + z.af.v.o.ints.length + z.af.v.o.refs.length + 1) z.txs W7 L7 (by omega) (by omega)
        go_wp2_with fail
        refine C.mono ?_
        clear C y14
        rintro e w8 ⟨rfl, nL, t8⟩
        have row8 := row7.keep t8 HGN.out.2.2.2.2
        have HT8 : Hid (Touch (g :: z.blocks) wr w8) := HT7.out.trans ((t8.mono HM.out.2.2.2.2).mono HBA.out)
        have mI8 := mI7.keep t8 (fun k hk h => (HAP.out.2.2.2.2 k h).1 (by rw [marksI_len] at hk; exact hk))
        have mR8 := mR7.keep t8 (fun k hk h => (HAP.out.2.2.2.2 k h).2.1 (by rw [marksI_len] at hk; exact hk))
        have nI8 := nI7.keep t8 (fun k hk h => (HAP.out.2.2.2.2 k h).2.2.1 (by rw [marksI_len] at hk; exact hk))
        have nR8 := nR7.keep t8 (fun k hk h => (HAP.out.2.2.2.2 k h).2.2.2 (by rw [marksI_len] at hk; exact hk))
        have HOY : Hid ((markRA z kk).own w8 lo hi) := ⟨⟨mI8, mR8, fun k hk hk' => by
            have h1 : k ∈ (Value.slice z.bf.aI z.bf.v.o.ints.length z.bf.cI).ownBlock.toList := by have := Option.mem_toList.2 hk; simpa only [markRA, marksI_len] using this
            have h2 : k ∈ (Value.slice z.bf.aR z.bf.v.o.refs.length z.bf.cR).ownBlock.toList := by have := Option.mem_toList.2 hk'; simpa only [markRA, marksI_len] using this
            exact (HAP.out.1 k h1).1 h2⟩, ⟨nI8, nR8, fun k hk hk' => by
            have h1 : k ∈ (Value.slice z.af.aI z.af.v.o.ints.length z.af.cI).ownBlock.toList := by have := Option.mem_toList.2 hk; simpa only [markRA, marksI_len] using this
            have h2 : k ∈ (Value.slice z.af.aR z.af.v.o.refs.length z.af.cR).ownBlock.toList := by have := Option.mem_toList.2 hk'; simpa only [markRA, marksI_len] using this
            exact (HAP.out.2.2.1 k h1).2.2.1 h2⟩, nL, by rw [markRA_blocks]; exact HZA.out⟩
        have HROW : Hid (RowR w8 lo g (A ++ z :: B).length cap (cellsRs A) (markRA z kk).cells (cellsRs B)) := by
          rw [hlen]
          simpa only [Hid, RecA.cells, markRA, marksI_len, marksL_len] using row8
        have HFIN : Hid (OwnRs w8 lo hi (some ⟨g, 0, none⟩) cap (halfRs rs k0 (j + 1)) ∧ Touch (blocksRs (some ⟨g, 0, none⟩) cap rs) w w8) := by
          refine ⟨?_, htw.trans (HT8.out.mono hsub)⟩
          rw [HN.out]
          exact ho.replace HT8.out HROW.out HOY.out (markRA_blocks z kk)
        have HNUM : Hid (k0 + (countRs (rs.take (j + 1)) : Int) = kk + 1 + 1 + 1 + 1 + 1 + 1 + 1 + z.bf.v.o.ints.length + z.bf.v.o.refs.length + 1 + 1 + z.af.v.o.ints.length + z.af.v.o.refs.length + 1 + 3 * z.txs.length) := by rw [Hid, HCN.out, hcz]; omega
        clear mI7 mR7 nI7 nR7 L7 t8 row7 HT7 row8 HT8 mI8 mR8 nI8 nR8 nL HOY HROW ho htw
        go_wp2_with fail
        go_roundw
        case rel => exact ⟨j + 1, by omega, by go_num, by rw [HNUM.out], HFIN.out.1, HFIN.out.2⟩
        case measure => simp [intOf]; omega
      · have HE : Hid (OwnRs wr lo hi (some ⟨g, 0, none⟩) cap (markRs rs k0) ∧ k0 + (countRs (rs.take j) : Int) = k0 + countRs rs) := by
          have e : j = rs.length := by omega
          rw [e, HH.out.2] at hown
          exact ⟨hown.out, by rw [e, List.take_length]⟩
        go_wp2
        go_ret
        exact ⟨ret_int HE.out.2, HE.out.1, htw⟩

theorem markRs_at (rs : List RecA) (k : Int) (j : Nat) (h : j < rs.length) : (markRs rs k).getD j zeroR = markRA (rs.getD j zeroR) (k + countRs (rs.take j)) := by
  have e : markRs rs k = markRs (rs.take j) k ++ markRs (rs.drop j) (k + countRs (rs.take j)) := by rw [← markRs_app, List.take_append_drop]
  have hl : (markRs (rs.take j) k).length = j := by rw [markRs_len, List.length_take]; omega
  rw [e, (recs_split rs j h).1, markRs]
  simp [List.getD, hl]

set_option maxHeartbeats 8000000 in
set_option maxRecDepth 100000 in
theorem heldRecS_any (a : Option Addr) (cap : Nat) (k0 : Int) (rs : List RecA) (w : World) (hr : ReadsRs w a (markRs rs k0)) (h0 : 0 ≤ k0) (hk : k0 + countRs rs ≤ 1152921504606846976) (hlm : rs.length ≤ 9223372036854775807) :
    Calls Tryz.prog 58 #[.slice a rs.length cap, .int .i64 k0] w fun e w' => e = .returned (.int .i64 (k0 + countRs rs)) ∧ w' = w := by
  have hml := markRs_len rs k0
  rcases hr.cases with h | ⟨b, off, rfl, hpos, hcell⟩
  · have h' := congrArg List.length h
    rw [hml] at h'
    obtain rfl := List.length_eq_zero_iff.1 h'
    go_enter Tryz.func58, Tryz.ntmps58
    go_wp2
    refine wp_loop_rounds 1 ?_
    rw [rounds_succ]
    go_wp2
    go_ret
    exact ⟨by simp [countRs], rfl⟩
  · rw [hml] at hpos hcell
    go_enter Tryz.func58, Tryz.ntmps58
    go_wp2
    go_loop [1, 5] (fun kk i => ∃ j : Nat, j ≤ rs.length ∧ i = .int .i64 j ∧ kk = .int .i64 (k0 + countRs (rs.take j))) (fun _ i => rs.length - (intOf i).toNat)
    case atStart => exact ⟨0, Nat.zero_le _, rfl, by simp [countRs]⟩
    case round =>
      obtain ⟨j, hj, rfl, rfl⟩ := hrel
      by_cases hlt : j < rs.length
      · obtain ⟨hc, hrd⟩ := hcell j hlt
        have hcn := countRs_next rs j hlt
        have hcl := countRs_le rs (j + 1)
        rw [markRs_at rs k0 j hlt] at hc hrd
        have HCN : Hid (k0 + countRs (rs.take (j + 1)) = k0 + countRs (rs.take j) + countRA (rs.getD j zeroR)) := by rw [Hid, hcn]; omega
        have hkb : 0 ≤ k0 + (countRs (rs.take j) : Int) ∧ k0 + (countRs (rs.take j) : Int) + countRA (rs.getD j zeroR) ≤ 1152921504606846976 := ⟨by omega, by omega⟩
        clear hcn hcl hk h0 hcell hpos hr hml
        generalize k0 + (countRs (rs.take j) : Int) = kk at *
        generalize rs.getD j zeroR = z at *
        have hcz : countRA z = 10 + z.bf.v.o.ints.length + z.bf.v.o.refs.length + z.af.v.o.ints.length + z.af.v.o.refs.length + 3 * z.txs.length := rfl
        have x0 : w.cell? ⟨b, off + j * 15, none⟩ = some (.int .i64 kk) := hc 0 _ rfl
        have x1 : w.cell? ⟨b, off + j * 15 + 1, none⟩ = some (.int .i64 (kk + 1)) := hc 1 _ rfl
        have x2 : w.cell? ⟨b, off + j * 15 + 2, none⟩ = some (.int .i64 (kk + 1 + 1)) := hc 2 _ rfl
        have x3 : w.cell? ⟨b, off + j * 15 + 3, none⟩ = some (.int .i64 (kk + 1 + 1 + 1)) := hc 3 _ rfl
        have x4 : w.cell? ⟨b, off + j * 15 + 4, none⟩ = some (.int .i64 (kk + 1 + 1 + 1 + 1)) := hc 4 _ rfl
        have x5 : w.cell? ⟨b, off + j * 15 + 5, none⟩ = some (.bool ((kk + 1 + 1 + 1 + 1 + 1) % 3 == 0)) := hc 5 _ rfl
        have x6 : w.cell? ⟨b, off + j * 15 + 6, none⟩ = some (.int .i64 (kk + 1 + 1 + 1 + 1 + 1 + 1)) := hc 6 _ rfl
        have x7 : w.cell? ⟨b, off + j * 15 + 7, none⟩ = some (.slice z.bf.aI z.bf.v.o.ints.length z.bf.cI) := (hc 7 _ rfl).trans (by simp only [markRA, marksI_len])
        have x8 : w.cell? ⟨b, off + j * 15 + 8, none⟩ = some (.slice z.bf.aR z.bf.v.o.refs.length z.bf.cR) := (hc 8 _ rfl).trans (by simp only [markRA, marksI_len])
        have x9 : w.cell? ⟨b, off + j * 15 + 9, none⟩ = some (.bool ((kk + 1 + 1 + 1 + 1 + 1 + 1 + 1 + z.bf.v.o.ints.length + z.bf.v.o.refs.length) % 3 == 0)) := hc 9 _ rfl
        have x10 : w.cell? ⟨b, off + j * 15 + 10, none⟩ = some (.int .i64 (kk + 1 + 1 + 1 + 1 + 1 + 1 + 1 + z.bf.v.o.ints.length + z.bf.v.o.refs.length + 1)) := hc 10 _ rfl
        have x11 : w.cell? ⟨b, off + j * 15 + 11, none⟩ = some (.slice z.af.aI z.af.v.o.ints.length z.af.cI) := (hc 11 _ rfl).trans (by simp only [markRA, marksI_len])
        have x12 : w.cell? ⟨b, off + j * 15 + 12, none⟩ = some (.slice z.af.aR z.af.v.o.refs.length z.af.cR) := (hc 12 _ rfl).trans (by simp only [markRA, marksI_len])
        have x13 : w.cell? ⟨b, off + j * 15 + 13, none⟩ = some (.int .i64 (kk + 1 + 1 + 1 + 1 + 1 + 1 + 1 + z.bf.v.o.ints.length + z.bf.v.o.refs.length + 1 + 1 + z.af.v.o.ints.length + z.af.v.o.refs.length)) := hc 13 _ rfl
        have x14 : w.cell? ⟨b, off + j * 15 + 14, none⟩ = some (.slice z.aL z.txs.length z.cL) := (hc 14 _ rfl).trans (by simp only [markRA, marksL_len])
        have C1 := heldIntS_any z.bf.aI z.bf.cI (kk + 1 + 1 + 1 + 1 + 1 + 1 + 1) z.bf.v.o.ints.length w hrd.bf.ints (by omega) (by omega)
        have C2 := heldIntS_any z.bf.aR z.bf.cR (kk + 1 + 1 + 1 + 1 + 1 + 1 + 1 + z.bf.v.o.ints.length) z.bf.v.o.refs.length w hrd.bf.refs (by omega) (by omega)
        have C3 := heldIntS_any z.af.aI z.af.cI (kk + 1 + 1 + 1 + 1 + 1 + 1 + 1 + z.bf.v.o.ints.length + z.bf.v.o.refs.length + 1 + 1) z.af.v.o.ints.length w hrd.af.ints (by omega) (by omega)
        have C4 := heldIntS_any z.af.aR z.af.cR (kk + 1 + 1 + 1 + 1 + 1 + 1 + 1 + z.bf.v.o.ints.length + z.bf.v.o.refs.length + 1 + 1 + z.af.v.o.ints.length) z.af.v.o.refs.length w hrd.af.refs (by omega) (by omega)
        have C5 := heldLiveS_any z.aL z.cL (kk + 1 + 1 + 1 + 1 + 1 + 1 + 1 + z.bf.v.o.ints.length + z.bf.v.o.refs.length + 1 + 1 + z.af.v.o.ints.length + z.af.v.o.refs.length + 1) z.txs.length w hrd.txs (by omega) (by omega)
        have HNUM : Hid (k0 + (countRs (rs.take (j + 1)) : Int) = kk + 1 + 1 + 1 + 1 + 1 + 1 + 1 + z.bf.v.o.ints.length + z.bf.v.o.refs.length + 1 + 1 + z.af.v.o.ints.length + z.af.v.o.refs.length + 1 + 3 * z.txs.length) := by rw [Hid, HCN.out, hcz]; omega
        clear hc hrd HCN
        go_wp2_with fail
        refine C1.mono ?_
        clear C1 x0 x1 x2 x3 x4 x5 x6 x7
        rintro e w1 ⟨rfl, h1⟩
        rw [h1]
        clear h1 w1
        go_wp2_with fail
        refine C2.mono ?_
        clear C2 x8
        rintro e w1 ⟨rfl, h1⟩
        rw [h1]
        clear h1 w1
        go_wp2_with fail
        refine C3.mono ?_
        clear C3 x9 x10 x11
        rintro e w1 ⟨rfl, h1⟩
        rw [h1]
        clear h1 w1
        go_wp2_with fail
        refine C4.mono ?_
        clear C4 x12
        rintro e w1 ⟨rfl, h1⟩
        rw [h1]
        clear h1 w1
        go_wp2_with fail
        refine C5.mono ?_
        clear C5 x13 x14
        rintro e w1 ⟨rfl, h1⟩
        rw [h1]
        clear h1 w1
        go_wp2_with fail
        go_round
        case rel => exact ⟨j + 1, by omega, by go_num, by rw [HNUM.out]⟩
        case measure => simp [intOf]; omega
      · have HE : Hid (k0 + (countRs (rs.take j) : Int) = k0 + countRs rs) := by
          have e : j = rs.length := by omega
          rw [Hid, e, List.take_length]
        go_wp2
        go_ret
        exact ⟨ret_int HE.out, rfl⟩

def LogA.mark (l : LogA) (k : Int) : LogA := { l with recs := markRs l.recs k }
def LogA.count (l : LogA) : Nat := countRs l.recs
set_option maxHeartbeats 1000000 in
theorem markLog_touch (l : LogA) (lo hi : Nat) (k0 : Int) (w : World) (ho : l.own w lo hi) (hl : l.short 1099511627776) (h0 : 0 ≤ k0) (hk : k0 + l.count ≤ 1152921504606846976) :
    Calls Tryz.prog 24 #[.agg l.cells.toArray, .int .i64 k0] w fun e w' => e = .returned (.int .i64 (k0 + l.count)) ∧ (l.mark k0).own w' lo hi ∧ Touch l.blocks w w' := by
  obtain ⟨rs, s, a, c⟩ := l
  have hl2 := hl.each
  simp only [LogA.cells, LogA.own, LogA.count, LogA.mark, LogA.blocks] at *
  obtain ⟨W, hW, b0, hbW, hsW⟩ := boxes1 w [.slice a rs.length c, .int .i64 s] 26
  have c0 := b0.cell 0 _ rfl
  have C := markRecS_touch lo hi a c k0 rs W (ho.below hbW) hl2 h0 hk
  clear hsW b0
  go_enter Tryz.func24, Tryz.ntmps24
  go_wp2_with fail
  rw [hW.out]
  clear hW
  refine C.mono ?_
  rintro e w1 ⟨rfl, ho1, ht1⟩
  go_wp2
  go_ret
  exact ⟨rfl, ho1, (Touch.of_below hbW).trans ht1⟩

set_option maxHeartbeats 1000000 in
theorem heldLog_any (l : LogA) (lo hi : Nat) (k0 : Int) (w : World) (ho : (l.mark k0).own w lo hi) (hl : l.recs.length ≤ 1099511627776) (h0 : 0 ≤ k0) (hk : k0 + l.count ≤ 1152921504606846976) :
    Calls Tryz.prog 26 #[.agg l.cells.toArray, .int .i64 k0] w fun e w' => e = .returned (.int .i64 (k0 + l.count)) ∧ Below w.heap.size w w' := by
  obtain ⟨rs, s, a, c⟩ := l
  simp only [LogA.cells, LogA.own, LogA.count, LogA.mark] at *
  obtain ⟨W, hW, b0, hbW, hsW⟩ := boxes1 w [.slice a rs.length c, .int .i64 s] 26
  have c0 := b0.cell 0 _ rfl
  have C := heldRecS_any a c k0 rs W (ho.below hbW).reads h0 hk (by omega)
  have hnn : ¬ (k0 + (countRs rs : Int) < 0) := by omega
  clear hsW b0
  go_enter Tryz.func26, Tryz.ntmps26
  go_wp2_with fail
  rw [hW.out]
  clear hW
  refine C.mono ?_
  rintro e w1 ⟨rfl, rfl⟩
  go_wp2
  go_ret
  exact ⟨rfl, hbW⟩
/-- How many marks a log takes, by how long it is. -/
theorem countRs_bound (rs : List RecA) (m : Nat) (h : ∀ r ∈ rs, r.short m) : countRs rs ≤ rs.length * (10 + 7 * m) := by
  induction rs with
  | nil => simp [countRs]
  | cons x r ih =>
    have h1 := h x (by simp)
    have h2 := ih (fun y hy => h y (by simp [hy]))
    have hb := h1.bf
    have ha := h1.af
    have ht := h1.txs
    have hx : countRA x ≤ 10 + 7 * m := by simp only [countRA]; omega
    simp only [countRs, List.length_cons, Nat.add_mul, Nat.one_mul]
    omega
theorem count_short {t : LogA} (h : t.short 1048576) : 1 + (t.count : Int) ≤ 1152921504606846976 := by
  have h1 := countRs_bound t.recs 1048576 h.each
  have h2 := h.len
  have h3 : t.recs.length * (10 + 7 * 1048576) ≤ 1048576 * (10 + 7 * 1048576) := Nat.mul_le_mul_right _ h2
  have e : t.count = countRs t.recs := rfl
  rw [e]
  omega
end Go.Proofs.YtoboickdkednkaaGreatDoor

/- The walk of laws.FnExactAppend. -/
namespace Go.Proofs.YtoboickdkednkaaGreatDoor
open Go.RowKit

theorem lrec_info' (q : RecA) : (Tryz.prog.info? 52).map (·.size) = some q.cells.length := by show _ = some 15; kernel_rfl
theorem llog_info (q : LogA) : (Tryz.prog.info? 46).map (·.size) = some q.cells.length := by show _ = some 2; kernel_rfl
theorem log_rng {w : World} {B : Nat} {t : TypeId} (q : LogA) (b : Box w B q.cells t) : w.rangeAt B 0 q.cells := Box.range [] q.cells [] (by simpa using b)
theorem rec_rng' {w : World} {B : Nat} {t : TypeId} (q : RecA) (b : Box w B q.cells t) : w.rangeAt B 0 q.cells := Box.range [] q.cells [] (by simpa using b)
theorem count_mid {t : LogA} (h : t.short 1048576) : (t.count : Int) ≤ 10995116277760 := by
  have h1 := countRs_bound t.recs 1048576 h.each
  have h2 := h.len
  have h3 : t.recs.length * (10 + 7 * 1048576) ≤ 1048576 * (10 + 7 * 1048576) := Nat.mul_le_mul_right _ h2
  have e : t.count = countRs t.recs := rfl
  rw [e]
  omega
/-- A log that the answer is: this one, this number. -/
def LogAns (w w' : World) (RO : LogV) (RK : Int) (e : Ending) : Prop := ∃ t : LogA, e = .returned (.tuple #[.agg t.cells.toArray, .int .i64 RK]) ∧ Hid (t.v = RO) ∧ t.own w' w.heap.size w'.heap.size ∧ Below w.heap.size w w'
theorem append_short {t p : LogA} {r : RecA} (h : t.v = (appendOf p.v r.v).1) (hp : p.short 1048576) (hr : r.short 1048576) (hlen : t.recs.length ≤ 1048576) : t.short 1048576 := by
  refine ⟨hlen, fun x hx => ?_⟩
  have hm : x.v ∈ (appendOf p.v r.v).1.recs := by rw [← h]; exact List.mem_map.2 ⟨x, hx, rfl⟩
  unfold appendOf at hm
  split at hm
  · rcases List.mem_append.1 hm with hm | hm
    · obtain ⟨y, hy, ey⟩ := List.mem_map.1 hm
      exact short_of ey.symm (hp.each y hy)
    · have e := List.mem_singleton.1 hm
      have hs := short_at hr (p.v.recs.length + 1)
      exact short_of (r := r.at (p.v.recs.length + 1)) e hs
  · obtain ⟨y, hy, ey⟩ := List.mem_map.1 hm
    exact short_of ey.symm (hp.each y hy)
theorem append_len (p : LogA) (r : RecV) (hp : p.recs.length ≤ 1048576) : (appendOf p.v r).1.recs.length ≤ 1048576 := by
  unfold appendOf
  split
  · rename_i h
    have h1 := (okLog_yes h.1).1
    simp only [List.length_append, List.length_singleton]
    omega
  · rw [p.v_len]; exact hp

set_option maxHeartbeats 1000000 in
set_option maxRecDepth 100000 in
theorem markRec_wide (r : RecA) (lo hi : Nat) (k0 : Int) (w : World) (ho : r.own w lo hi) (hl : r.short 1099511627776) (h0 : 0 ≤ k0) (hk : k0 ≤ 21990232555520) :
    Calls Tryz.prog 25 #[.agg r.cells.toArray, .int .i64 k0] w fun e w' => e = .returned (.int .i64 (k0 + r.count)) ∧ (r.mark k0).own w' lo hi ∧ Touch r.blocks w w' := by
  obtain ⟨W, hW, b0, hbW, hsW⟩ := boxes1 w r.cells 39
  have hoW := ho.below hbW
  have hlw := ho.txs.2.1
  have hap := ho.apart
  have HC : Hid (r.count = r.bf.count + r.af.count + 3 * r.txs.length ∧ r.bf.count ≤ 2199023255552 ∧ r.af.count ≤ 2199023255552) := ⟨rfl, by have := hl.bf; simp only [SlotA.count]; omega, by have := hl.af; simp only [SlotA.count]; omega⟩
  have hbl : ∀ k ∈ r.blocks, k < w.heap.size := by
    intro k hk
    simp only [RecA.blocks, List.mem_append] at hk
    rcases hk with h | h | h
    · have := (SlotA.blocks_lt ho.bf k h).2; omega
    · have := (SlotA.blocks_lt ho.af k h).2; omega
    · have := (ho.txs.lt k (Option.mem_toList.1 h)).2; omega
  have hd1 : ∀ k ∈ r.bf.blocks, k ∉ r.af.blocks ∧ k ∉ (Value.slice r.aL r.txs.length r.cL).ownBlock.toList := by
    intro k hk
    have := (List.nodup_append.1 hap).2.2 k hk
    exact ⟨fun h => this k (List.mem_append.2 (.inl h)) rfl, fun h => this k (List.mem_append.2 (.inr h)) rfl⟩
  have hd2 : ∀ k ∈ r.af.blocks, k ∉ (Value.slice r.aL r.txs.length r.cL).ownBlock.toList := by
    intro k hk h
    exact (List.nodup_append.1 (List.nodup_append.1 hap).2.1).2.2 k hk k h rfl
  have C1 := markSlot_touch r.bf lo hi k0 W hoW.bf h0 hl.bf.1 hl.bf.2 (by omega)
  simp only [SlotA.cells] at C1
  have HB : Hid (∀ w', Touch r.blocks W w' → Box w' w.heap.size r.cells 39) := fun w' ht => b0.touch ht (fun h => by have := hbl _ h; omega)
  have hsub1 : ∀ k ∈ r.bf.blocks, k ∈ r.blocks := fun k hk => List.mem_append.2 (.inl hk)
  have hsub2 : ∀ k ∈ r.af.blocks, k ∈ r.blocks := fun k hk => List.mem_append.2 (.inr (List.mem_append.2 (.inl hk)))
  have hsub3 : ∀ k ∈ (Value.slice r.aL r.txs.length r.cL).ownBlock.toList, k ∈ r.blocks := fun k hk => List.mem_append.2 (.inr (List.mem_append.2 (.inr hk)))
  have HX : Hid (_ ∧ _ ∧ _ ∧ _ ∧ _) := ⟨hd1, hd2, hsub1, hsub2, hsub3⟩
  have HBW : Hid (Below w.heap.size w W) := hbW
  have HAP : Hid (r.blocks.Nodup) := hap
  have HL : Hid _ := hl
  clear hsW hbW hd1 hd2 hsub1 hsub2 hsub3 hbl hap hlw ho hl
  simp only [RecA.cells] at *
  go_enter Tryz.func25, Tryz.ntmps25
  go_wp2_with fail
  rw [hW.out]
  clear hW b0
  refine C1.mono ?_
  clear C1
  rintro e w1 ⟨rfl, ho1, ht1⟩
  have T1 : Touch r.blocks W w1 := ht1.mono HX.out.2.2.1
  have b1 := HB.out w1 T1
  have c9 := b1.cell 9 _ rfl
  have c10 := b1.cell 10 _ rfl
  have c11 := b1.cell 11 _ rfl
  have c12 := b1.cell 12 _ rfl
  have hoA1 := SlotA.touch hoW.af ht1 (fun k hk h => (HX.out.1 k h).1 hk)
  have hoL1 := hoW.txs.touch ht1 (fun k hk h => (HX.out.1 k h).2 (Option.mem_toList.2 hk))
  have C2 := markSlot_touch r.af lo hi (k0 + r.bf.count) w1 hoA1 (by omega) HL.out.af.1 HL.out.af.2 (by have := HC.out.2.1; omega)
  simp only [SlotA.cells] at C2
  clear b1 ht1 hoA1
  go_wp2_with fail
  refine C2.mono ?_
  clear C2 c9 c10 c11 c12
  rintro e w2 ⟨rfl, ho2, ht2⟩
  have T2 : Touch r.blocks W w2 := T1.trans (ht2.mono HX.out.2.2.2.1)
  have b2 := HB.out w2 T2
  have c14 := b2.cell 14 _ rfl
  have hoB2 := SlotA.touch ho1 ht2 (fun k hk h => by rw [mark_blocks] at hk; exact (HX.out.1 k hk).1 h)
  have hoL2 := hoL1.touch ht2 (fun k hk h => HX.out.2.1 k h (Option.mem_toList.2 hk))
  have C3 := markLiveS_own lo hi r.aL r.cL (k0 + r.bf.count + r.af.count) r.txs w2 hoL2 (by omega) (by have := HC.out.2; have := HL.out.txs; omega)
  clear b2 ht2 hoL1 ho1 T1 hoL2
  go_wp2_with fail
  refine C3.mono ?_
  clear C3 c14
  rintro e w3 ⟨rfl, ho3, ht3⟩
  have T3 : Touch r.blocks W w3 := T2.trans (ht3.mono HX.out.2.2.2.2)
  have hoB3 := SlotA.touch hoB2 ht3 (fun k hk h => by rw [mark_blocks] at hk; exact (HX.out.1 k hk).2 h)
  have hoA3 := SlotA.touch ho2 ht3 (fun k hk h => by rw [mark_blocks] at hk; exact HX.out.2.1 k hk h)
  clear hoB2 ho2 ht3 T2
  go_wp2
  go_ret
  refine ⟨ret_int (by have := HC.out.1; omega), ⟨hoB3, hoA3, ?_, ?_⟩, (Touch.of_below HBW.out).trans T3⟩
  · exact ho3
  · rw [markR_blocks]; exact HAP.out

set_option maxHeartbeats 8000000 in
set_option maxRecDepth 100000 in
theorem lawAppend_walk (p : LogA) (r : RecA) (w : World) (hg : ErrT w) (hinP : InLog w p) (hin : InRec w r) :
    Calls Tryz.prog 5 #[.agg p.cells.toArray, .agg r.cells.toArray] w fun e w' => e = .returned (.bool true) ∧ Below w.heap.size w w' := by
  obtain ⟨W, hW, bx2, bx3, hbW, hsW⟩ := boxes2 w p.cells r.cells 46 52
  have hsm : p.short 9223372036854775807 := hinP.short
  have hrd : p.reads w := hinP.reads
  have hRp : ∀ u, Below W.heap.size W u → p.reads u := fun u hh => hrd.below (hbW.trans (hh.mono hbW.size))
  have hRd : ∀ u, Below W.heap.size W u → r.reads u := fun u hh => hin.reads.below (hbW.trans (hh.mono hbW.size))
  have hgB : ∀ u, Below W.heap.size W u → ErrT u := fun u hh => hg.keep (hbW.trans (hh.mono hbW.size))
  have BW : Below W.heap.size W W := Below.refl _ _
  have HSH : Hid (_) := hin.short
  have HSP : Hid (∀ (ts : LogA) (u : RecA) (x : World) {l1 h1 l2 h2 : Nat}, ts.v = p.v → u.v = r.v → ts.own x l1 h1 → ts.short 1048576 → u.own x l2 h2 → u.short 1099511627776 → Calls Tryz.prog 16 #[.agg ts.cells.toArray, .agg u.cells.toArray] x fun e x' => LogAns x x' (appendOf p.v r.v).1 (appendOf p.v r.v).2 e) := fun ts u x l1 h1' l2 h2' h1 h2 a b c d => by
    refine (specAppend_any ts u x a.reads b (OwnRs.caps a) c.reads d c.txs.nocap).mono ?_
    rintro e x' ⟨t, n, rfl, hv, ho, hb⟩
    rw [h1, h2] at hv
    exact ⟨t, by rw [← hv.out], by rw [Hid, ← hv.out], ho, hb⟩
  have HIM : Hid (∀ (ts : LogA) (u : RecA) (x : World) {l1 h1 l2 h2 : Nat}, ErrT x → ts.v = p.v → u.v = r.v → ts.own x l1 h1 → ts.short 1048576 → u.own x l2 h2 → u.short 1099511627776 → Calls Tryz.prog 15 #[.agg ts.cells.toArray, .agg u.cells.toArray] x fun e x' => LogAns x x' (appendOf p.v r.v).1 (appendOf p.v r.v).2 e) := fun ts u x l1 h1' l2 h2' g h1 h2 a b c d => by
    refine (implAppend_any ts u x g a.reads b (OwnRs.caps a) c.reads d c.txs.nocap).mono ?_
    rintro e x' ⟨t, n, rfl, hv, ho, hb⟩
    rw [h1, h2] at hv
    exact ⟨t, by rw [← hv.out], by rw [Hid, ← hv.out], ho, hb⟩
  have HSM : Hid ((r.short 1048576) → p.short 1048576 → ∀ ts : LogA, ts.v = (appendOf p.v r.v).1 → ts.short 1048576) := fun h1 h2 ts h3 => append_short h3 h2 h1 (by have := append_len p r.v h2.len; rw [← h3, ts.v_len] at this; exact this)
  generalize (appendOf p.v r.v).1 = RO at *
  generalize (appendOf p.v r.v).2 = RK at *
  have hW0 := bx3.lt
  clear hsW hin hinP
  go_enter Tryz.func5, Tryz.ntmps5
  go_wp2_with (first | (guard_target = wpList _ _ _ (Oper.mk (some 17) _ _ _ _ _ :: _) _ _; refine wpList_load_mid rfl 46 (.tmp 2) rfl w.heap.size 0 rfl p.cells _ (by rw [hW.out]; exact log_rng p bx2) Tryz.underlying46 rfl (llog_info p) ?_) | fail)
  rw [hW.out]
  clear hW
  refine (szLog_any p 1048576 W (hRp W BW) hsm (by omega)).mono ?_
  rintro e w1 ⟨z, rfl, hz, hb1⟩
  replace bx2 := bx2.below hb1 bx2.lt
  replace bx3 := bx3.below hb1 bx3.lt
  replace BW := BW.trans (hb1.mono BW.size)
  have s1 := hb1.size
  rcases hz with hneg | ⟨hz0, hzl, hl⟩
  · go_wp2
    go_ret
    exact ⟨rfl, hbW.trans (BW.mono hbW.size)⟩
  have hzn : ¬ z < 0 := by omega
  go_wp2_with (first | (guard_target = wpList _ _ _ (Oper.mk (some 22) _ _ _ _ _ :: _) _ _; refine wpList_load_mid rfl 52 (.tmp 3) rfl (w.heap.size + 1) 0 rfl r.cells _ (rec_rng' r bx3) Tryz.underlying52 rfl (lrec_info' _) ?_) | fail)
  refine (szRec_any r z w1 HSH.out (by omega)).mono ?_
  rintro e w2 ⟨z2, rfl, hz2, hb2⟩
  replace bx2 := bx2.below hb2 bx2.lt
  replace bx3 := bx3.below hb2 bx3.lt
  replace BW := BW.trans (hb2.mono BW.size)
  have s2 := hb2.size
  rcases hz2 with hneg | ⟨hz20, _, hlr⟩
  · go_wp2
    go_ret
    exact ⟨rfl, hbW.trans (BW.mono hbW.size)⟩
  have hzn2 : ¬ z2 < 0 := by omega
  have HU : Hid (_ ∧ _) := ⟨Tryz.underlying46, Tryz.underlying52⟩
  have HRG : Hid (∀ u, Below w2.heap.size w2 u → u.rangeAt w.heap.size 0 p.cells ∧ u.rangeAt (w.heap.size + 1) 0 r.cells) := fun u hu => ⟨log_rng p (bx2.below hu bx2.lt), rec_rng' r (bx3.below hu bx3.lt)⟩
  go_upto_region 8 with fail
  go_cut [6, 7] from 17 (fun a b wx => ∃ (Bx : Nat) (aw : LogA), a = .pointer (some ⟨Bx, 0, none⟩) ∧ b = .int .i64 RK ∧ Hid (aw.v = RO) ∧ Box wx Bx (LogA.cells aw) 26 ∧ LogA.own wx w2.heap.size wx.heap.size aw ∧ Below w2.heap.size w2 wx)
  case first =>
    have hu1 := HU.out.1
    have hu2 := HU.out.2
    have hi1 := llog_info p
    have hi2 := lrec_info' r
    have D0 : Below w2.heap.size w2 w2.drew := (Below.refl _ _).drew
    refine wp_region_held_drew (S := fun w' => w'.rangeAt w.heap.size 0 p.cells ∧ w'.rangeAt (w.heap.size + 1) 0 r.cells) (by kernel_rfl) (HRG.out _ D0) (fun hHeld => ?_)
    refine wpAnyH_take (i := 0) rfl (by kernel_rfl) (by kernel_rfl) (by kernel_rfl) (fun _ _ _ h => h) (yieldsIf_load_mid (by rfl) _ _ rfl _ _ rfl p.cells _ (fun _ h => h.1) hu1 rfl hi1) hHeld ?_
    go_simp
    refine wpAnyH_take (i := 2) rfl (by kernel_rfl) (by kernel_rfl) (by kernel_rfl) (fun _ _ _ h => h) (yieldsIf_load_mid (by rfl) _ _ rfl _ _ rfl r.cells _ (fun _ h => h.2) hu2 rfl hi2) hHeld ?_
    go_simp
    generalize hD : w2.drew = d0 at *
    refine wpAnyH_ready (rs := [1, 8]) (by kernel_rfl) (by simp) ?_
    refine AllReadyH.cons rfl (fun K hK => ?_) (AllReadyH.cons rfl (fun K hK => ?_) AllReadyH.nil)
    focus
      go_simp
      refine (toLog_any p _ (hRp _ (BW.trans (D0.mono BW.size))) hl).mono ?_
      rintro e d0a ⟨ts, rfl, hvt, hot, hba⟩
      have D0a : Below w2.heap.size w2 d0a := D0.trans (hba.mono D0.size)
      have z0 := hba.size
      refine hK.out _ _ (HRG.out _ D0a) (fun hHeld => ?_)
      clear hK K
      refine wpAnyH_ready (rs := [3, 8]) (by kernel_rfl) (by simp) ?_
      refine AllReadyH.cons rfl (fun K hK => ?_) (AllReadyH.cons rfl (fun K hK => ?_) AllReadyH.nil)
      focus
        go_simp
        refine (toRec_law r _ (hRd _ (BW.trans (D0a.mono BW.size))) hlr).mono ?_
        rintro e d0ab ⟨uu, rfl, hvu, hou, hbb⟩
        have D0ab : Below w2.heap.size w2 d0ab := D0a.trans (hbb.mono D0a.size)
        replace hot := hot.below hbb
        have z1 := hbb.size
        refine hK.out _ _ (HRG.out _ D0ab) (fun hHeld => ?_)
        clear hK K
        refine wpAnyH_ready (rs := [4, 8]) (by kernel_rfl) (by simp) ?_
        refine AllReadyH.cons rfl (fun K hK => ?_) (AllReadyH.cons rfl (fun K hK => ?_) AllReadyH.nil)
        focus
          go_simp
          refine (HSP.out ts uu _ hvt.out hvu.out hot (LogA.short_of hvt.out hl) hou (short_wide (short_of hvu.out hlr))).mono ?_
          rintro e d0abc ⟨aw, rfl, hva, hoa, hbc⟩
          have hoaN := hoa
          have D0abc : Below w2.heap.size w2 d0abc := D0ab.trans (hbc.mono D0ab.size)
          replace hoa : LogA.own d0abc w2.heap.size d0abc.heap.size aw := hoa.widen D0ab.size (Nat.le_refl _) (Nat.le_refl _)
          have z2 := hbc.size
          refine hK.out _ _ (HRG.out _ D0abc) (fun hHeld => ?_)
          clear hK K
          refine wpAnyH_take (i := 5) (v := .tuple #[.agg (LogA.cells aw).toArray, .int .i64 RK]) rfl (by kernel_rfl) (by kernel_rfl) (by kernel_rfl) (fun _ _ _ h => h) (Or.inl ⟨by rfl, fun w' _ => ?_⟩) hHeld ?_
          · go_simp
          go_simp
          refine wpAnyH_take (i := 6) (v := .agg (LogA.cells aw).toArray) rfl (by kernel_rfl) (by kernel_rfl) (by kernel_rfl) (fun _ _ _ h => h) (Or.inl ⟨by rfl, fun w' _ => ?_⟩) hHeld ?_
          · go_simp
          go_simp
          refine wpAnyH_take (i := 7) (v := .int .i64 RK) rfl (by kernel_rfl) (by kernel_rfl) (by kernel_rfl) (fun _ _ _ h => h) (Or.inl ⟨by rfl, fun w' _ => ?_⟩) hHeld ?_
          · go_simp
          go_simp
          refine wpAnyH_ready (rs := [8]) (by kernel_rfl) (by simp) ?_
          refine AllReadyH.cons rfl (fun K hK => ?_) AllReadyH.nil
          go_simp
          obtain ⟨WA, hWA, bA0, hbA, _⟩ := boxes1 d0abc [.slice none 0 0, .int .i64 0] 26
          rw [hWA.out]
          have bA : Box WA d0abc.heap.size [.slice none 0 0, .int .i64 0] 26 := bA0
          have D0abcz : Below w2.heap.size w2 WA := D0abc.trans (hbA.mono D0abc.size)
          replace hoa : LogA.own WA w2.heap.size d0abc.heap.size aw := hoa.below hbA
          have hlast : d0abc.heap.size ≤ WA.heap.size := hbA.size
          refine hK.out _ _ (HRG.out _ D0abcz) (fun hHeld => ?_)
          clear hK K hWA bA0
          obtain ⟨WF, hWF, hwF, hsF, HTF, _, bF⟩ := log_out aw _ rfl bA
          have hltA := bA.lt
          have zD := D0abcz.size
          have zp2 := D0.size
          have zp3 := D0a.size
          have zp4 := D0ab.size
          have zp5 := D0abc.size
          have oF : LogA.own WF w2.heap.size WF.heap.size aw := (hoa.within hwF (by omega)).widen (Nat.le_refl _) (by omega) (Nat.le_refl _)
          have DF : Below w2.heap.size w2 WF := D0abcz.trans (hwF.below (by omega) (by omega))
          refine wpAnyH_ready (rs := [9]) (by kernel_rfl) (by simp) ?_
          refine AllReadyH.cons rfl (fun K hK => ?_) AllReadyH.nil
          rw [if_pos (by rfl)]
          refine wp_store_mid 26 (.tmp 6) (.tmp 33) rfl d0abc.heap.size 0 (LogA.cells aw).toArray rfl rfl HTF.out (by rw [List.size_toArray]; exact log_info _) (log_one _) ?_
          have HW : Hid ((WA).setCells d0abc.heap.size 0 (LogA.cells aw).toArray.toList = WF) := hWF.out
          rw [HW.out]
          refine hK.out _ _ (HRG.out _ DF) (fun hHeld => ?_)
          clear hK K HW hWF HTF hwF
          simp only [Act.put, List.getElem_toArray, List.getElem_cons_zero, List.getElem_cons_succ]
          refine wpAnyH_take (i := 10) (v := .int .i64 RK) rfl (by kernel_rfl) (by kernel_rfl) (by kernel_rfl) (fun _ _ _ h => h) (Or.inl ⟨by rfl, fun w' _ => ?_⟩) hHeld ?_
          · go_simp
          go_simp
          refine wpAnyH_done (by kernel_rfl) ?_ _
          clear hHeld
          go_wp2_with fail
          go_meet
          case rel => exact ⟨d0abc.heap.size, aw, rfl, rfl, hva, bF, oF, DF⟩
        focus
          go_simp
          obtain ⟨WA, hWA, bA0, hbA, _⟩ := boxes1 d0ab [.slice none 0 0, .int .i64 0] 26
          rw [hWA.out]
          have bA : Box WA d0ab.heap.size [.slice none 0 0, .int .i64 0] 26 := bA0
          have zA := hbA.size
          have hltA0 := bA.lt
          have D0abz : Below w2.heap.size w2 WA := D0ab.trans (hbA.mono D0ab.size)
          replace hot := hot.below hbA
          replace hou := hou.below hbA
          refine hK.out _ _ (HRG.out _ D0abz) (fun hHeld => ?_)
          clear hK K hWA bA0
          refine wpAnyH_ready (rs := [4]) (by kernel_rfl) (by simp) ?_
          refine AllReadyH.cons rfl (fun K hK => ?_) AllReadyH.nil
          go_simp
          refine (HSP.out ts uu _ hvt.out hvu.out hot (LogA.short_of hvt.out hl) hou (short_wide (short_of hvu.out hlr))).mono ?_
          rintro e WAc ⟨aw, rfl, hva, hoa, hbc⟩
          have hoaN := hoa
          have D0abzc : Below w2.heap.size w2 WAc := D0abz.trans (hbc.mono D0abz.size)
          replace hoa : LogA.own WAc w2.heap.size WAc.heap.size aw := hoa.widen D0abz.size (Nat.le_refl _) (Nat.le_refl _)
          replace bA := bA.below hbc bA.lt
          have z2 := hbc.size
          refine hK.out _ _ (HRG.out _ D0abzc) (fun hHeld => ?_)
          clear hK K
          refine wpAnyH_take (i := 5) (v := .tuple #[.agg (LogA.cells aw).toArray, .int .i64 RK]) rfl (by kernel_rfl) (by kernel_rfl) (by kernel_rfl) (fun _ _ _ h => h) (Or.inl ⟨by rfl, fun w' _ => ?_⟩) hHeld ?_
          · go_simp
          go_simp
          refine wpAnyH_take (i := 6) (v := .agg (LogA.cells aw).toArray) rfl (by kernel_rfl) (by kernel_rfl) (by kernel_rfl) (fun _ _ _ h => h) (Or.inl ⟨by rfl, fun w' _ => ?_⟩) hHeld ?_
          · go_simp
          go_simp
          refine wpAnyH_take (i := 7) (v := .int .i64 RK) rfl (by kernel_rfl) (by kernel_rfl) (by kernel_rfl) (fun _ _ _ h => h) (Or.inl ⟨by rfl, fun w' _ => ?_⟩) hHeld ?_
          · go_simp
          go_simp
          have hlast : WAc.heap.size ≤ WAc.heap.size := Nat.le_refl _
          obtain ⟨WF, hWF, hwF, hsF, HTF, _, bF⟩ := log_out aw _ rfl bA
          have hltA := bA.lt
          have zD := D0abzc.size
          have zp2 := D0.size
          have zp3 := D0a.size
          have zp4 := D0ab.size
          have zp5 := D0abz.size
          have oF : LogA.own WF w2.heap.size WF.heap.size aw := (hoaN.within hwF (by omega)).widen (by omega) (by omega) (Nat.le_refl _)
          have DF : Below w2.heap.size w2 WF := D0abzc.trans (hwF.below (by omega) (by omega))
          refine wpAnyH_ready (rs := [9]) (by kernel_rfl) (by simp) ?_
          refine AllReadyH.cons rfl (fun K hK => ?_) AllReadyH.nil
          rw [if_pos (by rfl)]
          refine wp_store_mid 26 (.tmp 6) (.tmp 33) rfl d0ab.heap.size 0 (LogA.cells aw).toArray rfl rfl HTF.out (by rw [List.size_toArray]; exact log_info _) (log_one _) ?_
          have HW : Hid ((WAc).setCells d0ab.heap.size 0 (LogA.cells aw).toArray.toList = WF) := hWF.out
          rw [HW.out]
          refine hK.out _ _ (HRG.out _ DF) (fun hHeld => ?_)
          clear hK K HW hWF HTF hwF
          simp only [Act.put, List.getElem_toArray, List.getElem_cons_zero, List.getElem_cons_succ]
          refine wpAnyH_take (i := 10) (v := .int .i64 RK) rfl (by kernel_rfl) (by kernel_rfl) (by kernel_rfl) (fun _ _ _ h => h) (Or.inl ⟨by rfl, fun w' _ => ?_⟩) hHeld ?_
          · go_simp
          go_simp
          refine wpAnyH_done (by kernel_rfl) ?_ _
          clear hHeld
          go_wp2_with fail
          go_meet
          case rel => exact ⟨d0ab.heap.size, aw, rfl, rfl, hva, bF, oF, DF⟩
      focus
        go_simp
        obtain ⟨WA, hWA, bA0, hbA, _⟩ := boxes1 d0a [.slice none 0 0, .int .i64 0] 26
        rw [hWA.out]
        have bA : Box WA d0a.heap.size [.slice none 0 0, .int .i64 0] 26 := bA0
        have zA := hbA.size
        have hltA0 := bA.lt
        have D0az : Below w2.heap.size w2 WA := D0a.trans (hbA.mono D0a.size)
        replace hot := hot.below hbA
        refine hK.out _ _ (HRG.out _ D0az) (fun hHeld => ?_)
        clear hK K hWA bA0
        refine wpAnyH_ready (rs := [3]) (by kernel_rfl) (by simp) ?_
        refine AllReadyH.cons rfl (fun K hK => ?_) AllReadyH.nil
        go_simp
        refine (toRec_law r _ (hRd _ (BW.trans (D0az.mono BW.size))) hlr).mono ?_
        rintro e WAb ⟨uu, rfl, hvu, hou, hbb⟩
        have D0azb : Below w2.heap.size w2 WAb := D0az.trans (hbb.mono D0az.size)
        replace hot := hot.below hbb
        replace bA := bA.below hbb bA.lt
        have z1 := hbb.size
        refine hK.out _ _ (HRG.out _ D0azb) (fun hHeld => ?_)
        clear hK K
        refine wpAnyH_ready (rs := [4]) (by kernel_rfl) (by simp) ?_
        refine AllReadyH.cons rfl (fun K hK => ?_) AllReadyH.nil
        go_simp
        refine (HSP.out ts uu _ hvt.out hvu.out hot (LogA.short_of hvt.out hl) hou (short_wide (short_of hvu.out hlr))).mono ?_
        rintro e WAbc ⟨aw, rfl, hva, hoa, hbc⟩
        have hoaN := hoa
        have D0azbc : Below w2.heap.size w2 WAbc := D0azb.trans (hbc.mono D0azb.size)
        replace hoa : LogA.own WAbc w2.heap.size WAbc.heap.size aw := hoa.widen D0azb.size (Nat.le_refl _) (Nat.le_refl _)
        replace bA := bA.below hbc bA.lt
        have z2 := hbc.size
        refine hK.out _ _ (HRG.out _ D0azbc) (fun hHeld => ?_)
        clear hK K
        refine wpAnyH_take (i := 5) (v := .tuple #[.agg (LogA.cells aw).toArray, .int .i64 RK]) rfl (by kernel_rfl) (by kernel_rfl) (by kernel_rfl) (fun _ _ _ h => h) (Or.inl ⟨by rfl, fun w' _ => ?_⟩) hHeld ?_
        · go_simp
        go_simp
        refine wpAnyH_take (i := 6) (v := .agg (LogA.cells aw).toArray) rfl (by kernel_rfl) (by kernel_rfl) (by kernel_rfl) (fun _ _ _ h => h) (Or.inl ⟨by rfl, fun w' _ => ?_⟩) hHeld ?_
        · go_simp
        go_simp
        refine wpAnyH_take (i := 7) (v := .int .i64 RK) rfl (by kernel_rfl) (by kernel_rfl) (by kernel_rfl) (fun _ _ _ h => h) (Or.inl ⟨by rfl, fun w' _ => ?_⟩) hHeld ?_
        · go_simp
        go_simp
        have hlast : WAbc.heap.size ≤ WAbc.heap.size := Nat.le_refl _
        obtain ⟨WF, hWF, hwF, hsF, HTF, _, bF⟩ := log_out aw _ rfl bA
        have hltA := bA.lt
        have zD := D0azbc.size
        have zp2 := D0.size
        have zp3 := D0a.size
        have zp4 := D0az.size
        have zp5 := D0azb.size
        have oF : LogA.own WF w2.heap.size WF.heap.size aw := (hoaN.within hwF (by omega)).widen (by omega) (by omega) (Nat.le_refl _)
        have DF : Below w2.heap.size w2 WF := D0azbc.trans (hwF.below (by omega) (by omega))
        refine wpAnyH_ready (rs := [9]) (by kernel_rfl) (by simp) ?_
        refine AllReadyH.cons rfl (fun K hK => ?_) AllReadyH.nil
        rw [if_pos (by rfl)]
        refine wp_store_mid 26 (.tmp 6) (.tmp 33) rfl d0a.heap.size 0 (LogA.cells aw).toArray rfl rfl HTF.out (by rw [List.size_toArray]; exact log_info _) (log_one _) ?_
        have HW : Hid ((WAbc).setCells d0a.heap.size 0 (LogA.cells aw).toArray.toList = WF) := hWF.out
        rw [HW.out]
        refine hK.out _ _ (HRG.out _ DF) (fun hHeld => ?_)
        clear hK K HW hWF HTF hwF
        simp only [Act.put, List.getElem_toArray, List.getElem_cons_zero, List.getElem_cons_succ]
        refine wpAnyH_take (i := 10) (v := .int .i64 RK) rfl (by kernel_rfl) (by kernel_rfl) (by kernel_rfl) (fun _ _ _ h => h) (Or.inl ⟨by rfl, fun w' _ => ?_⟩) hHeld ?_
        · go_simp
        go_simp
        refine wpAnyH_done (by kernel_rfl) ?_ _
        clear hHeld
        go_wp2_with fail
        go_meet
        case rel => exact ⟨d0a.heap.size, aw, rfl, rfl, hva, bF, oF, DF⟩
    focus
      go_simp
      obtain ⟨WA, hWA, bA0, hbA, _⟩ := boxes1 d0 [.slice none 0 0, .int .i64 0] 26
      rw [hWA.out]
      have bA : Box WA d0.heap.size [.slice none 0 0, .int .i64 0] 26 := bA0
      have zA := hbA.size
      have hltA0 := bA.lt
      have D0z : Below w2.heap.size w2 WA := D0.trans (hbA.mono D0.size)
      refine hK.out _ _ (HRG.out _ D0z) (fun hHeld => ?_)
      clear hK K hWA bA0
      refine wpAnyH_ready (rs := [1]) (by kernel_rfl) (by simp) ?_
      refine AllReadyH.cons rfl (fun K hK => ?_) AllReadyH.nil
      go_simp
      refine (toLog_any p _ (hRp _ (BW.trans (D0z.mono BW.size))) hl).mono ?_
      rintro e WAa ⟨ts, rfl, hvt, hot, hba⟩
      have D0za : Below w2.heap.size w2 WAa := D0z.trans (hba.mono D0z.size)
      replace bA := bA.below hba bA.lt
      have z0 := hba.size
      refine hK.out _ _ (HRG.out _ D0za) (fun hHeld => ?_)
      clear hK K
      refine wpAnyH_ready (rs := [3]) (by kernel_rfl) (by simp) ?_
      refine AllReadyH.cons rfl (fun K hK => ?_) AllReadyH.nil
      go_simp
      refine (toRec_law r _ (hRd _ (BW.trans (D0za.mono BW.size))) hlr).mono ?_
      rintro e WAab ⟨uu, rfl, hvu, hou, hbb⟩
      have D0zab : Below w2.heap.size w2 WAab := D0za.trans (hbb.mono D0za.size)
      replace hot := hot.below hbb
      replace bA := bA.below hbb bA.lt
      have z1 := hbb.size
      refine hK.out _ _ (HRG.out _ D0zab) (fun hHeld => ?_)
      clear hK K
      refine wpAnyH_ready (rs := [4]) (by kernel_rfl) (by simp) ?_
      refine AllReadyH.cons rfl (fun K hK => ?_) AllReadyH.nil
      go_simp
      refine (HSP.out ts uu _ hvt.out hvu.out hot (LogA.short_of hvt.out hl) hou (short_wide (short_of hvu.out hlr))).mono ?_
      rintro e WAabc ⟨aw, rfl, hva, hoa, hbc⟩
      have hoaN := hoa
      have D0zabc : Below w2.heap.size w2 WAabc := D0zab.trans (hbc.mono D0zab.size)
      replace hoa : LogA.own WAabc w2.heap.size WAabc.heap.size aw := hoa.widen D0zab.size (Nat.le_refl _) (Nat.le_refl _)
      replace bA := bA.below hbc bA.lt
      have z2 := hbc.size
      refine hK.out _ _ (HRG.out _ D0zabc) (fun hHeld => ?_)
      clear hK K
      refine wpAnyH_take (i := 5) (v := .tuple #[.agg (LogA.cells aw).toArray, .int .i64 RK]) rfl (by kernel_rfl) (by kernel_rfl) (by kernel_rfl) (fun _ _ _ h => h) (Or.inl ⟨by rfl, fun w' _ => ?_⟩) hHeld ?_
      · go_simp
      go_simp
      refine wpAnyH_take (i := 6) (v := .agg (LogA.cells aw).toArray) rfl (by kernel_rfl) (by kernel_rfl) (by kernel_rfl) (fun _ _ _ h => h) (Or.inl ⟨by rfl, fun w' _ => ?_⟩) hHeld ?_
      · go_simp
      go_simp
      refine wpAnyH_take (i := 7) (v := .int .i64 RK) rfl (by kernel_rfl) (by kernel_rfl) (by kernel_rfl) (fun _ _ _ h => h) (Or.inl ⟨by rfl, fun w' _ => ?_⟩) hHeld ?_
      · go_simp
      go_simp
      have hlast : WAabc.heap.size ≤ WAabc.heap.size := Nat.le_refl _
      obtain ⟨WF, hWF, hwF, hsF, HTF, _, bF⟩ := log_out aw _ rfl bA
      have hltA := bA.lt
      have zD := D0zabc.size
      have zp2 := D0.size
      have zp3 := D0z.size
      have zp4 := D0za.size
      have zp5 := D0zab.size
      have oF : LogA.own WF w2.heap.size WF.heap.size aw := (hoaN.within hwF (by omega)).widen (by omega) (by omega) (Nat.le_refl _)
      have DF : Below w2.heap.size w2 WF := D0zabc.trans (hwF.below (by omega) (by omega))
      refine wpAnyH_ready (rs := [9]) (by kernel_rfl) (by simp) ?_
      refine AllReadyH.cons rfl (fun K hK => ?_) AllReadyH.nil
      rw [if_pos (by rfl)]
      refine wp_store_mid 26 (.tmp 6) (.tmp 33) rfl d0.heap.size 0 (LogA.cells aw).toArray rfl rfl HTF.out (by rw [List.size_toArray]; exact log_info _) (log_one _) ?_
      have HW : Hid ((WAabc).setCells d0.heap.size 0 (LogA.cells aw).toArray.toList = WF) := hWF.out
      rw [HW.out]
      refine hK.out _ _ (HRG.out _ DF) (fun hHeld => ?_)
      clear hK K HW hWF HTF hwF
      simp only [Act.put, List.getElem_toArray, List.getElem_cons_zero, List.getElem_cons_succ]
      refine wpAnyH_take (i := 10) (v := .int .i64 RK) rfl (by kernel_rfl) (by kernel_rfl) (by kernel_rfl) (fun _ _ _ h => h) (Or.inl ⟨by rfl, fun w' _ => ?_⟩) hHeld ?_
      · go_simp
      go_simp
      refine wpAnyH_done (by kernel_rfl) ?_ _
      clear hHeld
      go_wp2_with fail
      go_meet
      case rel => exact ⟨d0.heap.size, aw, rfl, rfl, hva, bF, oF, DF⟩
  case rest =>
    obtain ⟨B6, tw, rfl, rfl, HVW, bx6, ow, hb3⟩ := hcut
    generalize wc = w3 at *
    replace bx2 := bx2.below hb3 bx2.lt
    replace bx3 := bx3.below hb3 bx3.lt
    replace BW := BW.trans (hb3.mono BW.size)
    have s3 := hb3.size
    have l6 := bx6.lt
    clear HRG
    go_wp2_with (first | (guard_target = wpList _ _ _ (Oper.mk (some 35) _ _ _ _ _ :: _) _ _; refine wpList_load_mid rfl 46 (.tmp 2) rfl w.heap.size 0 rfl p.cells _ (log_rng p bx2) Tryz.underlying46 rfl (llog_info p) ?_) | fail)
    refine (toLog_any p w3 (hRp _ BW) hl).mono ?_
    rintro e w4 ⟨qs, rfl, hvq, oq, hb4⟩
    have hqS := LogA.short_of hvq.out hl
    replace bx2 := bx2.below hb4 bx2.lt
    replace bx3 := bx3.below hb4 bx3.lt
    replace bx6 := bx6.below hb4 bx6.lt
    replace ow := ow.below hb4
    replace BW := BW.trans (hb4.mono BW.size)
    have s4 := hb4.size
    obtain ⟨Zw5, hZw5, bZw50, hbZw5, _⟩ := boxes1 w4 [.slice none 0 0, .int .i64 0] 26
    have bZw5 : Box Zw5 w4.heap.size [.slice none 0 0, .int .i64 0] 26 := bZw50
    obtain ⟨w5, hSw5, hww5, hzw5, HTw5, _, bx8⟩ := log_out qs _ rfl bZw5
    clear bZw50
    have hbw5 : Below w4.heap.size w4 w5 := hbZw5.trans (hww5.below (Nat.le_refl _) (by have := hbZw5.size; omega))
    clear bZw5 hbZw5 hww5 hzw5
    replace bx2 := bx2.below hbw5 bx2.lt
    replace bx3 := bx3.below hbw5 bx3.lt
    replace bx6 := bx6.below hbw5 bx6.lt
    replace ow := ow.below hbw5
    replace oq := oq.below hbw5
    replace BW := BW.trans (hbw5.mono BW.size)
    have sw5 := hbw5.size
    have lw5 := bx8.lt
    go_wp2_with (first | (guard_target = wpList _ _ _ (Oper.mk none (Op.store _ (Operand.tmp 8) _) _ _ _ _ :: _) _ _; refine wpList_store_mid rfl 26 (.tmp 8) (.tmp 36) rfl w4.heap.size 0 (LogA.cells qs).toArray rfl rfl (by rw [hZw5.out]; exact HTw5.out) (by rw [List.size_toArray]; exact log_info _) (log_one _) ?_) | (guard_target = wpList _ _ _ (Oper.mk (some 37) _ _ _ _ _ :: _) _ _; refine wpList_load_mid rfl 52 (.tmp 3) rfl (w.heap.size + 1) 0 rfl r.cells _ (by rw [hZw5.out, hSw5.out]; exact rec_rng' r bx3) Tryz.underlying52 rfl (lrec_info' _) ?_) | fail)
    rw [hZw5.out, hSw5.out]
    clear hZw5 hSw5 HTw5
    refine (toRec_law r w5 (hRd _ BW) hlr).mono ?_
    rintro e w6 ⟨u, rfl, hvu, ou, hb6⟩
    have huS := short_of hvu.out hlr
    replace bx2 := bx2.below hb6 bx2.lt
    replace bx3 := bx3.below hb6 bx3.lt
    replace bx6 := bx6.below hb6 bx6.lt
    replace bx8 := bx8.below hb6 bx8.lt
    replace ow := ow.below hb6
    replace oq := oq.below hb6
    replace BW := BW.trans (hb6.mono BW.size)
    have s6 := hb6.size
    obtain ⟨Zw7, hZw7, bZw7, hbZw7, _⟩ := boxes1 w6 [.int .i64 0, .int .i64 0, .int .i64 0, .int .i64 0, .int .i64 0, .bool false, .int .i64 0, .slice none 0 0, .slice none 0 0, .bool false, .int .i64 0, .slice none 0 0, .slice none 0 0, .int .i64 0, .slice none 0 0] 39
    obtain ⟨w7, hSw7, hww7, hzw7, HTw7, _, bx9⟩ := rec_out u [.int .i64 0, .int .i64 0, .int .i64 0, .int .i64 0, .int .i64 0, .bool false, .int .i64 0, .slice none 0 0, .slice none 0 0, .bool false, .int .i64 0, .slice none 0 0, .slice none 0 0, .int .i64 0, .slice none 0 0] rfl bZw7
    have hbw7 : Below w6.heap.size w6 w7 := hbZw7.trans (hww7.below (Nat.le_refl _) (by have := hbZw7.size; omega))
    clear bZw7 hbZw7 hww7 hzw7
    replace bx2 := bx2.below hbw7 bx2.lt
    replace bx3 := bx3.below hbw7 bx3.lt
    replace bx6 := bx6.below hbw7 bx6.lt
    replace bx8 := bx8.below hbw7 bx8.lt
    replace ow := ow.below hbw7
    replace oq := oq.below hbw7
    replace ou := ou.below hbw7
    replace BW := BW.trans (hbw7.mono BW.size)
    have sw7 := hbw7.size
    have lw7 := bx9.lt
    go_wp2_with (first | (guard_target = wpList _ _ _ (Oper.mk none (Op.store _ (Operand.tmp 9) _) _ _ _ _ :: _) _ _; refine wpList_store_mid rfl 39 (.tmp 9) (.tmp 38) rfl w6.heap.size 0 u.cells.toArray rfl rfl (by rw [hZw7.out]; exact HTw7.out) (by rw [List.size_toArray]; exact rec_info _) (rec_one _) ?_) | (guard_target = wpList _ _ _ (Oper.mk (some 40) _ _ _ _ _ :: _) _ _; refine wpList_load_mid rfl 26 (.tmp 8) rfl w4.heap.size 0 rfl (LogA.cells qs) _ (by rw [hZw7.out, hSw7.out]; exact log_rng _ bx8) Tryz.underlying26 rfl (log_info _) ?_) | (guard_target = wpList _ _ _ (Oper.mk (some 41) _ _ _ _ _ :: _) _ _; refine wpList_load_mid rfl 39 (.tmp 9) rfl w6.heap.size 0 rfl u.cells _ (by rw [hZw7.out, hSw7.out]; exact rec_rng' u bx9) Tryz.underlying39 rfl (rec_info _) ?_) | fail)
    rw [hZw7.out, hSw7.out]
    clear hZw7 hSw7 HTw7
    refine (HIM.out qs u w7 (hgB _ BW) hvq.out hvu.out oq hqS ou (short_wide huS)).mono ?_
    rintro e w8 ⟨tg, rfl, HVG, og, hb8⟩
    have hgS := HSM.out hlr hl tg HVG.out
    replace bx2 := bx2.below hb8 bx2.lt
    replace bx3 := bx3.below hb8 bx3.lt
    replace bx6 := bx6.below hb8 bx6.lt
    replace bx8 := bx8.below hb8 bx8.lt
    replace bx9 := bx9.below hb8 bx9.lt
    replace ow := ow.below hb8
    replace oq := oq.below hb8
    replace ou := ou.below hb8
    replace BW := BW.trans (hb8.mono BW.size)
    have s8 := hb8.size
    obtain ⟨Zw9, hZw9, bZw90, hbZw9, _⟩ := boxes1 w8 [.slice none 0 0, .int .i64 0] 26
    have bZw9 : Box Zw9 w8.heap.size [.slice none 0 0, .int .i64 0] 26 := bZw90
    obtain ⟨w9, hSw9, hww9, hzw9, HTw9, _, bx10⟩ := log_out tg _ rfl bZw9
    clear bZw90
    have hbw9 : Below w8.heap.size w8 w9 := hbZw9.trans (hww9.below (Nat.le_refl _) (by have := hbZw9.size; omega))
    clear bZw9 hbZw9 hww9 hzw9
    replace bx2 := bx2.below hbw9 bx2.lt
    replace bx3 := bx3.below hbw9 bx3.lt
    replace bx6 := bx6.below hbw9 bx6.lt
    replace bx8 := bx8.below hbw9 bx8.lt
    replace bx9 := bx9.below hbw9 bx9.lt
    replace ow := ow.below hbw9
    replace oq := oq.below hbw9
    replace ou := ou.below hbw9
    replace og := og.below hbw9
    replace BW := BW.trans (hbw9.mono BW.size)
    have sw9 := hbw9.size
    have lw9 := bx10.lt
    have HGW : Hid (tw.v = tg.v) := HVW.out.trans HVG.out.symm
    go_wp2_with (first | (guard_target = wpList _ _ _ (Oper.mk none (Op.store _ (Operand.tmp 10) _) _ _ _ _ :: _) _ _; refine wpList_store_mid rfl 26 (.tmp 10) (.tmp 43) rfl w8.heap.size 0 (LogA.cells tg).toArray rfl rfl (by rw [hZw9.out]; exact HTw9.out) (by rw [List.size_toArray]; exact log_info _) (log_one _) ?_) | (guard_target = wpList _ _ _ (Oper.mk (some 45) _ _ _ _ _ :: _) _ _; refine wpList_load_mid rfl 26 (.tmp 10) rfl w8.heap.size 0 rfl (LogA.cells tg) _ (by rw [hZw9.out, hSw9.out]; exact log_rng _ bx10) Tryz.underlying26 rfl (log_info _) ?_) | (guard_target = wpList _ _ _ (Oper.mk (some 46) _ _ _ _ _ :: _) _ _; refine wpList_load_mid rfl 26 (.tmp 6) rfl B6 0 rfl (LogA.cells tw) _ (by rw [hZw9.out, hSw9.out]; exact log_rng _ bx6) Tryz.underlying26 rfl (log_info _) ?_) | fail)
    rw [hZw9.out, hSw9.out]
    clear hZw9 hSw9 HTw9
    refine (eqLog_same tg tw HGW.out w9 og.reads ow.reads (LogA.short_wide hgS)).mono ?_
    rintro e w10 ⟨rfl, hb10⟩
    replace bx2 := bx2.below hb10 bx2.lt
    replace bx3 := bx3.below hb10 bx3.lt
    replace bx6 := bx6.below hb10 bx6.lt
    replace bx8 := bx8.below hb10 bx8.lt
    replace bx9 := bx9.below hb10 bx9.lt
    replace bx10 := bx10.below hb10 bx10.lt
    replace ow := ow.below hb10
    replace oq := oq.below hb10
    replace ou := ou.below hb10
    replace og := og.below hb10
    replace BW := BW.trans (hb10.mono BW.size)
    have s10 := hb10.size
    have hrk : (RK != RK) = false := by simp
    have HU2 : Hid (_ ∧ _) := ⟨Tryz.underlying26, Tryz.underlying39⟩
    have HRG : Hid (∀ u, Below w10.heap.size w10 u → u.rangeAt w.heap.size 0 p.cells ∧ u.rangeAt w4.heap.size 0 (LogA.cells qs)) := fun u hu => ⟨log_rng p (bx2.below hu bx2.lt), log_rng _ (bx8.below hu bx8.lt)⟩
    have hu1 := HU.out.1
    have hu2 := HU2.out.1
    have hi1 := llog_info p
    have hi2 := log_info qs
    go_wp2_with fail
    refine wp_region_held_drew (S := fun w' => w'.rangeAt w.heap.size 0 p.cells ∧ w'.rangeAt w4.heap.size 0 (LogA.cells qs)) (by kernel_rfl) (HRG.out _ (Below.refl _ _).drew) (fun hHeld => ?_)
    refine wpAnyH_take (i := 0) rfl (by kernel_rfl) (by kernel_rfl) (by kernel_rfl) (fun _ _ _ h => h) (yieldsIf_load_mid (by rfl) _ _ rfl _ _ rfl (LogA.cells qs) _ (fun _ h => h.2) hu2 rfl hi2) hHeld ?_
    refine wpAnyH_take (i := 1) rfl (by kernel_rfl) (by kernel_rfl) (by kernel_rfl) (fun _ _ _ h => h) (yieldsIf_load_mid (by rfl) _ _ rfl _ _ rfl p.cells _ (fun _ h => h.1) hu1 rfl hi1) hHeld ?_
    refine wpAnyH_ready (rs := [2]) (by kernel_rfl) (by simp) ?_
    refine AllReadyH.cons rfl (fun K hK => ?_) AllReadyH.nil
    go_simp
    refine (toLog_any p _ (hRp _ BW.drew) hl).mono ?_
    rintro e w11 ⟨vs, rfl, hvv, ov, hb11⟩
    have N11 : Below w10.heap.size w10 w11 := ((Below.refl _ _).drew).trans hb11
    refine hK.out _ _ (HRG.out _ N11) (fun hHeld => ?_)
    clear hK K
    refine wpAnyH_ready (rs := [3]) (by kernel_rfl) (by simp) ?_
    refine AllReadyH.cons rfl (fun K hK => ?_) AllReadyH.nil
    go_simp
    refine (eqLog_same qs vs (hvv.out.trans hvq.out.symm) w11 (oq.reads.below N11) ov.reads (LogA.short_wide hqS)).mono ?_
    rintro e w12 ⟨rfl, hb12⟩
    have N12 : Below w10.heap.size w10 w12 := N11.trans (hb12.mono N11.size)
    refine hK.out _ _ (HRG.out _ N12) (fun hHeld => ?_)
    clear hK K
    refine wpAnyH_take (i := 4) (v := .bool false) rfl (by kernel_rfl) (by kernel_rfl) (by kernel_rfl) (fun _ _ _ h => h) (Or.inl ⟨by rfl, ?_⟩) hHeld ?_
    · intro w' _; go_simp
    refine wpAnyH_done (by kernel_rfl) ?_ _
    clear hHeld hb11 hb12 ov hvv HRG N11 hu1 hu2 hi1 hi2
    replace bx2 := bx2.below N12 bx2.lt
    replace bx3 := bx3.below N12 bx3.lt
    replace bx6 := bx6.below N12 bx6.lt
    replace bx8 := bx8.below N12 bx8.lt
    replace bx9 := bx9.below N12 bx9.lt
    replace bx10 := bx10.below N12 bx10.lt
    replace ow := ow.below N12
    replace oq := oq.below N12
    replace ou := ou.below N12
    replace og := og.below N12
    replace BW := BW.trans (N12.mono BW.size)
    have s12 := N12.size
    clear N12
    have HRG : Hid (∀ x, Below w12.heap.size w12 x → x.rangeAt (w.heap.size + 1) 0 r.cells ∧ x.rangeAt w6.heap.size 0 u.cells) := fun x hx => ⟨rec_rng' r (bx3.below hx bx3.lt), rec_rng' u (bx9.below hx bx9.lt)⟩
    have hu1 := HU.out.2
    have hu2 := HU2.out.2
    have hi1 := lrec_info' r
    have hi2 := rec_info u
    go_wp2_with fail
    refine wp_region_held_drew (S := fun w' => w'.rangeAt (w.heap.size + 1) 0 r.cells ∧ w'.rangeAt w6.heap.size 0 u.cells) (by kernel_rfl) (HRG.out _ (Below.refl _ _).drew) (fun hHeld => ?_)
    refine wpAnyH_take (i := 0) rfl (by kernel_rfl) (by kernel_rfl) (by kernel_rfl) (fun _ _ _ h => h) (yieldsIf_load_mid (by rfl) _ _ rfl _ _ rfl u.cells _ (fun _ h => h.2) hu2 rfl hi2) hHeld ?_
    refine wpAnyH_take (i := 1) rfl (by kernel_rfl) (by kernel_rfl) (by kernel_rfl) (fun _ _ _ h => h) (yieldsIf_load_mid (by rfl) _ _ rfl _ _ rfl r.cells _ (fun _ h => h.1) hu1 rfl hi1) hHeld ?_
    refine wpAnyH_ready (rs := [2]) (by kernel_rfl) (by simp) ?_
    refine AllReadyH.cons rfl (fun K hK => ?_) AllReadyH.nil
    go_simp
    refine (toRec_law r _ (hRd _ BW.drew) hlr).mono ?_
    rintro e w13 ⟨vs, rfl, hvv, ov, hb13⟩
    have N13 : Below w12.heap.size w12 w13 := ((Below.refl _ _).drew).trans hb13
    refine hK.out _ _ (HRG.out _ N13) (fun hHeld => ?_)
    clear hK K
    refine wpAnyH_ready (rs := [3]) (by kernel_rfl) (by simp) ?_
    refine AllReadyH.cons rfl (fun K hK => ?_) AllReadyH.nil
    go_simp
    refine (eqRec_same u vs (hvv.out.trans hvu.out.symm) w13 (ou.reads.below N13) ov.reads (short_wide huS)).mono ?_
    rintro e w14 ⟨rfl, hb14⟩
    have N14 : Below w12.heap.size w12 w14 := N13.trans (hb14.mono N13.size)
    refine hK.out _ _ (HRG.out _ N14) (fun hHeld => ?_)
    clear hK K
    refine wpAnyH_take (i := 4) (v := .bool false) rfl (by kernel_rfl) (by kernel_rfl) (by kernel_rfl) (fun _ _ _ h => h) (Or.inl ⟨by rfl, ?_⟩) hHeld ?_
    · intro w' _; go_simp
    refine wpAnyH_done (by kernel_rfl) ?_ _
    clear hHeld hb13 hb14 ov hvv HRG N13 hu1 hu2 hi1 hi2
    replace bx2 := bx2.below N14 bx2.lt
    replace bx3 := bx3.below N14 bx3.lt
    replace bx6 := bx6.below N14 bx6.lt
    replace bx8 := bx8.below N14 bx8.lt
    replace bx9 := bx9.below N14 bx9.lt
    replace bx10 := bx10.below N14 bx10.lt
    replace ow := ow.below N14
    replace oq := oq.below N14
    replace ou := ou.below N14
    replace og := og.below N14
    replace BW := BW.trans (N14.mono BW.size)
    have s14 := N14.size
    clear N14
    go_wp2_with (first | (guard_target = wpList _ _ _ (Oper.mk (some 64) _ _ _ _ _ :: _) _ _; refine wpList_load_mid rfl 26 (.tmp 8) rfl w4.heap.size 0 rfl (LogA.cells qs) _ (log_rng _ bx8) Tryz.underlying26 rfl (log_info _) ?_) | fail)
    refine (markLog_touch qs w3.heap.size w4.heap.size 1 w14 oq (LogA.short_wide hqS) (by omega) (count_short hqS)).mono ?_
    rintro e w15 ⟨rfl, _, ht15⟩
    have hw15 : Within w3.heap.size w4.heap.size w14 w15 := ht15.within oq.blocks_lt
    have s15 := hw15.size
    replace bx2 := bx2.within hw15 (by omega)
    replace bx3 := bx3.within hw15 (by omega)
    replace bx6 := bx6.within hw15 (by omega)
    replace bx8 := bx8.within hw15 (by omega)
    replace bx9 := bx9.within hw15 (by omega)
    replace bx10 := bx10.within hw15 (by omega)
    replace ow := ow.within hw15 (by omega)
    replace ou := ou.within hw15 (by omega)
    replace og := og.within hw15 (by omega)
    replace BW := BW.trans (hw15.below (by have := BW.size; omega) (by have := BW.size; omega))
    clear ht15 hw15 oq
    have hcq : (qs.count : Int) ≤ 10995116277760 := count_mid hqS
    simp only
    generalize qs.count = cq at *
    go_wp2_with (first | (guard_target = wpList _ _ _ (Oper.mk (some 67) _ _ _ _ _ :: _) _ _; refine wpList_load_mid rfl 39 (.tmp 9) rfl w6.heap.size 0 rfl u.cells _ (rec_rng' u bx9) Tryz.underlying39 rfl (rec_info _) ?_) | fail)
    refine (markRec_wide u w5.heap.size w6.heap.size (1 + (cq : Int)) w15 ou (short_wide huS) (by omega) (by omega)).mono ?_
    rintro e w16 ⟨rfl, _, ht16⟩
    have hw16 : Within w5.heap.size w6.heap.size w15 w16 := ht16.within ou.blocks_lt
    have s16 := hw16.size
    replace bx2 := bx2.within hw16 (by omega)
    replace bx3 := bx3.within hw16 (by omega)
    replace bx6 := bx6.within hw16 (by omega)
    replace bx8 := bx8.within hw16 (by omega)
    replace bx9 := bx9.within hw16 (by omega)
    replace bx10 := bx10.within hw16 (by omega)
    replace ow := ow.within hw16 (by omega)
    replace og := og.within hw16 (by omega)
    replace BW := BW.trans (hw16.below (by have := BW.size; omega) (by have := BW.size; omega))
    have hcn : ¬ ((1 : Int) + (cq : Int) + (u.count : Int)) < 0 := by omega
    clear ht16 hw16 ou
    generalize u.count = cu at *
    go_wp2_with (first | (guard_target = wpList _ _ _ (Oper.mk (some 73) _ _ _ _ _ :: _) _ _; refine load_if (by rfl) 26 (.tmp 10) rfl w8.heap.size 0 rfl (LogA.cells tg) _ (log_rng _ bx10) Tryz.underlying26 rfl (log_info _) ?_) | (guard_target = wpList _ _ _ (Oper.mk (some 74) _ _ _ _ _ :: _) _ _; refine load_if (by rfl) 26 (.tmp 6) rfl B6 0 rfl (LogA.cells tw) _ (log_rng _ bx6) Tryz.underlying26 rfl (log_info _) ?_) | fail)
    refine (eqLog_same tg tw HGW.out w16 og.reads ow.reads (LogA.short_wide hgS)).mono ?_
    rintro e w17 ⟨rfl, hb17⟩
    replace bx2 := bx2.below hb17 bx2.lt
    replace bx3 := bx3.below hb17 bx3.lt
    replace bx6 := bx6.below hb17 bx6.lt
    replace bx8 := bx8.below hb17 bx8.lt
    replace bx9 := bx9.below hb17 bx9.lt
    replace bx10 := bx10.below hb17 bx10.lt
    replace ow := ow.below hb17
    replace og := og.below hb17
    replace BW := BW.trans (hb17.mono BW.size)
    have s17 := hb17.size
    go_wp2_with (first | (guard_target = wpList _ _ _ (Oper.mk (some 83) _ _ _ _ _ :: _) _ _; refine wpList_load_mid rfl 26 (.tmp 10) rfl w8.heap.size 0 rfl (LogA.cells tg) _ (log_rng _ bx10) Tryz.underlying26 rfl (log_info _) ?_) | fail)
    refine (markLog_touch tg w7.heap.size w8.heap.size 1 w17 og (LogA.short_wide hgS) (by omega) (count_short hgS)).mono ?_
    rintro e w18 ⟨rfl, og18, ht18⟩
    have hw18 : Within w7.heap.size w8.heap.size w17 w18 := ht18.within og.blocks_lt
    have s18 := hw18.size
    replace bx2 := bx2.within hw18 (by omega)
    replace bx3 := bx3.within hw18 (by omega)
    replace bx6 := bx6.within hw18 (by omega)
    replace bx8 := bx8.within hw18 (by omega)
    replace bx9 := bx9.within hw18 (by omega)
    replace bx10 := bx10.within hw18 (by omega)
    replace ow := ow.within hw18 (by omega)
    replace BW := BW.trans (hw18.below (by have := BW.size; omega) (by have := BW.size; omega))
    clear ht18 hw18 og
    go_wp2_with (first | (guard_target = wpList _ _ _ (Oper.mk (some 86) _ _ _ _ _ :: _) _ _; refine wpList_load_mid rfl 26 (.tmp 10) rfl w8.heap.size 0 rfl (LogA.cells tg) _ (log_rng _ bx10) Tryz.underlying26 rfl (log_info _) ?_) | fail)
    refine (heldLog_any tg w7.heap.size w8.heap.size 1 w18 og18 (by have := hgS.len; omega) (by omega) (count_short hgS)).mono ?_
    rintro e w19 ⟨rfl, hb19⟩
    replace bx2 := bx2.below hb19 bx2.lt
    replace bx3 := bx3.below hb19 bx3.lt
    replace bx6 := bx6.below hb19 bx6.lt
    replace bx8 := bx8.below hb19 bx8.lt
    replace bx9 := bx9.below hb19 bx9.lt
    replace bx10 := bx10.below hb19 bx10.lt
    replace ow := ow.below hb19
    replace og18 := og18.below hb19
    replace BW := BW.trans (hb19.mono BW.size)
    have s19 := hb19.size
    have hcn2 : ¬ ((1 : Int) + (tg.count : Int)) < 0 := by omega
    simp only
    have HRG : Hid (∀ u, Below w19.heap.size w19 u → u.rangeAt w.heap.size 0 p.cells ∧ u.rangeAt (w.heap.size + 1) 0 r.cells) := fun u hu => ⟨log_rng p (bx2.below hu bx2.lt), rec_rng' r (bx3.below hu bx3.lt)⟩
    go_upto_region 31 with fail
    go_cut [15, 16] from 17 (fun a b wx => ∃ (Bx : Nat) (aw : LogA), a = .pointer (some ⟨Bx, 0, none⟩) ∧ b = .int .i64 RK ∧ Hid (aw.v = RO) ∧ Box wx Bx (LogA.cells aw) 26 ∧ LogA.own wx w19.heap.size wx.heap.size aw ∧ Below w19.heap.size w19 wx)
    case first =>
      have hu1 := HU.out.1
      have hu2 := HU.out.2
      have hi1 := llog_info p
      have hi2 := lrec_info' r
      have D0 : Below w19.heap.size w19 w19.drew := (Below.refl _ _).drew
      refine wp_region_held_drew (S := fun w' => w'.rangeAt w.heap.size 0 p.cells ∧ w'.rangeAt (w.heap.size + 1) 0 r.cells) (by kernel_rfl) (HRG.out _ D0) (fun hHeld => ?_)
      refine wpAnyH_take (i := 0) rfl (by kernel_rfl) (by kernel_rfl) (by kernel_rfl) (fun _ _ _ h => h) (yieldsIf_load_mid (by rfl) _ _ rfl _ _ rfl p.cells _ (fun _ h => h.1) hu1 rfl hi1) hHeld ?_
      go_simp
      refine wpAnyH_take (i := 2) rfl (by kernel_rfl) (by kernel_rfl) (by kernel_rfl) (fun _ _ _ h => h) (yieldsIf_load_mid (by rfl) _ _ rfl _ _ rfl r.cells _ (fun _ h => h.2) hu2 rfl hi2) hHeld ?_
      go_simp
      generalize hD : w19.drew = d0 at *
      refine wpAnyH_ready (rs := [1, 8]) (by kernel_rfl) (by simp) ?_
      refine AllReadyH.cons rfl (fun K hK => ?_) (AllReadyH.cons rfl (fun K hK => ?_) AllReadyH.nil)
      focus
        go_simp
        refine (toLog_any p _ (hRp _ (BW.trans (D0.mono BW.size))) hl).mono ?_
        rintro e d0a ⟨ts, rfl, hvt, hot, hba⟩
        have D0a : Below w19.heap.size w19 d0a := D0.trans (hba.mono D0.size)
        have z0 := hba.size
        refine hK.out _ _ (HRG.out _ D0a) (fun hHeld => ?_)
        clear hK K
        refine wpAnyH_ready (rs := [3, 8]) (by kernel_rfl) (by simp) ?_
        refine AllReadyH.cons rfl (fun K hK => ?_) (AllReadyH.cons rfl (fun K hK => ?_) AllReadyH.nil)
        focus
          go_simp
          refine (toRec_law r _ (hRd _ (BW.trans (D0a.mono BW.size))) hlr).mono ?_
          rintro e d0ab ⟨uu, rfl, hvu, hou, hbb⟩
          have D0ab : Below w19.heap.size w19 d0ab := D0a.trans (hbb.mono D0a.size)
          replace hot := hot.below hbb
          have z1 := hbb.size
          refine hK.out _ _ (HRG.out _ D0ab) (fun hHeld => ?_)
          clear hK K
          refine wpAnyH_ready (rs := [4, 8]) (by kernel_rfl) (by simp) ?_
          refine AllReadyH.cons rfl (fun K hK => ?_) (AllReadyH.cons rfl (fun K hK => ?_) AllReadyH.nil)
          focus
            go_simp
            refine (HIM.out ts uu _ (hgB _ (BW.trans (D0ab.mono BW.size))) hvt.out hvu.out hot (LogA.short_of hvt.out hl) hou (short_wide (short_of hvu.out hlr))).mono ?_
            rintro e d0abc ⟨aw, rfl, hva, hoa, hbc⟩
            have hoaN := hoa
            have D0abc : Below w19.heap.size w19 d0abc := D0ab.trans (hbc.mono D0ab.size)
            replace hoa : LogA.own d0abc w19.heap.size d0abc.heap.size aw := hoa.widen D0ab.size (Nat.le_refl _) (Nat.le_refl _)
            have z2 := hbc.size
            refine hK.out _ _ (HRG.out _ D0abc) (fun hHeld => ?_)
            clear hK K
            refine wpAnyH_take (i := 5) (v := .tuple #[.agg (LogA.cells aw).toArray, .int .i64 RK]) rfl (by kernel_rfl) (by kernel_rfl) (by kernel_rfl) (fun _ _ _ h => h) (Or.inl ⟨by rfl, fun w' _ => ?_⟩) hHeld ?_
            · go_simp
            go_simp
            refine wpAnyH_take (i := 6) (v := .agg (LogA.cells aw).toArray) rfl (by kernel_rfl) (by kernel_rfl) (by kernel_rfl) (fun _ _ _ h => h) (Or.inl ⟨by rfl, fun w' _ => ?_⟩) hHeld ?_
            · go_simp
            go_simp
            refine wpAnyH_take (i := 7) (v := .int .i64 RK) rfl (by kernel_rfl) (by kernel_rfl) (by kernel_rfl) (fun _ _ _ h => h) (Or.inl ⟨by rfl, fun w' _ => ?_⟩) hHeld ?_
            · go_simp
            go_simp
            refine wpAnyH_ready (rs := [8]) (by kernel_rfl) (by simp) ?_
            refine AllReadyH.cons rfl (fun K hK => ?_) AllReadyH.nil
            go_simp
            obtain ⟨WA, hWA, bA0, hbA, _⟩ := boxes1 d0abc [.slice none 0 0, .int .i64 0] 26
            rw [hWA.out]
            have bA : Box WA d0abc.heap.size [.slice none 0 0, .int .i64 0] 26 := bA0
            have D0abcz : Below w19.heap.size w19 WA := D0abc.trans (hbA.mono D0abc.size)
            replace hoa : LogA.own WA w19.heap.size d0abc.heap.size aw := hoa.below hbA
            have hlast : d0abc.heap.size ≤ WA.heap.size := hbA.size
            refine hK.out _ _ (HRG.out _ D0abcz) (fun hHeld => ?_)
            clear hK K hWA bA0
            obtain ⟨WF, hWF, hwF, hsF, HTF, _, bF⟩ := log_out aw _ rfl bA
            have hltA := bA.lt
            have zD := D0abcz.size
            have zp2 := D0.size
            have zp3 := D0a.size
            have zp4 := D0ab.size
            have zp5 := D0abc.size
            have oF : LogA.own WF w19.heap.size WF.heap.size aw := (hoa.within hwF (by omega)).widen (Nat.le_refl _) (by omega) (Nat.le_refl _)
            have DF : Below w19.heap.size w19 WF := D0abcz.trans (hwF.below (by omega) (by omega))
            refine wpAnyH_ready (rs := [9]) (by kernel_rfl) (by simp) ?_
            refine AllReadyH.cons rfl (fun K hK => ?_) AllReadyH.nil
            rw [if_pos (by rfl)]
            refine wp_store_mid 26 (.tmp 15) (.tmp 100) rfl d0abc.heap.size 0 (LogA.cells aw).toArray rfl rfl HTF.out (by rw [List.size_toArray]; exact log_info _) (log_one _) ?_
            have HW : Hid ((WA).setCells d0abc.heap.size 0 (LogA.cells aw).toArray.toList = WF) := hWF.out
            rw [HW.out]
            refine hK.out _ _ (HRG.out _ DF) (fun hHeld => ?_)
            clear hK K HW hWF HTF hwF
            simp only [Act.put, List.getElem_toArray, List.getElem_cons_zero, List.getElem_cons_succ]
            refine wpAnyH_take (i := 10) (v := .int .i64 RK) rfl (by kernel_rfl) (by kernel_rfl) (by kernel_rfl) (fun _ _ _ h => h) (Or.inl ⟨by rfl, fun w' _ => ?_⟩) hHeld ?_
            · go_simp
            go_simp
            refine wpAnyH_done (by kernel_rfl) ?_ _
            clear hHeld
            go_wp2_with fail
            go_meet
            case rel => exact ⟨d0abc.heap.size, aw, rfl, rfl, hva, bF, oF, DF⟩
          focus
            go_simp
            obtain ⟨WA, hWA, bA0, hbA, _⟩ := boxes1 d0ab [.slice none 0 0, .int .i64 0] 26
            rw [hWA.out]
            have bA : Box WA d0ab.heap.size [.slice none 0 0, .int .i64 0] 26 := bA0
            have zA := hbA.size
            have hltA0 := bA.lt
            have D0abz : Below w19.heap.size w19 WA := D0ab.trans (hbA.mono D0ab.size)
            replace hot := hot.below hbA
            replace hou := hou.below hbA
            refine hK.out _ _ (HRG.out _ D0abz) (fun hHeld => ?_)
            clear hK K hWA bA0
            refine wpAnyH_ready (rs := [4]) (by kernel_rfl) (by simp) ?_
            refine AllReadyH.cons rfl (fun K hK => ?_) AllReadyH.nil
            go_simp
            refine (HIM.out ts uu _ (hgB _ (BW.trans (D0abz.mono BW.size))) hvt.out hvu.out hot (LogA.short_of hvt.out hl) hou (short_wide (short_of hvu.out hlr))).mono ?_
            rintro e WAc ⟨aw, rfl, hva, hoa, hbc⟩
            have hoaN := hoa
            have D0abzc : Below w19.heap.size w19 WAc := D0abz.trans (hbc.mono D0abz.size)
            replace hoa : LogA.own WAc w19.heap.size WAc.heap.size aw := hoa.widen D0abz.size (Nat.le_refl _) (Nat.le_refl _)
            replace bA := bA.below hbc bA.lt
            have z2 := hbc.size
            refine hK.out _ _ (HRG.out _ D0abzc) (fun hHeld => ?_)
            clear hK K
            refine wpAnyH_take (i := 5) (v := .tuple #[.agg (LogA.cells aw).toArray, .int .i64 RK]) rfl (by kernel_rfl) (by kernel_rfl) (by kernel_rfl) (fun _ _ _ h => h) (Or.inl ⟨by rfl, fun w' _ => ?_⟩) hHeld ?_
            · go_simp
            go_simp
            refine wpAnyH_take (i := 6) (v := .agg (LogA.cells aw).toArray) rfl (by kernel_rfl) (by kernel_rfl) (by kernel_rfl) (fun _ _ _ h => h) (Or.inl ⟨by rfl, fun w' _ => ?_⟩) hHeld ?_
            · go_simp
            go_simp
            refine wpAnyH_take (i := 7) (v := .int .i64 RK) rfl (by kernel_rfl) (by kernel_rfl) (by kernel_rfl) (fun _ _ _ h => h) (Or.inl ⟨by rfl, fun w' _ => ?_⟩) hHeld ?_
            · go_simp
            go_simp
            have hlast : WAc.heap.size ≤ WAc.heap.size := Nat.le_refl _
            obtain ⟨WF, hWF, hwF, hsF, HTF, _, bF⟩ := log_out aw _ rfl bA
            have hltA := bA.lt
            have zD := D0abzc.size
            have zp2 := D0.size
            have zp3 := D0a.size
            have zp4 := D0ab.size
            have zp5 := D0abz.size
            have oF : LogA.own WF w19.heap.size WF.heap.size aw := (hoaN.within hwF (by omega)).widen (by omega) (by omega) (Nat.le_refl _)
            have DF : Below w19.heap.size w19 WF := D0abzc.trans (hwF.below (by omega) (by omega))
            refine wpAnyH_ready (rs := [9]) (by kernel_rfl) (by simp) ?_
            refine AllReadyH.cons rfl (fun K hK => ?_) AllReadyH.nil
            rw [if_pos (by rfl)]
            refine wp_store_mid 26 (.tmp 15) (.tmp 100) rfl d0ab.heap.size 0 (LogA.cells aw).toArray rfl rfl HTF.out (by rw [List.size_toArray]; exact log_info _) (log_one _) ?_
            have HW : Hid ((WAc).setCells d0ab.heap.size 0 (LogA.cells aw).toArray.toList = WF) := hWF.out
            rw [HW.out]
            refine hK.out _ _ (HRG.out _ DF) (fun hHeld => ?_)
            clear hK K HW hWF HTF hwF
            simp only [Act.put, List.getElem_toArray, List.getElem_cons_zero, List.getElem_cons_succ]
            refine wpAnyH_take (i := 10) (v := .int .i64 RK) rfl (by kernel_rfl) (by kernel_rfl) (by kernel_rfl) (fun _ _ _ h => h) (Or.inl ⟨by rfl, fun w' _ => ?_⟩) hHeld ?_
            · go_simp
            go_simp
            refine wpAnyH_done (by kernel_rfl) ?_ _
            clear hHeld
            go_wp2_with fail
            go_meet
            case rel => exact ⟨d0ab.heap.size, aw, rfl, rfl, hva, bF, oF, DF⟩
        focus
          go_simp
          obtain ⟨WA, hWA, bA0, hbA, _⟩ := boxes1 d0a [.slice none 0 0, .int .i64 0] 26
          rw [hWA.out]
          have bA : Box WA d0a.heap.size [.slice none 0 0, .int .i64 0] 26 := bA0
          have zA := hbA.size
          have hltA0 := bA.lt
          have D0az : Below w19.heap.size w19 WA := D0a.trans (hbA.mono D0a.size)
          replace hot := hot.below hbA
          refine hK.out _ _ (HRG.out _ D0az) (fun hHeld => ?_)
          clear hK K hWA bA0
          refine wpAnyH_ready (rs := [3]) (by kernel_rfl) (by simp) ?_
          refine AllReadyH.cons rfl (fun K hK => ?_) AllReadyH.nil
          go_simp
          refine (toRec_law r _ (hRd _ (BW.trans (D0az.mono BW.size))) hlr).mono ?_
          rintro e WAb ⟨uu, rfl, hvu, hou, hbb⟩
          have D0azb : Below w19.heap.size w19 WAb := D0az.trans (hbb.mono D0az.size)
          replace hot := hot.below hbb
          replace bA := bA.below hbb bA.lt
          have z1 := hbb.size
          refine hK.out _ _ (HRG.out _ D0azb) (fun hHeld => ?_)
          clear hK K
          refine wpAnyH_ready (rs := [4]) (by kernel_rfl) (by simp) ?_
          refine AllReadyH.cons rfl (fun K hK => ?_) AllReadyH.nil
          go_simp
          refine (HIM.out ts uu _ (hgB _ (BW.trans (D0azb.mono BW.size))) hvt.out hvu.out hot (LogA.short_of hvt.out hl) hou (short_wide (short_of hvu.out hlr))).mono ?_
          rintro e WAbc ⟨aw, rfl, hva, hoa, hbc⟩
          have hoaN := hoa
          have D0azbc : Below w19.heap.size w19 WAbc := D0azb.trans (hbc.mono D0azb.size)
          replace hoa : LogA.own WAbc w19.heap.size WAbc.heap.size aw := hoa.widen D0azb.size (Nat.le_refl _) (Nat.le_refl _)
          replace bA := bA.below hbc bA.lt
          have z2 := hbc.size
          refine hK.out _ _ (HRG.out _ D0azbc) (fun hHeld => ?_)
          clear hK K
          refine wpAnyH_take (i := 5) (v := .tuple #[.agg (LogA.cells aw).toArray, .int .i64 RK]) rfl (by kernel_rfl) (by kernel_rfl) (by kernel_rfl) (fun _ _ _ h => h) (Or.inl ⟨by rfl, fun w' _ => ?_⟩) hHeld ?_
          · go_simp
          go_simp
          refine wpAnyH_take (i := 6) (v := .agg (LogA.cells aw).toArray) rfl (by kernel_rfl) (by kernel_rfl) (by kernel_rfl) (fun _ _ _ h => h) (Or.inl ⟨by rfl, fun w' _ => ?_⟩) hHeld ?_
          · go_simp
          go_simp
          refine wpAnyH_take (i := 7) (v := .int .i64 RK) rfl (by kernel_rfl) (by kernel_rfl) (by kernel_rfl) (fun _ _ _ h => h) (Or.inl ⟨by rfl, fun w' _ => ?_⟩) hHeld ?_
          · go_simp
          go_simp
          have hlast : WAbc.heap.size ≤ WAbc.heap.size := Nat.le_refl _
          obtain ⟨WF, hWF, hwF, hsF, HTF, _, bF⟩ := log_out aw _ rfl bA
          have hltA := bA.lt
          have zD := D0azbc.size
          have zp2 := D0.size
          have zp3 := D0a.size
          have zp4 := D0az.size
          have zp5 := D0azb.size
          have oF : LogA.own WF w19.heap.size WF.heap.size aw := (hoaN.within hwF (by omega)).widen (by omega) (by omega) (Nat.le_refl _)
          have DF : Below w19.heap.size w19 WF := D0azbc.trans (hwF.below (by omega) (by omega))
          refine wpAnyH_ready (rs := [9]) (by kernel_rfl) (by simp) ?_
          refine AllReadyH.cons rfl (fun K hK => ?_) AllReadyH.nil
          rw [if_pos (by rfl)]
          refine wp_store_mid 26 (.tmp 15) (.tmp 100) rfl d0a.heap.size 0 (LogA.cells aw).toArray rfl rfl HTF.out (by rw [List.size_toArray]; exact log_info _) (log_one _) ?_
          have HW : Hid ((WAbc).setCells d0a.heap.size 0 (LogA.cells aw).toArray.toList = WF) := hWF.out
          rw [HW.out]
          refine hK.out _ _ (HRG.out _ DF) (fun hHeld => ?_)
          clear hK K HW hWF HTF hwF
          simp only [Act.put, List.getElem_toArray, List.getElem_cons_zero, List.getElem_cons_succ]
          refine wpAnyH_take (i := 10) (v := .int .i64 RK) rfl (by kernel_rfl) (by kernel_rfl) (by kernel_rfl) (fun _ _ _ h => h) (Or.inl ⟨by rfl, fun w' _ => ?_⟩) hHeld ?_
          · go_simp
          go_simp
          refine wpAnyH_done (by kernel_rfl) ?_ _
          clear hHeld
          go_wp2_with fail
          go_meet
          case rel => exact ⟨d0a.heap.size, aw, rfl, rfl, hva, bF, oF, DF⟩
      focus
        go_simp
        obtain ⟨WA, hWA, bA0, hbA, _⟩ := boxes1 d0 [.slice none 0 0, .int .i64 0] 26
        rw [hWA.out]
        have bA : Box WA d0.heap.size [.slice none 0 0, .int .i64 0] 26 := bA0
        have zA := hbA.size
        have hltA0 := bA.lt
        have D0z : Below w19.heap.size w19 WA := D0.trans (hbA.mono D0.size)
        refine hK.out _ _ (HRG.out _ D0z) (fun hHeld => ?_)
        clear hK K hWA bA0
        refine wpAnyH_ready (rs := [1]) (by kernel_rfl) (by simp) ?_
        refine AllReadyH.cons rfl (fun K hK => ?_) AllReadyH.nil
        go_simp
        refine (toLog_any p _ (hRp _ (BW.trans (D0z.mono BW.size))) hl).mono ?_
        rintro e WAa ⟨ts, rfl, hvt, hot, hba⟩
        have D0za : Below w19.heap.size w19 WAa := D0z.trans (hba.mono D0z.size)
        replace bA := bA.below hba bA.lt
        have z0 := hba.size
        refine hK.out _ _ (HRG.out _ D0za) (fun hHeld => ?_)
        clear hK K
        refine wpAnyH_ready (rs := [3]) (by kernel_rfl) (by simp) ?_
        refine AllReadyH.cons rfl (fun K hK => ?_) AllReadyH.nil
        go_simp
        refine (toRec_law r _ (hRd _ (BW.trans (D0za.mono BW.size))) hlr).mono ?_
        rintro e WAab ⟨uu, rfl, hvu, hou, hbb⟩
        have D0zab : Below w19.heap.size w19 WAab := D0za.trans (hbb.mono D0za.size)
        replace hot := hot.below hbb
        replace bA := bA.below hbb bA.lt
        have z1 := hbb.size
        refine hK.out _ _ (HRG.out _ D0zab) (fun hHeld => ?_)
        clear hK K
        refine wpAnyH_ready (rs := [4]) (by kernel_rfl) (by simp) ?_
        refine AllReadyH.cons rfl (fun K hK => ?_) AllReadyH.nil
        go_simp
        refine (HIM.out ts uu _ (hgB _ (BW.trans (D0zab.mono BW.size))) hvt.out hvu.out hot (LogA.short_of hvt.out hl) hou (short_wide (short_of hvu.out hlr))).mono ?_
        rintro e WAabc ⟨aw, rfl, hva, hoa, hbc⟩
        have hoaN := hoa
        have D0zabc : Below w19.heap.size w19 WAabc := D0zab.trans (hbc.mono D0zab.size)
        replace hoa : LogA.own WAabc w19.heap.size WAabc.heap.size aw := hoa.widen D0zab.size (Nat.le_refl _) (Nat.le_refl _)
        replace bA := bA.below hbc bA.lt
        have z2 := hbc.size
        refine hK.out _ _ (HRG.out _ D0zabc) (fun hHeld => ?_)
        clear hK K
        refine wpAnyH_take (i := 5) (v := .tuple #[.agg (LogA.cells aw).toArray, .int .i64 RK]) rfl (by kernel_rfl) (by kernel_rfl) (by kernel_rfl) (fun _ _ _ h => h) (Or.inl ⟨by rfl, fun w' _ => ?_⟩) hHeld ?_
        · go_simp
        go_simp
        refine wpAnyH_take (i := 6) (v := .agg (LogA.cells aw).toArray) rfl (by kernel_rfl) (by kernel_rfl) (by kernel_rfl) (fun _ _ _ h => h) (Or.inl ⟨by rfl, fun w' _ => ?_⟩) hHeld ?_
        · go_simp
        go_simp
        refine wpAnyH_take (i := 7) (v := .int .i64 RK) rfl (by kernel_rfl) (by kernel_rfl) (by kernel_rfl) (fun _ _ _ h => h) (Or.inl ⟨by rfl, fun w' _ => ?_⟩) hHeld ?_
        · go_simp
        go_simp
        have hlast : WAabc.heap.size ≤ WAabc.heap.size := Nat.le_refl _
        obtain ⟨WF, hWF, hwF, hsF, HTF, _, bF⟩ := log_out aw _ rfl bA
        have hltA := bA.lt
        have zD := D0zabc.size
        have zp2 := D0.size
        have zp3 := D0z.size
        have zp4 := D0za.size
        have zp5 := D0zab.size
        have oF : LogA.own WF w19.heap.size WF.heap.size aw := (hoaN.within hwF (by omega)).widen (by omega) (by omega) (Nat.le_refl _)
        have DF : Below w19.heap.size w19 WF := D0zabc.trans (hwF.below (by omega) (by omega))
        refine wpAnyH_ready (rs := [9]) (by kernel_rfl) (by simp) ?_
        refine AllReadyH.cons rfl (fun K hK => ?_) AllReadyH.nil
        rw [if_pos (by rfl)]
        refine wp_store_mid 26 (.tmp 15) (.tmp 100) rfl d0.heap.size 0 (LogA.cells aw).toArray rfl rfl HTF.out (by rw [List.size_toArray]; exact log_info _) (log_one _) ?_
        have HW : Hid ((WAabc).setCells d0.heap.size 0 (LogA.cells aw).toArray.toList = WF) := hWF.out
        rw [HW.out]
        refine hK.out _ _ (HRG.out _ DF) (fun hHeld => ?_)
        clear hK K HW hWF HTF hwF
        simp only [Act.put, List.getElem_toArray, List.getElem_cons_zero, List.getElem_cons_succ]
        refine wpAnyH_take (i := 10) (v := .int .i64 RK) rfl (by kernel_rfl) (by kernel_rfl) (by kernel_rfl) (fun _ _ _ h => h) (Or.inl ⟨by rfl, fun w' _ => ?_⟩) hHeld ?_
        · go_simp
        go_simp
        refine wpAnyH_done (by kernel_rfl) ?_ _
        clear hHeld
        go_wp2_with fail
        go_meet
        case rel => exact ⟨d0.heap.size, aw, rfl, rfl, hva, bF, oF, DF⟩
    case rest =>
      obtain ⟨B15, th, rfl, rfl, HVH, bx15, oh, hb20⟩ := hcut
      generalize wc = w20 at *
      have hhS := HSM.out hlr hl th HVH.out
      have HHW : Hid (tw.v = th.v) := HVW.out.trans HVH.out.symm
      replace bx2 := bx2.below hb20 bx2.lt
      replace bx3 := bx3.below hb20 bx3.lt
      replace bx6 := bx6.below hb20 bx6.lt
      replace bx8 := bx8.below hb20 bx8.lt
      replace bx9 := bx9.below hb20 bx9.lt
      replace bx10 := bx10.below hb20 bx10.lt
      replace ow := ow.below hb20
      replace og18 := og18.below hb20
      replace BW := BW.trans (hb20.mono BW.size)
      have s20 := hb20.size
      clear HRG
      go_wp2_with (first | (guard_target = wpList _ _ _ (Oper.mk (some 102) _ _ _ _ _ :: _) _ _; refine wpList_load_mid rfl 26 (.tmp 15) rfl B15 0 rfl (LogA.cells th) _ (log_rng _ bx15) Tryz.underlying26 rfl (log_info _) ?_) | (guard_target = wpList _ _ _ (Oper.mk (some 103) _ _ _ _ _ :: _) _ _; refine wpList_load_mid rfl 26 (.tmp 6) rfl B6 0 rfl (LogA.cells tw) _ (log_rng _ bx6) Tryz.underlying26 rfl (log_info _) ?_) | fail)
      refine (eqLog_same th tw HHW.out w20 oh.reads ow.reads (LogA.short_wide hhS)).mono ?_
      rintro e w21 ⟨rfl, hb21⟩
      replace bx2 := bx2.below hb21 bx2.lt
      replace bx3 := bx3.below hb21 bx3.lt
      replace bx6 := bx6.below hb21 bx6.lt
      replace bx8 := bx8.below hb21 bx8.lt
      replace bx9 := bx9.below hb21 bx9.lt
      replace bx10 := bx10.below hb21 bx10.lt
      replace ow := ow.below hb21
      replace og18 := og18.below hb21
      replace BW := BW.trans (hb21.mono BW.size)
      have s21 := hb21.size
      go_wp2_with (first | (guard_target = wpList _ _ _ (Oper.mk (some 111) _ _ _ _ _ :: _) _ _; refine wpList_load_mid rfl 26 (.tmp 10) rfl w8.heap.size 0 rfl (LogA.cells tg) _ (log_rng _ bx10) Tryz.underlying26 rfl (log_info _) ?_) | fail)
      refine (heldLog_any tg w7.heap.size w8.heap.size 1 w21 og18 (by have := hgS.len; omega) (by omega) (count_short hgS)).mono ?_
      rintro e w22 ⟨rfl, hb22⟩
      replace BW := BW.trans (hb22.mono BW.size)
      simp only
      go_wp2
      go_ret
      exact ⟨rfl, hbW.trans (BW.mono hbW.size)⟩
end Go.Proofs.YtoboickdkednkaaGreatDoor

/- What the row's condition on errors.errorType gives a walk; a world that meets it. -/
namespace Go.Proofs.YtoboickdkednkaaGreatDoor
open Go.ChangeShapes Go.WideShapes Go.RowKit

theorem Tryz.et : Tryz.prog.globalNamed "errors.errorType" = some 0 := by kernel_rfl
theorem Tryz.rt : (Tryz.prog.cutTypes.find? (·.1 == "internal/reflectlite.rtype")).map (·.2) = some 200 := by kernel_rfl
theorem Tryz.oneRow : ((List.range 242).filter fun t => Tryz.prog.rowNamed t [101, 114, 114, 111, 114]) = [165] := by kernel_rfl
theorem Tryz.typesSize : Tryz.prog.types.size = 242 := by kernel_rfl

theorem errT_of_handles {W : World} {laid : List (String × DataW Unit)} (hm : ("errors.errorType", Rows.laid_errors_errorType) ∈ laid) (h : handlesMet Tryz.prog laid W) : ErrT W := by
  obtain ⟨name, u, ty, e1, e2, e3, e4, e5⟩ := h _ hm
  have en : name = [101, 114, 114, 111, 114] := (Option.some.inj e1).symm
  subst en
  obtain rfl := Option.some.inj (Tryz.rt.symm.trans e2)
  have hm : ty ∈ (List.range 242).filter fun t => Tryz.prog.rowNamed t [101, 114, 114, 111, 114] := List.mem_filter.2 ⟨List.mem_range.2 (by rw [← Tryz.typesSize]; exact e3), e4⟩
  rw [Tryz.oneRow] at hm
  obtain rfl := List.mem_singleton.1 hm
  have hh : typeHandle Tryz.prog 165 = .pointer (some ⟨1, 165, none⟩) := by kernel_rfl
  rw [hh] at e5
  unfold ErrT
  simpa using World.var?_cell Tryz.et e5 0

/-- The one listed variable. -/
def laid1 : List (String × DataW Unit) := [("errors.errorType", Rows.laid_errors_errorType)]
theorem errT_of_laid1 {W : World} (h : laidMetH Tryz.prog laid1 W) : ErrT W := by
  have h' : laidMet Tryz.prog [] W ∧ handlesMet Tryz.prog laid1 W := h
  exact errT_of_handles (List.mem_singleton.2 rfl) h'.2
end Go.Proofs.YtoboickdkednkaaGreatDoor
