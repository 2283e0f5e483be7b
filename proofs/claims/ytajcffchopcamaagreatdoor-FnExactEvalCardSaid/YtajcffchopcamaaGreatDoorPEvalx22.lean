/- Several texts in one, in their order. -/
import Derived.Test.YtajcffchopcamaaGreatDoorPEvalx11
import Derived.Test.YtajcffchopcamaaGreatDoorPEvalx5
import Derived.Deep.CutRange
/- The walks of laws.markSlotS, heldSlotS: rows of slots with marks. -/
namespace Go.Proofs.YtajcffchopcamaaGreatDoor
open Go.RowKit

/-- A slot with marks from k on: all of it. -/
def markV1 (s : SlotA) (k : Int) : SlotA := ⟨⟨(k % 3 == 0), ⟨k + 1, marksI (k + 1 + 1) s.v.o.ints.length, marksI (k + 1 + 1 + s.v.o.ints.length) s.v.o.refs.length⟩⟩, s.aI, s.cI, s.aR, s.cR⟩
def countV1 (s : SlotA) : Nat := 2 + s.v.o.ints.length + s.v.o.refs.length
theorem markV1_blocks (r : SlotA) (k : Int) : (markV1 r k).blocks = r.blocks := by simp [markV1, SlotA.blocks, marksI_len]
theorem ownsRow_atV {w : World} {base : Nat} {e : TypeId} {size n : Nat} {v : Value} {xs : List Value} (h : w.ownsRow base e size v n xs) {k : Nat} (hk : v.ownBlock = some k) : ∃ cur, w.heap[k]? = some (.cells cur e (0, 0)) := by
  rcases h.2 with ⟨rfl, _⟩ | ⟨g, cap, cur, rfl, _, hg, _⟩
  · cases hk
  · cases hk
    exact ⟨cur, hg⟩
theorem row_apartV {w : World} {base lo hi n : Nat} {v : Value} {xs : List Value} {r : SlotA} (h : w.ownsRow base 41 4 v n xs) (hr : r.own w lo hi) : ∀ k, v.ownBlock = some k → k ∉ r.blocks := by
  intro k hk hm
  have no : ∀ {b2 s2 n2 : Nat} {e2 : TypeId} {v2 : Value} {x2 : List Value}, w.ownsRow b2 e2 s2 v2 n2 x2 → v2.ownBlock = some k → e2 = 41 := by
    intro b2 s2 n2 e2 v2 x2 h2 hk2
    obtain ⟨c1, h1⟩ := ownsRow_atV h hk
    obtain ⟨c2, h3⟩ := ownsRow_atV h2 hk2
    rw [h1] at h3
    simp only [Option.some.injEq, Obj.cells.injEq] at h3
    exact h3.2.1.symm
  simp only [SlotA.blocks, List.mem_append, Option.mem_toList] at hm
  rcases hm with h1 | h1
  · have := no hr.ints.1 h1; cases this
  · have := no hr.refs.1 h1; cases this
def markVs : List SlotA → Int → List SlotA
  | [], _ => []
  | r :: t, k => markV1 r k :: markVs t (k + countV1 r)
def countVs : List SlotA → Nat
  | [] => 0
  | r :: t => countV1 r + countVs t
theorem markVs_len (rs : List SlotA) : ∀ k, (markVs rs k).length = rs.length := by
  induction rs with
  | nil => intro k; rfl
  | cons x r ih => intro k; simp [markVs, ih]
theorem markVs_app (A B : List SlotA) : ∀ k, markVs (A ++ B) k = markVs A k ++ markVs B (k + countVs A) := by
  induction A with
  | nil => intro k; simp [markVs, countVs]
  | cons x r ih =>
    intro k
    simp only [List.cons_append, markVs, ih, countVs]
    congr 3
    omega
theorem countVs_app (A B : List SlotA) : countVs (A ++ B) = countVs A + countVs B := by
  induction A with
  | nil => simp [countVs]
  | cons x r ih => simp only [List.cons_append, countVs, ih]; omega
theorem slots_splitV (rs : List SlotA) (j : Nat) (h : j < rs.length) : rs.drop j = rs.getD j zeroS :: rs.drop (j + 1) ∧ rs.take (j + 1) = rs.take j ++ [rs.getD j zeroS] := by
  have e : rs.getD j zeroS = rs[j] := by simp [List.getD, h]
  exact ⟨by rw [List.drop_eq_getElem_cons h, e], by rw [List.take_succ_eq_append_getElem h, e]⟩
/-- How far the marks have come. -/
def halfVs (rs : List SlotA) (k : Int) (j : Nat) : List SlotA := markVs (rs.take j) k ++ rs.drop j
theorem halfVs_len (rs : List SlotA) (k : Int) (j : Nat) (h : j ≤ rs.length) : (halfVs rs k j).length = rs.length := by simp [halfVs, markVs_len]; omega
theorem halfVs_at (rs : List SlotA) (k : Int) (j : Nat) (h : j < rs.length) : halfVs rs k j = markVs (rs.take j) k ++ rs.getD j zeroS :: rs.drop (j + 1) := by rw [halfVs, (slots_splitV rs j h).1]
theorem halfVs_next (rs : List SlotA) (k : Int) (j : Nat) (h : j < rs.length) : halfVs rs k (j + 1) = markVs (rs.take j) k ++ markV1 (rs.getD j zeroS) (k + countVs (rs.take j)) :: rs.drop (j + 1) := by
  rw [halfVs, (slots_splitV rs j h).2, markVs_app]
  simp [markVs]
theorem countVs_next (rs : List SlotA) (j : Nat) (h : j < rs.length) : countVs (rs.take (j + 1)) = countVs (rs.take j) + countV1 (rs.getD j zeroS) := by
  rw [(slots_splitV rs j h).2, countVs_app]
  simp [countVs]
theorem countVs_le (rs : List SlotA) (j : Nat) : countVs (rs.take j) ≤ countVs rs := by
  have : countVs rs = countVs (rs.take j) + countVs (rs.drop j) := by rw [← countVs_app, List.take_append_drop]
  omega

def RowV (w : World) (base g n cap : Nat) (pre cs post : List Value) : Prop := w.ownsRow base 41 4 (.slice (some ⟨g, 0, none⟩) n cap) n (pre ++ (cs ++ post))
theorem RowV.cell {w : World} {base g n cap j : Nat} {pre cs post : List Value} (h : RowV w base g n cap pre cs post) (hp : pre.length = j * 4) (hc : cs.length = 4) (i : Nat) (v : Value) (hv : cs[i]? = some v) : w.cell? ⟨g, j * 4 + i, none⟩ = some v := by
  have hi : i < 4 := by have := (List.getElem?_eq_some_iff.1 hv).1; omega
  have hl := h.1
  rw [List.length_append, List.length_append] at hl
  rw [World.ownsRow.cellAt h (j * 4 + i) (by omega), List.getElem?_append_right (by omega), List.getElem?_append_left (by omega), show j * 4 + i - pre.length = i by omega]
  exact hv
theorem RowV.frozen {w : World} {base g n cap : Nat} {pre cs post : List Value} (h : RowV w base g n cap pre cs post) (i : Nat) : w.frozen? ⟨g, i, none⟩ = false := World.ownsRow.frozenAt h i
theorem RowV.set {w : World} {base g n cap j : Nat} {pre cs post : List Value} (h : RowV w base g n cap pre cs post) (hp : pre.length = j * 4) (hc : cs.length = 4) (i : Nat) (hi : i < 4) (v : Value) : RowV (w.setCell ⟨g, j * 4 + i, none⟩ v) base g n cap pre (cs.set i v) post ∧ w.grownBy (w.setCell ⟨g, j * 4 + i, none⟩ v) (some g) := by
  have := World.ownsRow.stored h (j * 4 + i) v
  rw [List.set_append_right _ _ (by omega), show j * 4 + i - pre.length = i by omega, List.set_append_left _ _ (by omega)] at this
  exact this
theorem RowV.block {w w' : World} {base g n cap : Nat} {pre cs post : List Value} (h : RowV w base g n cap pre cs post) (hb : w'.heap[g]? = w.heap[g]?) : RowV w' base g n cap pre cs post := ownsRow_block h (fun k hk => by cases hk; exact hb)
theorem RowV.keep {w w' : World} {base g n cap : Nat} {pre cs post : List Value} {bl : List Nat} (h : RowV w base g n cap pre cs post) (ht : Touch bl w w') (hd : g ∉ bl) : RowV w' base g n cap pre cs post := h.block (ht.block g (World.ownsRow.lt h g rfl).2 hd)

theorem markIntS_touchV (lo hi : Nat) (a : Option Addr) (cap : Nat) (k0 : Int) (xs : List Int) (w : World) (ho : OwnI w lo hi a cap xs) (h0 : 0 ≤ k0) (hl : k0 + xs.length ≤ 4611686018427387904) :
    Calls Tryz.prog 24 #[.slice a xs.length cap, .int .i64 k0] w fun e w' => e = .returned (.int .i64 (k0 + xs.length)) ∧ OwnI w' lo hi a cap (marksI k0 xs.length) ∧ Touch (Value.slice a xs.length cap).ownBlock.toList w w' := by
  refine (markIntS_any lo a cap k0 xs w ho.1 h0 hl).mono ?_
  rintro e w' ⟨rfl, h1, h2⟩
  exact ⟨rfl, ⟨by rw [marksI_len]; exact h1, Nat.le_trans ho.2.1 h2.size, by rw [marksI_len]; exact ho.2.2⟩, Touch.of_grown h2 (fun j hj => Option.mem_toList.2 hj)⟩
theorem OwnI.keepV {w w' : World} {lo hi : Nat} {a : Option Addr} {c : Nat} {ns : List Int} {bl : List Nat} (h : OwnI w lo hi a c ns) (ht : Touch bl w w') (hd : ∀ k, k ∈ (Value.slice a ns.length c).ownBlock.toList → k ∉ bl) : OwnI w' lo hi a c ns := h.touch ht (fun k hk => hd k (Option.mem_toList.2 hk))
theorem OwnVw.replace {w w' : World} {lo hi g c : Nat} {A B : List SlotA} {z y : SlotA} (h : OwnVw w lo hi (some ⟨g, 0, none⟩) c (A ++ z :: B)) (ht : Touch (g :: z.blocks) w w') (hrow : RowV w' lo g (A ++ z :: B).length c (cellsVw A) y.cells (cellsVw B)) (hy : y.own w' lo hi) (hb : y.blocks = z.blocks) : OwnVw w' lo hi (some ⟨g, 0, none⟩) c (A ++ y :: B) := by
  have hap := h.apart
  simp only [List.flatMap_append, List.flatMap_cons, Value.ownBlock, Option.toList, List.singleton_append, List.nodup_cons, List.nodup_append, List.mem_append, not_or] at hap
  obtain ⟨⟨n1, n2, n3⟩, a1, ⟨a2, a3, a4⟩, a5⟩ := hap
  refine ⟨?_, Nat.le_trans h.top ht.size, fun k hk => by cases hk; exact h.blk g rfl, fun r hr => ?_, ?_⟩
  · have e : (A ++ y :: B).length = (A ++ z :: B).length := by simp
    rw [e, cellsVw_app, cellsVw_cons]
    exact hrow
  · rcases List.mem_append.1 hr with hr | hr
    · refine SlotA.touch (h.each r (by simp [hr])) ht (fun k hk hk' => ?_)
      have hm : k ∈ A.flatMap SlotA.blocks := List.mem_flatMap.2 ⟨r, hr, hk⟩
      rcases List.mem_cons.1 hk' with rfl | hk'
      · exact n1 hm
      · exact a5 k hm k (.inl hk') rfl
    · rcases List.mem_cons.1 hr with rfl | hr
      · exact hy
      · refine SlotA.touch (h.each r (by simp [hr])) ht (fun k hk hk' => ?_)
        have hm : k ∈ B.flatMap SlotA.blocks := List.mem_flatMap.2 ⟨r, hr, hk⟩
        rcases List.mem_cons.1 hk' with rfl | hk'
        · exact n3 hm
        · exact a4 k hk' k hm rfl
  · have := h.apart
    simp only [List.flatMap_append, List.flatMap_cons] at this ⊢
    rw [hb]
    exact this

set_option maxHeartbeats 4000000 in
set_option maxRecDepth 100000 in
theorem markSlotS_touch (lo hi : Nat) (a : Option Addr) (cap : Nat) (k0 : Int) (rs : List SlotA) (w : World) (ho : OwnVw w lo hi a cap rs) (hl : ∀ r ∈ rs, r.short 1099511627776) (h0 : 0 ≤ k0) (hk : k0 + countVs rs ≤ 1152921504606846976) :
    Calls Tryz.prog 22 #[.slice a rs.length cap, .int .i64 k0] w fun e w' => e = .returned (.int .i64 (k0 + countVs rs)) ∧ OwnVw w' lo hi a cap (markVs rs k0) ∧ Touch (blocksVw a cap rs) w w' := by
  rcases ho.row.2 with ⟨hv, h00⟩ | ⟨g, cap', cur, hv, hg, hgg, hr⟩
  · simp only [Value.slice.injEq] at hv
    obtain ⟨rfl, _, rfl⟩ := hv
    obtain rfl := List.length_eq_zero_iff.1 h00
    go_enter Tryz.func22, Tryz.ntmps22
    go_wp2
    refine wp_loop_rounds 1 ?_
    rw [rounds_succ]
    go_wp2
    go_ret
    exact ⟨by simp [countVs], ho, Touch.refl _ _⟩
  · simp only [Value.slice.injEq] at hv
    obtain ⟨rfl, _, rfl⟩ := hv
    have hlm : rs.length ≤ maxLen := Nat.le_trans hr.1 hr.2.1
    simp only [maxLen] at hlm
    clear hgg hr
    have HH : Hid (halfVs rs k0 0 = rs ∧ halfVs rs k0 rs.length = markVs rs k0) := ⟨by simp [halfVs, markVs], by simp [halfVs]⟩
    have HST : Hid (OwnVw w lo hi (some ⟨g, 0, none⟩) cap (halfVs rs k0 0)) := by rw [HH.out.1]; exact ho
    have HSH : Hid (∀ j, j < rs.length → (rs.getD j zeroS).short 1099511627776) := fun j hj => hl _ (slotD_mem rs j hj)
    have HSUB : Hid (∀ j, j < rs.length → ∀ k ∈ g :: (rs.getD j zeroS).blocks, k ∈ blocksVw (some ⟨g, 0, none⟩) cap rs) := fun j hj k hk => by
      rcases List.mem_cons.1 hk with rfl | hk
      · exact List.mem_append.2 (.inl (by simp [Value.ownBlock]))
      · exact List.mem_append.2 (.inr (List.mem_flatMap.2 ⟨_, slotD_mem rs j hj, hk⟩))
    clear ho hl
    go_enter Tryz.func22, Tryz.ntmps22
    go_wp2
    go_loopw [1, 5] (fun kk i wr => ∃ j : Nat, j ≤ rs.length ∧ i = .int .i64 j ∧ kk = .int .i64 (k0 + countVs (rs.take j)) ∧ Hid (OwnVw wr lo hi (some ⟨g, 0, none⟩) cap (halfVs rs k0 j)) ∧ Touch (blocksVw (some ⟨g, 0, none⟩) cap rs) w wr)
      (fun _ i _ => rs.length - (RowKit.intOf i).toNat)
    case atStart => exact ⟨0, Nat.zero_le _, rfl, by simp [countVs], HST, Touch.refl _ _⟩
    case round =>
      obtain ⟨j, hj, rfl, rfl, hown, htw⟩ := hrel
      clear HST
      by_cases hlt : j < rs.length
      · have hsh := HSH.out j hlt
        have hsub := HSUB.out j hlt
        have hcn := countVs_next rs j hlt
        have hcl := countVs_le rs (j + 1)
        have ho := hown.out
        rw [halfVs_at rs k0 j hlt] at ho
        have hlen := halfVs_len rs k0 j hj
        rw [halfVs_at rs k0 j hlt] at hlen
        have HN : Hid (halfVs rs k0 (j + 1) = _) := halfVs_next rs k0 j hlt
        have hA : (cellsVw (markVs (rs.take j) k0)).length = j * 4 := by rw [cellsVw_len, markVs_len, List.length_take]; congr 1; omega
        have HCN : Hid (k0 + countVs (rs.take (j + 1)) = k0 + countVs (rs.take j) + countV1 (rs.getD j zeroS)) := by rw [Hid, hcn]; omega
        have hkb : 0 ≤ k0 + (countVs (rs.take j) : Int) ∧ k0 + (countVs (rs.take j) : Int) + countV1 (rs.getD j zeroS) ≤ 1152921504606846976 := ⟨by omega, by omega⟩
        clear hcn hcl hown hk h0
        generalize k0 + (countVs (rs.take j) : Int) = kk at *
        generalize markVs (rs.take j) k0 = A at *
        generalize rs.drop (j + 1) = B at *
        generalize rs.getD j zeroS = z at *
        have hz : z.own wr lo hi := ho.each z (List.mem_append.2 (.inr (List.mem_cons.2 (.inl rfl))))
        have HG : Hid (g ∉ z.blocks) := row_apartV ho.row hz g rfl
        have HGN : Hid (g ∉ (Value.slice z.aI z.v.o.ints.length z.cI).ownBlock.toList ∧ g ∉ (Value.slice z.aR z.v.o.refs.length z.cR).ownBlock.toList) := by
          have := HG.out
          simp only [SlotA.blocks, List.mem_append, not_or] at this
          exact this
        have HAP : Hid (∀ k, k ∈ (Value.slice z.aI z.v.o.ints.length z.cI).ownBlock.toList → k ∉ (Value.slice z.aR z.v.o.refs.length z.cR).ownBlock.toList) := by
          have := SlotA.blocks_nodup hz
          simp only [SlotA.blocks, List.nodup_append] at this
          exact fun k h1 h2 => this.2.2 k h1 k h2 rfl
        have HM : Hid ((∀ k ∈ (Value.slice z.aI z.v.o.ints.length z.cI).ownBlock.toList, k ∈ g :: z.blocks) ∧ (∀ k ∈ (Value.slice z.aR z.v.o.refs.length z.cR).ownBlock.toList, k ∈ g :: z.blocks)) := ⟨fun k h => List.mem_cons.2 (.inr (List.mem_append.2 (.inl h))), fun k h => List.mem_cons.2 (.inr (List.mem_append.2 (.inr h)))⟩
        have row : RowV wr lo g rs.length cap (cellsVw A) z.cells (cellsVw B) := by
          have := ho.row
          rw [hlen, cellsVw_app, cellsVw_cons] at this
          exact this
        have hI := hz.ints
        have hR := hz.refs
        have hcz : countV1 z = 2 + z.v.o.ints.length + z.v.o.refs.length := rfl
        have HGB : Hid (∀ k ∈ [g], k ∈ g :: z.blocks) := fun k hk => List.mem_cons.2 (.inl (List.mem_singleton.1 hk))
        have HNG : Hid (∀ (L : List Nat), g ∉ L → ∀ k, k ∈ L → k ∉ [g]) := fun L hg k hk hk' => hg (by rw [← List.mem_singleton.1 hk']; exact hk)
        clear hz
        simp only [SlotA.cells] at row
        have x0 : wr.cell? ⟨g, j * 4, none⟩ = _ := row.cell hA rfl 0 _ rfl
        have x1 := row.cell hA rfl 1 _ rfl
        have f0 : wr.frozen? ⟨g, j * 4, none⟩ = false := row.frozen _
        have f1 := row.frozen (j * 4 + 1)
        obtain ⟨a0, g0⟩ := row.set hA rfl 0 (by omega) (.bool (kk % 3 == 0))
        obtain ⟨a1, g1⟩ := a0.set hA rfl 1 (by omega) (.int .i64 (kk + 1))
        have t1 : Touch [g] wr _ := Touch.of_grown (grownBy_trans g0 g1) (fun k hk => by cases hk; simp)
        obtain ⟨W1, hW1⟩ : ∃ W1, Hid ((wr.setCell ⟨g, j * 4, none⟩ (.bool (kk % 3 == 0))).setCell ⟨g, j * 4 + 1, none⟩ (.int .i64 (kk + 1)) = W1) := ⟨_, rfl⟩
        have row1 : RowV W1 lo g rs.length cap (cellsVw A) [.bool (kk % 3 == 0), .int .i64 (kk + 1), .slice z.aI z.v.o.ints.length z.cI, .slice z.aR z.v.o.refs.length z.cR] (cellsVw B) := by rw [← hW1.out]; exact a1
        have t1' : Touch [g] wr W1 := by rw [← hW1.out]; exact t1
        have HT : Hid (Touch (g :: z.blocks) wr W1) := t1'.mono HGB.out
        have I1 := hI.keepV t1' (HNG.out _ HGN.out.1)
        have R1 := hR.keepV t1' (HNG.out _ HGN.out.2)
        clear t1 t1' hI hR row a0 a1 g0 g1
        go_upto_region 8 with fail
        rw [hW1.out]
        clear hW1 x0 x1 f0 f1
        have y2 := row1.cell hA rfl 2 _ rfl
        have C := markIntS_touchV lo hi z.aI z.cI (kk + 1 + 1) z.v.o.ints W1 I1 (by omega) (by omega)
        go_wp2_with fail
        refine C.mono ?_
        clear C y2
        rintro e w2 ⟨rfl, mI, t2⟩
        have row2 := row1.keep t2 HGN.out.1
        have HT2 : Hid (Touch (g :: z.blocks) wr w2) := HT.out.trans (t2.mono HM.out.1)
        have R2 := R1.keepV t2 (fun k hk h => HAP.out k h hk)
        clear I1 R1 t2 row1 HT
        have y3 := row2.cell hA rfl 3 _ rfl
        have C := markIntS_touchV lo hi z.aR z.cR (kk + 1 + 1 + z.v.o.ints.length) z.v.o.refs w2 R2 (by omega) (by omega)
        go_wp2_with fail
        refine C.mono ?_
        clear C y3
        rintro e w3 ⟨rfl, mR, t3⟩
        have row3 := row2.keep t3 HGN.out.2
        have HT3 : Touch (g :: z.blocks) wr w3 := HT2.out.trans (t3.mono HM.out.2)
        have mI3 := mI.keepV t3 (fun k hk h => HAP.out k (by rw [marksI_len] at hk; exact hk) h)
        have HEND : Hid (OwnVw w3 lo hi (some ⟨g, 0, none⟩) cap (halfVs rs k0 (j + 1)) ∧ Touch (blocksVw (some ⟨g, 0, none⟩) cap rs) w w3) := by
          refine ⟨?_, htw.trans (HT3.mono hsub)⟩
          rw [HN.out]
          refine ho.replace HT3 ?_ ⟨mI3, mR, fun k hk hk' => ?_⟩ (markV1_blocks _ _)
          · rw [hlen]
            simp only [markV1, SlotA.cells, marksI_len]
            exact row3
          · have h1 : (Value.slice z.aI z.v.o.ints.length z.cI).ownBlock = some k := by
              have := hk
              simpa only [markV1, marksI_len] using this
            have h2 : (Value.slice z.aR z.v.o.refs.length z.cR).ownBlock = some k := by
              have := hk'
              simpa only [markV1, marksI_len] using this
            exact HAP.out k (Option.mem_toList.2 h1) (Option.mem_toList.2 h2)
        have HNUM : Hid (k0 + (countVs (rs.take (j + 1)) : Int) = kk + 1 + 1 + z.v.o.ints.length + z.v.o.refs.length) := by rw [Hid, HCN.out, hcz]; omega
        clear mI mI3 mR t3 row2 row3 HT2 HT3 ho htw R2 HCN HN
        go_wp2_with fail
        go_roundw
        case rel => exact ⟨j + 1, by omega, by go_num, by rw [HNUM.out], HEND.out.1, HEND.out.2⟩
        case measure => simp [RowKit.intOf]; omega
      · have HE : Hid (OwnVw wr lo hi (some ⟨g, 0, none⟩) cap (markVs rs k0) ∧ k0 + (countVs (rs.take j) : Int) = k0 + countVs rs) := by
          have e : j = rs.length := by omega
          have := hown.out
          rw [e, HH.out.2] at this
          exact ⟨this, by rw [e, List.take_length]⟩
        rw [HE.out.2]
        go_wp2
        go_ret
        exact ⟨rfl, HE.out.1, htw⟩

end Go.Proofs.YtajcffchopcamaaGreatDoor
