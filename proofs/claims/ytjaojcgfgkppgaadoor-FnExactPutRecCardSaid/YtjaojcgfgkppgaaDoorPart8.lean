/- Several texts in one, in their order. -/
import Derived.Test.YtjaojcgfgkppgaaDoorPart2
import Derived.Laws.IdiomStrings
import Derived.Lib.BufferRead
import Derived.Test.YtjaojcgfgkppgaaDoorPart7
import Derived.Test.YtjaojcgfgkppgaaDoorPart5
import Derived.Test.YtjaojcgfgkppgaaDoorPart3
/- A text of bytes. -/
namespace Go.Proofs.YtjaojcgfgkppgaaDoor
open Go.RowKit

def strOf (G : List Int) : ByteArray := ⟨(G.map fun z => UInt8.ofNat z.toNat).toArray⟩

theorem run_text (w : World) (b off cap : Nat) (G : List Int) (n : Nat) (hn : n = G.length) (hr : Reads w (some ⟨b, off, none⟩) G) :
    (convert 22 9 (.slice (some ⟨b, off, none⟩) n cap)).run Tryd.prog w = .ok (.string (strOf G)) w := by
  have h := run_convert_bytes_back (P := Tryd.prog) w 22 9 5 ⟨b, off, none⟩ cap (G.map fun z => UInt8.ofNat z.toNat) Tryd.underlying22 Tryd.underlying5 Tryd.underlying9 ?_
  · rw [List.length_map] at h
    rw [hn, h]
    rfl
  · intro j hj
    rw [List.length_map] at hj
    have hne : G ≠ [] := by intro e; simp [e] at hj
    obtain ⟨b', off', hh, hc⟩ := hr.2 hne
    cases hh
    have hadd : (⟨b, off, none⟩ : Addr).add j = ⟨b, off + j, none⟩ := by unfold Addr.add; split <;> simp_all
    rw [hadd, hc j hj]
    have hb := bytes_nat hr.1 j
    have hg : G.getD j 0 = G[j] := by simp [List.getD, hj]
    rw [hg] at hb
    simp only [List.getElem_map, hg]
    have : (UInt8.ofNat G[j].toNat).toNat = G[j].toNat := by simp; omega
    rw [this, ← hb.1]

theorem run_text_own {w : World} {base : Nat} {a : Option Addr} {c : Nat} {ys : List Int} (h : OwnB w base a c ys) :
    (convert 22 9 (.slice a ys.length c)).run Tryd.prog w = .ok (.string (strOf ys)) w := by
  cases a with
  | none =>
    have hn : ys = [] := by
      by_cases e : ys = []
      · exact e
      · obtain ⟨b, off, hh, _⟩ := h.reads.2 e
        cases hh
    subst hn
    exact Lib.run_convert_nil_bytes (P := Tryd.prog) w 22 9 5 c Tryd.underlying22 Tryd.underlying5 Tryd.underlying9
  | some x =>
    rcases h.2.2 with ⟨hv, _⟩ | ⟨g, cap, cur, hv, _⟩
    · simp at hv
    · simp only [Value.slice.injEq, Option.some.injEq] at hv
      obtain ⟨rfl, _, rfl⟩ := hv
      exact run_text w g 0 c ys _ rfl h.reads

end Go.Proofs.YtjaojcgfgkppgaaDoor

/- The walks of impl.GetText and spec.GetText. -/
namespace Go.Proofs.YtjaojcgfgkppgaaDoor
open Go.RowKit

/-- What GetText answers. -/
def textOf (zs : List Int) (p : Int) : Value := match getAt zs p with
  | some r => if 0 ≤ r.1 ∧ r.1 ≤ (zs.length : Int) - (r.2 : Int) then .tuple #[.string (strOf ((zs.drop r.2).take r.1.toNat)), .int .i64 ((r.2 : Int) + r.1), .bool true] else .tuple #[.string ⟨#[]⟩, .int .i64 0, .bool false]
  | none => .tuple #[.string ⟨#[]⟩, .int .i64 0, .bool false]

set_option maxHeartbeats 400000 in
theorem implGetText_any (a : Option Addr) (c : Nat) (zs : List Int) (p : Int) (w : World) (hr : Reads w a zs) (hl : zs.length ≤ 70368744177664) (hcap : zs.length ≤ c) :
    Calls Tryd.prog 108 #[.slice a zs.length c, .int .i64 p] w fun e w' => e = .returned (textOf zs p) ∧ w' = w := by
  cases hg : getAt zs p with
  | none =>
    have HT : Hid (textOf zs p = _) := (show textOf zs p = .tuple #[.string ⟨#[]⟩, .int .i64 0, .bool false] from by unfold textOf; rw [hg])
    have HG : Hid (_ = _) := hg
    clear hg
    go_enter Tryd.func108, Tryd.ntmps108
    go_wp2_with fail
    refine (implGetInt_any a c zs p w hr hl hcap).mono ?_
    rintro e w' ⟨rfl, rfl⟩
    rw [HG.out]
    simp only [triple]
    go_wp2
    go_ret3
    exact ⟨by rw [HT.out]; rfl, rfl⟩
  | some r =>
    obtain ⟨n, k⟩ := r
    obtain ⟨hk, hn1, hn2⟩ := getAt_bd zs p n k hg
    have HG : Hid (_ = _) := hg
    by_cases h0 : n < 0
    · have HT : Hid (textOf zs p = _) := (show textOf zs p = .tuple #[.string ⟨#[]⟩, .int .i64 0, .bool false] from by unfold textOf; rw [hg]; simp only; rw [if_neg (by omega)])
      clear hg
      go_enter Tryd.func108, Tryd.ntmps108
      go_wp2_with fail
      refine (implGetInt_any a c zs p w hr hl hcap).mono ?_
      rintro e w' ⟨rfl, rfl⟩
      rw [HG.out]
      simp only [triple]
      go_wp2
      go_ret3
      exact ⟨by rw [HT.out]; rfl, rfl⟩
    obtain ⟨m, rfl⟩ := Int.eq_ofNat_of_zero_le (show 0 ≤ n from by omega)
    by_cases h1 : (zs.length : Int) - (k : Int) < (m : Int)
    · have HT : Hid (textOf zs p = _) := (show textOf zs p = .tuple #[.string ⟨#[]⟩, .int .i64 0, .bool false] from by unfold textOf; rw [hg]; simp only; rw [if_neg (by omega)])
      clear hg
      go_enter Tryd.func108, Tryd.ntmps108
      go_wp2_with fail
      refine (implGetInt_any a c zs p w hr hl hcap).mono ?_
      rintro e w' ⟨rfl, rfl⟩
      rw [HG.out]
      simp only [triple]
      go_wp2
      go_ret3
      exact ⟨by rw [HT.out]; rfl, rfl⟩
    have HT : Hid (textOf zs p = _) := (show textOf zs p = .tuple #[.string (strOf ((zs.drop k).take m)), .int .i64 ((k : Int) + (m : Int)), .bool true] from by unfold textOf; rw [hg]; simp only; rw [if_pos (by omega), Int.toNat_natCast])
    rcases hr.cases with rfl | ⟨b, off, rfl, hpos, hcell⟩
    · simp [getAt, getOf, lead] at hg
    have hrp := reads_part hr.byte hcell k m (by omega)
    have hml : ((zs.drop k).take m).length = m := by simp; omega
    clear hg hcell
    generalize (zs.drop k).take m = G at *
    have HML : Hid (G.length = m) := hml
    clear hml
    by_cases hck : c = k
    · have hm0 : m ≤ 0 := by omega
      have hG : G = [] := by have := HML.out; exact List.length_eq_zero_iff.1 (by omega)
      have HGE : Hid (strOf G = strOf []) := by rw [hG]; rfl
      have hcA : ∀ cap, (convert 22 9 (.slice (some ⟨b, off, none⟩) (k + m - k) cap)).run Tryd.prog w = .ok (.string (strOf [])) w := fun cap => run_text w b off cap [] _ (by simp; omega) ⟨by simp, by simp⟩
      have hcB : ∀ cap, (convert 22 9 (.slice (some ⟨b, off, none⟩) m cap)).run Tryd.prog w = .ok (.string (strOf [])) w := fun cap => run_text w b off cap [] _ (by simp; omega) ⟨by simp, by simp⟩
      clear hG hrp
      subst hck
      go_enter Tryd.func108, Tryd.ntmps108
      go_wp2_with fail
      refine (implGetInt_any (some ⟨b, off, none⟩) c zs p w hr hl hcap).mono ?_
      rintro e w' ⟨rfl, rfl⟩
      rw [HG.out]
      simp only [triple]
      go_wp2
      go_ret3
      exact ⟨by rw [HT.out, HGE.out]; rfl, rfl⟩
    · have hcA : ∀ cap, (convert 22 9 (.slice (some ⟨b, off + k, none⟩) (k + m - k) cap)).run Tryd.prog w = .ok (.string (strOf G)) w := fun cap => run_text w b (off + k) cap G _ (by have := HML.out; omega) hrp
      have hcB : ∀ cap, (convert 22 9 (.slice (some ⟨b, off + k, none⟩) m cap)).run Tryd.prog w = .ok (.string (strOf G)) w := fun cap => run_text w b (off + k) cap G _ HML.out.symm hrp
      clear hrp
      go_enter Tryd.func108, Tryd.ntmps108
      go_wp2_with fail
      refine (implGetInt_any (some ⟨b, off, none⟩) c zs p w hr hl hcap).mono ?_
      rintro e w' ⟨rfl, rfl⟩
      rw [HG.out]
      simp only [triple]
      go_wp2
      go_ret3
      exact ⟨by rw [HT.out]; rfl, rfl⟩
end Go.Proofs.YtjaojcgfgkppgaaDoor

/- The walk of impl.PutInt. -/
namespace Go.Proofs.YtjaojcgfgkppgaaDoor
open Go.RowKit

end Go.Proofs.YtjaojcgfgkppgaaDoor

/- The walks of laws.markLiveS and laws.heldLiveS. -/
namespace Go.Proofs.YtjaojcgfgkppgaaDoor
open Go.RowKit

def markL1 (k0 : Int) (i : Nat) : LiveV := ⟨k0 + 3 * i, k0 + 3 * i + 1, ((k0 + 3 * i + 1 + 1) % 3 == 0)⟩
def marksL (k0 : Int) (n : Nat) : List LiveV := (List.range n).map fun i : Nat => markL1 k0 i
theorem marksL_len (k0 : Int) (n : Nat) : (marksL k0 n).length = n := by simp [marksL]
theorem marksL_at (k0 : Int) (n i : Nat) (h : i < n) : (marksL k0 n).getD i zeroL = markL1 k0 i := by simp [marksL, List.getD, h]
theorem marksL_succ (k0 : Int) (n : Nat) : marksL k0 (n + 1) = marksL k0 n ++ [markL1 k0 n] := by simp [marksL, List.range_succ]
def markedL (k0 : Int) (xs : List LiveV) (k : Nat) : List LiveV := marksL k0 k ++ xs.drop k
theorem markedL_len (k0 : Int) (xs : List LiveV) (k : Nat) (h : k ≤ xs.length) : (markedL k0 xs k).length = xs.length := by simp [markedL, marksL_len]; omega
theorem markedL_set (k0 : Int) (xs : List LiveV) (k : Nat) (h : k < xs.length) : (markedL k0 xs k).set k (markL1 k0 k) = markedL k0 xs (k + 1) := by
  unfold markedL
  rw [List.set_append, if_neg (by rw [marksL_len]; omega), marksL_len, Nat.sub_self, marksL_succ, List.drop_eq_getElem_cons h, List.set_cons_zero]
  simp
theorem markedL_all (k0 : Int) (xs : List LiveV) : markedL k0 xs xs.length = marksL k0 xs.length := by simp [markedL]

set_option maxHeartbeats 1000000 in
set_option maxRecDepth 100000 in
theorem markLiveS_any (base : Nat) (a : Option Addr) (cap : Nat) (k0 : Int) (xs : List LiveV) (w : World)
    (hown : w.ownsRow base 65 3 (.slice a xs.length cap) xs.length (cellsL xs)) (h0 : 0 ≤ k0) (hl : k0 + 3 * xs.length ≤ 4611686018427387904) :
    Calls Tryd.prog 59 #[.slice a xs.length cap, .int .i64 k0] w fun e w' => e = .returned (.int .i64 (k0 + 3 * xs.length)) ∧
      w'.ownsRow base 65 3 (.slice a xs.length cap) xs.length (cellsL (marksL k0 xs.length)) ∧ w.grownBy w' (Value.slice a xs.length cap).ownBlock := by
  have hlen := hown.1
  rcases hown.2 with ⟨hv, h00⟩ | ⟨g, cap', cur, hv, hg, hgg, hr⟩
  · simp only [Value.slice.injEq] at hv
    obtain ⟨rfl, h00', rfl⟩ := hv
    obtain rfl := List.length_eq_zero_iff.1 h00
    go_enter Tryd.func59, Tryd.ntmps59
    go_wp2
    refine wp_loop_rounds 1 ?_
    rw [rounds_succ]
    go_wp2
    go_ret
    exact ⟨by simp, hown, World.grownBy.refl _ _⟩
  · simp only [Value.slice.injEq] at hv
    obtain ⟨rfl, _, rfl⟩ := hv
    clear hgg hr hlen
    have hM : w.ownsRow base 65 3 (.slice (some ⟨g, 0, none⟩) xs.length cap) xs.length (cellsL (markedL k0 xs 0)) := by simpa [markedL, marksL] using hown
    clear hown
    go_enter Tryd.func59, Tryd.ntmps59
    go_wp2
    go_loopw [1, 5] (fun kk i wr => ∃ k : Nat, k ≤ xs.length ∧ i = .int .i64 k ∧ kk = .int .i64 (k0 + 3 * k) ∧ wr.ownsRow base 65 3 (.slice (some ⟨g, 0, none⟩) xs.length cap) xs.length (cellsL (markedL k0 xs k)) ∧ w.grownBy wr (some g))
      (fun _ i _ => xs.length - (intOf i).toNat)
    case atStart => exact ⟨0, Nat.zero_le _, rfl, by simp, hM, World.grownBy.refl _ _⟩
    case round =>
      obtain ⟨k, hk, rfl, rfl, hown, hgr⟩ := hrel
      clear hM
      by_cases hlt : k < xs.length
      · have hp := markedL_len k0 xs k hk
        obtain ⟨x0, x1, x2, hfz⟩ := row_live hown hp k hlt
        have f0 := hfz (k * 3)
        have f1 := hfz (k * 3 + 1)
        have f2 := hfz (k * 3 + 2)
        obtain ⟨W2, hW2, ho2, hg2⟩ := row_store hown hp k hlt (markL1 k0 k)
        rw [markedL_set k0 xs k hlt] at ho2
        have HH : Hid (_ ∧ _) := ⟨ho2, grownBy_trans hgr hg2⟩
        clear ho2 hg2 hfz hown hgr
        generalize (markedL k0 xs k).getD k zeroL = old at *
        simp only [markL1] at hW2
        go_wp2
        rw [hW2.out]
        go_roundw
        case rel => exact ⟨k + 1, by omega, by go_num, by go_num, HH.out.1, HH.out.2⟩
        case measure => simp [intOf]; omega
      · have HE : Hid (wr.ownsRow base 65 3 (.slice (some ⟨g, 0, none⟩) xs.length cap) xs.length (cellsL (marksL k0 xs.length)) ∧ k = xs.length) := by
          have e : k = xs.length := by omega
          rw [e, markedL_all] at hown
          exact ⟨hown, e⟩
        go_wp2
        go_ret
        exact ⟨ret_int (by have := HE.out.2; omega), HE.out.1, hgr⟩

theorem markLiveS_own (lo hi : Nat) (a : Option Addr) (cap : Nat) (k0 : Int) (xs : List LiveV) (w : World) (ho : OwnL w lo hi a cap xs) (h0 : 0 ≤ k0) (hl : k0 + 3 * xs.length ≤ 4611686018427387904) :
    Calls Tryd.prog 59 #[.slice a xs.length cap, .int .i64 k0] w fun e w' => e = .returned (.int .i64 (k0 + 3 * xs.length)) ∧
      OwnL w' lo hi a cap (marksL k0 xs.length) ∧ Touch (Value.slice a xs.length cap).ownBlock.toList w w' := by
  refine (markLiveS_any lo a cap k0 xs w ho.1 h0 hl).mono ?_
  rintro e w' ⟨rfl, h1, h2⟩
  refine ⟨rfl, ⟨by rw [marksL_len]; exact h1, Nat.le_trans ho.2.1 h2.size, by rw [marksL_len]; exact ho.2.2⟩, Touch.of_grown h2 (fun j hj => Option.mem_toList.2 hj)⟩

end Go.Proofs.YtjaojcgfgkppgaaDoor

/- The walks of laws.markRec and laws.heldRec. -/
namespace Go.Proofs.YtjaojcgfgkppgaaDoor
open Go.RowKit

def RecA.mark (r : RecA) (k : Int) : RecA := { r with bf := r.bf.mark k, af := r.af.mark (k + r.bf.count), txs := marksL (k + r.bf.count + r.af.count) r.txs.length }
def RecA.count (r : RecA) : Nat := r.bf.count + r.af.count + 3 * r.txs.length
theorem markR_blocks (r : RecA) (k : Int) : (r.mark k).blocks = r.blocks := by simp [RecA.mark, RecA.blocks, mark_blocks, marksL_len]
theorem markR_cells (r : RecA) (k : Int) : (r.mark k).cells = r.cells := by simp [RecA.mark, RecA.cells, SlotA.mark, markO, marksI_len, marksL_len]

set_option maxHeartbeats 1000000 in
set_option maxRecDepth 100000 in
theorem markRec_touch (r : RecA) (lo hi : Nat) (k0 : Int) (w : World) (ho : r.own w lo hi) (hl : r.short 1099511627776) (h0 : 0 ≤ k0) (hk : k0 ≤ 1099511627776) :
    Calls Tryd.prog 24 #[.agg r.cells.toArray, .int .i64 k0] w fun e w' => e = .returned (.int .i64 (k0 + r.count)) ∧ (r.mark k0).own w' lo hi ∧ Touch r.blocks w w' := by
  obtain ⟨W, hW, b0, hbW, hsW⟩ := boxes1 w r.cells 31
  have hoW := ho.below hbW
  have hlw := ho.txs.2.1
  have hap := ho.apart
  have HC : Hid (r.count = r.bf.count + r.af.count + 3 * r.txs.length ∧ r.bf.count ≤ 2199023255552 ∧ r.af.count ≤ 2199023255552) := ⟨rfl, by have := hl.bf; simp only [SlotA.count]; omega, by have := hl.af; simp only [SlotA.count]; omega⟩
  have hbl : ∀ k ∈ r.blocks, k < w.heap.size := by
    intro k hk
    simp only [RecA.blocks, List.mem_append] at hk
    rcases hk with h | h | h
    · have := (SlotA.blocks_lt ho.bf k h).2; omega
    · have := (SlotA.blocks_lt ho.af k h).2; omega
    · have := (ho.txs.lt k (Option.mem_toList.1 h)).2; omega
  have hd1 : ∀ k ∈ r.bf.blocks, k ∉ r.af.blocks ∧ k ∉ (Value.slice r.aL r.txs.length r.cL).ownBlock.toList := by
    intro k hk
    have := (List.nodup_append.1 hap).2.2 k hk
    exact ⟨fun h => this k (List.mem_append.2 (.inl h)) rfl, fun h => this k (List.mem_append.2 (.inr h)) rfl⟩
  have hd2 : ∀ k ∈ r.af.blocks, k ∉ (Value.slice r.aL r.txs.length r.cL).ownBlock.toList := by
    intro k hk h
    exact (List.nodup_append.1 (List.nodup_append.1 hap).2.1).2.2 k hk k h rfl
  have C1 := markSlot_touch r.bf lo hi k0 W hoW.bf h0 hl.bf.1 hl.bf.2 (by omega)
  simp only [SlotA.cells] at C1
  have HB : Hid (∀ w', Touch r.blocks W w' → Box w' w.heap.size r.cells 31) := fun w' ht => b0.touch ht (fun h => by have := hbl _ h; omega)
  have hsub1 : ∀ k ∈ r.bf.blocks, k ∈ r.blocks := fun k hk => List.mem_append.2 (.inl hk)
  have hsub2 : ∀ k ∈ r.af.blocks, k ∈ r.blocks := fun k hk => List.mem_append.2 (.inr (List.mem_append.2 (.inl hk)))
  have hsub3 : ∀ k ∈ (Value.slice r.aL r.txs.length r.cL).ownBlock.toList, k ∈ r.blocks := fun k hk => List.mem_append.2 (.inr (List.mem_append.2 (.inr hk)))
  have HX : Hid (_ ∧ _ ∧ _ ∧ _ ∧ _) := ⟨hd1, hd2, hsub1, hsub2, hsub3⟩
  have HBW : Hid (Below w.heap.size w W) := hbW
  have HAP : Hid (r.blocks.Nodup) := hap
  have HL : Hid _ := hl
  clear hsW hbW hd1 hd2 hsub1 hsub2 hsub3 hbl hap hlw ho hl
  simp only [RecA.cells] at *
  go_enter Tryd.func24, Tryd.ntmps24
  go_wp2_with fail
  rw [hW.out]
  clear hW b0
  refine C1.mono ?_
  clear C1
  rintro e w1 ⟨rfl, ho1, ht1⟩
  have T1 : Touch r.blocks W w1 := ht1.mono HX.out.2.2.1
  have b1 := HB.out w1 T1
  have c9 := b1.cell 9 _ rfl
  have c10 := b1.cell 10 _ rfl
  have c11 := b1.cell 11 _ rfl
  have c12 := b1.cell 12 _ rfl
  have hoA1 := SlotA.touch hoW.af ht1 (fun k hk h => (HX.out.1 k h).1 hk)
  have hoL1 := hoW.txs.touch ht1 (fun k hk h => (HX.out.1 k h).2 (Option.mem_toList.2 hk))
  have C2 := markSlot_touch r.af lo hi (k0 + r.bf.count) w1 hoA1 (by omega) HL.out.af.1 HL.out.af.2 (by have := HC.out.2.1; omega)
  simp only [SlotA.cells] at C2
  clear b1 ht1 hoA1
  go_wp2_with fail
  refine C2.mono ?_
  clear C2 c9 c10 c11 c12
  rintro e w2 ⟨rfl, ho2, ht2⟩
  have T2 : Touch r.blocks W w2 := T1.trans (ht2.mono HX.out.2.2.2.1)
  have b2 := HB.out w2 T2
  have c14 := b2.cell 14 _ rfl
  have hoB2 := SlotA.touch ho1 ht2 (fun k hk h => by rw [mark_blocks] at hk; exact (HX.out.1 k hk).1 h)
  have hoL2 := hoL1.touch ht2 (fun k hk h => HX.out.2.1 k h (Option.mem_toList.2 hk))
  have C3 := markLiveS_own lo hi r.aL r.cL (k0 + r.bf.count + r.af.count) r.txs w2 hoL2 (by omega) (by have := HC.out.2; have := HL.out.txs; omega)
  clear b2 ht2 hoL1 ho1 T1 hoL2
  go_wp2_with fail
  refine C3.mono ?_
  clear C3 c14
  rintro e w3 ⟨rfl, ho3, ht3⟩
  have T3 : Touch r.blocks W w3 := T2.trans (ht3.mono HX.out.2.2.2.2)
  have hoB3 := SlotA.touch hoB2 ht3 (fun k hk h => by rw [mark_blocks] at hk; exact (HX.out.1 k hk).2 h)
  have hoA3 := SlotA.touch ho2 ht3 (fun k hk h => by rw [mark_blocks] at hk; exact HX.out.2.1 k hk h)
  clear hoB2 ho2 ht3 T2
  go_wp2
  go_ret
  refine ⟨ret_int (by have := HC.out.1; omega), ⟨hoB3, hoA3, ?_, ?_⟩, (Touch.of_below HBW.out).trans T3⟩
  · exact ho3
  · rw [markR_blocks]; exact HAP.out

end Go.Proofs.YtjaojcgfgkppgaaDoor

/- The walk of laws.toPage. -/
namespace Go.Proofs.YtjaojcgfgkppgaaDoor
open Go.RowKit

end Go.Proofs.YtjaojcgfgkppgaaDoor
