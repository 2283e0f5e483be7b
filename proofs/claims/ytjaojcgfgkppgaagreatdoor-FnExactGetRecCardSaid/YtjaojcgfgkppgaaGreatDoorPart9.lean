/- Several texts in one, in their order. -/
import Derived.Test.YtjaojcgfgkppgaaGreatDoorPart3
import Derived.Test.YtjaojcgfgkppgaaGreatDoorPart6
import Derived.Test.YtjaojcgfgkppgaaGreatDoorPart7
import Derived.Test.YtjaojcgfgkppgaaGreatDoorPart5
import Derived.Deep.QuietTactic
import Derived.BigQuiet
import Derived.WalkSmall
import Derived.Test.YtjaojcgfgkppgaaGreatDoorPart8
import Derived.Test.YtjaojcgfgkppgaaGreatDoorPart2
/- Appending Lives that are read to a row that the call owns. -/
namespace Go.Proofs.YtjaojcgfgkppgaaGreatDoor
open Go.RowKit

theorem lives_oneCell (zs : List LiveV) : ∀ v ∈ cellsL zs, v.oneCell' = true := by
  intro v hv
  obtain ⟨s, _, hs⟩ := List.mem_flatMap.1 hv
  simp only [LiveV.cells, List.mem_cons, List.not_mem_nil, or_false] at hs
  rcases hs with rfl | rfl | rfl <;> rfl

theorem append_lives {w : World} {ops : Array Oper} {rest : List Oper} {o : Oper} {act : Act} {Q : Exit → Act → World → Prop} (hgd : o.guard = none) (s x : Operand)
    (ho : o.op = .call { callee := .builtin .append, args := #[s, x], argTypes := #[28, 28] })
    (lo hi : Nat) (a : Option Addr) (c : Nat) (xs : List LiveV) (hs : act.eval s = .slice a xs.length c) (hown : OwnL w lo hi a c xs)
    (sa : Option Addr) (sc : Nat) (zs : List LiveV) (hx : act.eval x = .slice sa zs.length sc) (hr : ReadsL w sa zs) (hc : sa = none → sc = 0)
    (hb : xs.length + zs.length ≤ 1099511627776) (hlo : lo ≤ w.heap.size)
    (h : ∀ a' c' ys w', Hid (ys = xs ++ zs) → OwnL w' lo w'.heap.size a' c' ys → w.grownBy w' (Value.slice a xs.length c).ownBlock → wpList Tryz.prog ops Q rest (act.put o.dst (.slice a' ys.length c')) w') :
    wpList Tryz.prog ops Q (o :: rest) act w := by
  obtain ⟨i0, hi0, hz0, hz1, hz2⟩ := info_parts Tryz.infoLive
  have fin : ∀ v' w', w'.ownsRow lo 66 3 v' (xs.length + zs.length) (cellsL xs ++ cellsL zs) → w.grownBy w' (Value.slice a xs.length c).ownBlock → wpList Tryz.prog ops Q rest (act.put o.dst v') w' := by
    intro v' w' h1 h2
    rw [← cellsL_app, ← List.length_append] at h1
    have sh : ∃ a' c', v' = .slice a' (xs ++ zs).length c' := by
      rcases h1.2 with ⟨rfl, h0⟩ | ⟨g, cap, cur, rfl, _⟩
      · exact ⟨none, 0, by rw [h0]⟩
      · exact ⟨_, _, rfl⟩
    obtain ⟨a', c', rfl⟩ := sh
    exact h a' c' (xs ++ zs) w' rfl ⟨h1, Nat.le_refl _, fun k hk => (h1.lt k hk).2⟩ h2
  cases sa with
  | none =>
    have hz : zs = [] := by
      by_cases e : zs = []
      · exact e
      · obtain ⟨b, off, hh, _⟩ := hr e
        cases hh
    subst hz
    have := hc rfl
    subst this
    exact wpList_append_own_none hgd s x 28 ho lo 66 i0 3 Tryz.underlying28 hi0 _ _ _ hs hown.1 hx (fin _ w (by simpa [cellsL] using hown.1) (World.grownBy.refl _ _))
  | some ad =>
    refine wpList_append_own w hgd s x 28 ho lo 66 i0 (.agg #[.int .i64 0, .int .i64 0, .bool false]) 3 24 Tryz.underlying28 hi0 hz0 hz1 hz2 rfl (by decide) _ _ _ hs hown.1 ad zs.length sc (cellsL zs) hx (by rw [cellsL_len]) ?_ (lives_oneCell _) (by simp only [maxLen]; omega) (by omega) hlo (fun v' w' h1 h2 _ => fin v' w' h1 h2)
    intro j u hj
    have hjl : j < zs.length * 3 := by rw [← cellsL_len]; exact (List.getElem?_eq_some_iff.1 hj).1
    have hne : zs ≠ [] := by intro e; simp [e] at hjl
    obtain ⟨b, off, hh, hcell⟩ := hr hne
    cases hh
    have hat := cellsL_at zs (j / 3) (j % 3) (by omega) (Nat.mod_lt _ (by omega))
    rw [show j / 3 * 3 + j % 3 = j by omega, hj] at hat
    obtain ⟨k0, k1, k2⟩ := hcell (j / 3) (by omega)
    rw [Addr_add]
    rcases (by omega : j % 3 = 0 ∨ j % 3 = 1 ∨ j % 3 = 2) with h' | h' | h' <;> rw [h'] at hat <;> simp only [LiveV.cells, List.getElem?_cons_zero, List.getElem?_cons_succ, Option.some.injEq] at hat
    · rw [show off + j = off + j / 3 * 3 by omega, k0, hat]
    · rw [show off + j = off + j / 3 * 3 + 1 by omega, k1, hat]
    · rw [show off + j = off + j / 3 * 3 + 2 by omega, k2, hat]
theorem readsL_one (w : World) (z : LiveV) (t : TypeId) : ReadsL (w.alloc (.cells #[.int .i64 z.tx, .int .i64 z.last, .bool z.aborts] t)) (some ⟨w.heap.size, 0, none⟩) [z] := by
  intro _
  refine ⟨w.heap.size, 0, rfl, fun k hk => ?_⟩
  obtain rfl : k = 0 := by simpa using hk
  have b : Box (w.alloc (.cells #[.int .i64 z.tx, .int .i64 z.last, .bool z.aborts] t)) w.heap.size [.int .i64 z.tx, .int .i64 z.last, .bool z.aborts] t := box_new _ _ _
  exact ⟨b.cell 0 _ rfl, b.cell 1 _ rfl, b.cell 2 _ rfl⟩
end Go.Proofs.YtjaojcgfgkppgaaGreatDoor

/- The walks of spec.l1Ends and spec.Unframe. -/
namespace Go.Proofs.YtjaojcgfgkppgaaGreatDoor
open Go.RowKit

/-- Does what begins at q end ahead of a number's last group? -/
def endsB (zs : List Int) (q : Nat) : Bool := decide (lead (zs.drop q) = zs.length - q ∧ zs.length - q < 6)

theorem endsB_no (zs : List Int) (q j : Nat) (hj : q + j < zs.length) (h : zs.getD (q + j) 0 < 128) : endsB zs q = false := by
  unfold endsB
  rw [decide_eq_false_iff_not]
  rintro ⟨h1, _⟩
  have := lead_stop j (zs.drop q) (by simp; omega) (by rw [drop_getD]; exact h)
  omega
theorem endsB_all (zs : List Int) (q : Nat) (h : ∀ i, i < zs.length - q → 128 ≤ zs.getD (q + i) 0) : endsB zs q = decide ((zs.length - q) < 6) := by
  have h1 := lead_ge (zs.length - q) (zs.drop q) (by simp) (fun i hi => by rw [drop_getD]; exact h i hi)
  have h2 := lead_le (zs.drop q)
  have h3 : (zs.drop q).length = zs.length - q := List.length_drop
  unfold endsB
  exact decide_eq_decide.2 ⟨fun h => h.2, fun h => ⟨by omega, h⟩⟩

theorem why_ends (zs : List Int) (q : Nat) (hq : q ≤ zs.length) (b : Bool) (h : endsB zs q = b) : scanWhy zs q = if b then 1 else 3 := by
  subst h
  unfold scanWhy endsB
  rw [Int.toNat_natCast]
  by_cases h : lead (zs.drop q) = zs.length - q ∧ zs.length - q < 6
  · rw [if_pos ⟨by omega, by omega, h.1, by omega⟩, decide_eq_true h]; rfl
  · rw [if_neg (fun h' => h ⟨h'.2.2.1, by omega⟩), decide_eq_false h]; rfl

theorem own_empty (w : World) : OwnB (w.alloc (.cells #[] 5)) w.heap.size (some ⟨w.heap.size, 0, none⟩) 0 [] := own_lit0 w

theorem take4_of (S F : List Int) (hs : 4 ≤ S.length) (hf : F.length = 4) (h : ∀ t, t < 4 → S.getD t 0 = F.getD t 0) : S.take 4 = F := by
  apply List.ext_getElem
  · simp; omega
  · intro i h1 h2
    have := h i (by omega)
    simp [List.getD, h2] at this
    rw [List.getElem?_eq_getElem (by omega)] at this
    simpa using this
theorem take4_not (S F : List Int) (t : Nat) (ht : t < 4) (h : S.getD t 0 ≠ F.getD t 0) : ¬ S.take 4 = F := by
  intro e
  apply h
  rw [← e]
  simp [List.getD, ht]

end Go.Proofs.YtjaojcgfgkppgaaGreatDoor

/- The walk of spec.GetPage. -/
namespace Go.Proofs.YtjaojcgfgkppgaaGreatDoor
open Go.RowKit

theorem nextSlots_snoc (zs : List Int) (k : Nat) : ∀ s, nextSlots zs (k + 1) s = ((nextSlots zs k s).1 ++ [(nextSlotOf zs (nextSlots zs k s).2).1], (nextSlotOf zs (nextSlots zs k s).2).2) := by
  induction k with
  | zero => intro s; rfl
  | succ k ih =>
    intro s
    rw [nextSlots, ih (nextSlotOf zs s).2]
    rfl
theorem own_zero4 (w : World) (lo hi : Nat) (h : hi ≤ w.heap.size) : OwnS w lo hi zero4 := by
  refine ⟨fun s hs => ?_, by decide⟩
  simp only [zero4, List.mem_cons, List.not_mem_nil, or_false] at hs
  rcases hs with rfl | rfl | rfl | rfl <;> exact own_zero w lo hi h
theorem pairP_no {zs : List Int} (h : getP zs = none) : pairP zs = (noP, false) := by unfold pairP; rw [h]
theorem pairP_is {zs : List Int} {x : Int × List SlotV} (h : getP zs = some x) : pairP zs = (x, true) := by unfold pairP; rw [h]
theorem getP_read (zs : List Int) : getP zs = if (unfOf zs 0).2.2 = 0 ∧ (unfOf zs 0).2.1 = (zs.length : Int) ∧ (readerP (unfOf zs 0).1).2 = false ∧ okP (readerP (unfOf zs 0).1).1.1 (readerP (unfOf zs 0).1).1.2 = true ∧ putPageOf (readerP (unfOf zs 0).1).1.1 (readerP (unfOf zs 0).1).1.2 = zs
  then some (readerP (unfOf zs 0).1).1 else none := rfl

theorem getPair_small (zs : List Int) : (getPair zs).1.ints.length ≤ 5 ∧ (getPair zs).1.refs.length ≤ 5 := by
  cases h : (getPair zs).2 with
  | true => have := okB_bd (getPair_true h).1; exact ⟨this.2.1, this.2.2.1⟩
  | false => rw [getPair_false h]; simp [noO]
theorem nextSlot_small (zs : List Int) (s : Int × Bool) : (nextSlotOf zs s).1.o.ints.length ≤ 5 ∧ (nextSlotOf zs s).1.o.refs.length ≤ 5 := by
  unfold nextSlotOf
  split
  · simp [noS, noO]
  · split
    · simp [noS, noO]
    · exact getPair_small _
theorem nextSlots_small (zs : List Int) (k : Nat) : ∀ s, ∀ v ∈ (nextSlots zs k s).1, v.o.ints.length ≤ 5 ∧ v.o.refs.length ≤ 5 := by
  induction k with
  | zero => intro s v hv; simp [nextSlots] at hv
  | succ k ih =>
    intro s v hv
    simp only [nextSlots, List.mem_cons] at hv
    rcases hv with rfl | h
    · exact nextSlot_small zs s
    · exact ih _ v h
theorem unf_len (zs : List Int) (p : Int) : (unfOf zs p).1.length ≤ zs.length := by
  unfold unfOf
  split
  · simp
  · split
    · simp
    · split
      · simp
      · split
        · simp only [List.length_take, List.length_drop]; omega
        · simp

end Go.Proofs.YtjaojcgfgkppgaaGreatDoor

/- The walks of laws.markLiveS and laws.heldLiveS. -/
namespace Go.Proofs.YtjaojcgfgkppgaaGreatDoor
open Go.RowKit

def markL1 (k0 : Int) (i : Nat) : LiveV := ⟨k0 + 3 * i, k0 + 3 * i + 1, ((k0 + 3 * i + 1 + 1) % 3 == 0)⟩
def marksL (k0 : Int) (n : Nat) : List LiveV := (List.range n).map fun i : Nat => markL1 k0 i
theorem marksL_len (k0 : Int) (n : Nat) : (marksL k0 n).length = n := by simp [marksL]
theorem marksL_at (k0 : Int) (n i : Nat) (h : i < n) : (marksL k0 n).getD i zeroL = markL1 k0 i := by simp [marksL, List.getD, h]
theorem marksL_succ (k0 : Int) (n : Nat) : marksL k0 (n + 1) = marksL k0 n ++ [markL1 k0 n] := by simp [marksL, List.range_succ]
def markedL (k0 : Int) (xs : List LiveV) (k : Nat) : List LiveV := marksL k0 k ++ xs.drop k
theorem markedL_len (k0 : Int) (xs : List LiveV) (k : Nat) (h : k ≤ xs.length) : (markedL k0 xs k).length = xs.length := by simp [markedL, marksL_len]; omega
theorem markedL_set (k0 : Int) (xs : List LiveV) (k : Nat) (h : k < xs.length) : (markedL k0 xs k).set k (markL1 k0 k) = markedL k0 xs (k + 1) := by
  unfold markedL
  rw [List.set_append, if_neg (by rw [marksL_len]; omega), marksL_len, Nat.sub_self, marksL_succ, List.drop_eq_getElem_cons h, List.set_cons_zero]
  simp
theorem markedL_all (k0 : Int) (xs : List LiveV) : markedL k0 xs xs.length = marksL k0 xs.length := by simp [markedL]

set_option maxHeartbeats 1000000 in
set_option maxRecDepth 100000 in
theorem markLiveS_any (base : Nat) (a : Option Addr) (cap : Nat) (k0 : Int) (xs : List LiveV) (w : World)
    (hown : w.ownsRow base 66 3 (.slice a xs.length cap) xs.length (cellsL xs)) (h0 : 0 ≤ k0) (hl : k0 + 3 * xs.length ≤ 4611686018427387904) :
    Calls Tryz.prog 32 #[.slice a xs.length cap, .int .i64 k0] w fun e w' => e = .returned (.int .i64 (k0 + 3 * xs.length)) ∧
      w'.ownsRow base 66 3 (.slice a xs.length cap) xs.length (cellsL (marksL k0 xs.length)) ∧ w.grownBy w' (Value.slice a xs.length cap).ownBlock := by
  have hlen := hown.1
  rcases hown.2 with ⟨hv, h00⟩ | ⟨g, cap', cur, hv, hg, hgg, hr⟩
  · simp only [Value.slice.injEq] at hv
    obtain ⟨rfl, h00', rfl⟩ := hv
    obtain rfl := List.length_eq_zero_iff.1 h00
    go_enter Tryz.func32, Tryz.ntmps32
    go_wp2
    refine wp_loop_rounds 1 ?_
    rw [rounds_succ]
    go_wp2
    go_ret
    exact ⟨by simp, hown, World.grownBy.refl _ _⟩
  · simp only [Value.slice.injEq] at hv
    obtain ⟨rfl, _, rfl⟩ := hv
    clear hgg hr hlen
    have hM : w.ownsRow base 66 3 (.slice (some ⟨g, 0, none⟩) xs.length cap) xs.length (cellsL (markedL k0 xs 0)) := by simpa [markedL, marksL] using hown
    clear hown
    go_enter Tryz.func32, Tryz.ntmps32
    go_wp2
    go_loopw [1, 5] (fun kk i wr => ∃ k : Nat, k ≤ xs.length ∧ i = .int .i64 k ∧ kk = .int .i64 (k0 + 3 * k) ∧ wr.ownsRow base 66 3 (.slice (some ⟨g, 0, none⟩) xs.length cap) xs.length (cellsL (markedL k0 xs k)) ∧ w.grownBy wr (some g))
      (fun _ i _ => xs.length - (intOf i).toNat)
    case atStart => exact ⟨0, Nat.zero_le _, rfl, by simp, hM, World.grownBy.refl _ _⟩
    case round =>
      obtain ⟨k, hk, rfl, rfl, hown, hgr⟩ := hrel
      clear hM
      by_cases hlt : k < xs.length
      · have hp := markedL_len k0 xs k hk
        obtain ⟨x0, x1, x2, hfz⟩ := row_live hown hp k hlt
        have f0 := hfz (k * 3)
        have f1 := hfz (k * 3 + 1)
        have f2 := hfz (k * 3 + 2)
        obtain ⟨W2, hW2, ho2, hg2⟩ := row_store hown hp k hlt (markL1 k0 k)
        rw [markedL_set k0 xs k hlt] at ho2
        have HH : Hid (_ ∧ _) := ⟨ho2, grownBy_trans hgr hg2⟩
        clear ho2 hg2 hfz hown hgr
        generalize (markedL k0 xs k).getD k zeroL = old at *
        simp only [markL1] at hW2
        go_wp2
        rw [hW2.out]
        go_roundw
        case rel => exact ⟨k + 1, by omega, by go_num, by go_num, HH.out.1, HH.out.2⟩
        case measure => simp [intOf]; omega
      · have HE : Hid (wr.ownsRow base 66 3 (.slice (some ⟨g, 0, none⟩) xs.length cap) xs.length (cellsL (marksL k0 xs.length)) ∧ k = xs.length) := by
          have e : k = xs.length := by omega
          rw [e, markedL_all] at hown
          exact ⟨hown, e⟩
        go_wp2
        go_ret
        exact ⟨ret_int (by have := HE.out.2; omega), HE.out.1, hgr⟩

theorem markLiveS_own (lo hi : Nat) (a : Option Addr) (cap : Nat) (k0 : Int) (xs : List LiveV) (w : World) (ho : OwnL w lo hi a cap xs) (h0 : 0 ≤ k0) (hl : k0 + 3 * xs.length ≤ 4611686018427387904) :
    Calls Tryz.prog 32 #[.slice a xs.length cap, .int .i64 k0] w fun e w' => e = .returned (.int .i64 (k0 + 3 * xs.length)) ∧
      OwnL w' lo hi a cap (marksL k0 xs.length) ∧ Touch (Value.slice a xs.length cap).ownBlock.toList w w' := by
  refine (markLiveS_any lo a cap k0 xs w ho.1 h0 hl).mono ?_
  rintro e w' ⟨rfl, h1, h2⟩
  refine ⟨rfl, ⟨by rw [marksL_len]; exact h1, Nat.le_trans ho.2.1 h2.size, by rw [marksL_len]; exact ho.2.2⟩, Touch.of_grown h2 (fun j hj => Option.mem_toList.2 hj)⟩

set_option maxHeartbeats 1000000 in
set_option maxRecDepth 100000 in
theorem heldLiveS_any (a : Option Addr) (cap : Nat) (k0 : Int) (n : Nat) (w : World) (hr : ReadsL w a (marksL k0 n)) (h0 : 0 ≤ k0) (hl : k0 + 3 * n ≤ 4611686018427387904) :
    Calls Tryz.prog 34 #[.slice a n cap, .int .i64 k0] w fun e w' => e = .returned (.int .i64 (k0 + 3 * n)) ∧ w' = w := by
  rcases hr.cases with h | ⟨b, off, rfl, hpos, hcell⟩
  · have h' := congrArg List.length h
    rw [marksL_len] at h'
    simp at h'
    subst h'
    go_enter Tryz.func34, Tryz.ntmps34
    go_wp2
    refine wp_loop_rounds 1 ?_
    rw [rounds_succ]
    go_wp2
    go_ret
    exact ⟨by simp, rfl⟩
  · rw [marksL_len] at hpos hcell
    go_enter Tryz.func34, Tryz.ntmps34
    go_wp2
    go_loop [1, 5] (fun kk i => ∃ k : Nat, k ≤ n ∧ i = .int .i64 k ∧ kk = .int .i64 (k0 + 3 * k)) (fun _ i => n - (intOf i).toNat)
    case atStart => exact ⟨0, Nat.zero_le _, rfl, by simp⟩
    case round =>
      obtain ⟨k, hk, rfl, rfl⟩ := hrel
      by_cases hlt : k < n
      · obtain ⟨c0, c1, c2⟩ := hcell k hlt
        rw [marksL_at k0 n k hlt] at c0 c1 c2
        simp only [markL1] at c0 c1 c2
        clear hcell
        go_wp2
        go_round
        case rel => exact ⟨k + 1, by omega, by go_num, by go_num⟩
        case measure => simp [intOf]; omega
      · have HE : Hid (k = n) := by show k = n; omega
        go_wp2
        go_ret
        exact ⟨ret_int (by have := HE.out; omega), rfl⟩
end Go.Proofs.YtjaojcgfgkppgaaGreatDoor

/- The walks of laws.markRec and laws.heldRec. -/
namespace Go.Proofs.YtjaojcgfgkppgaaGreatDoor
open Go.RowKit

def RecA.mark (r : RecA) (k : Int) : RecA := { r with bf := r.bf.mark k, af := r.af.mark (k + r.bf.count), txs := marksL (k + r.bf.count + r.af.count) r.txs.length }
def RecA.count (r : RecA) : Nat := r.bf.count + r.af.count + 3 * r.txs.length
theorem markR_blocks (r : RecA) (k : Int) : (r.mark k).blocks = r.blocks := by simp [RecA.mark, RecA.blocks, mark_blocks, marksL_len]
theorem markR_cells (r : RecA) (k : Int) : (r.mark k).cells = r.cells := by simp [RecA.mark, RecA.cells, SlotA.mark, markO, marksI_len, marksL_len]

set_option maxHeartbeats 1000000 in
set_option maxRecDepth 100000 in
theorem markRec_touch (r : RecA) (lo hi : Nat) (k0 : Int) (w : World) (ho : r.own w lo hi) (hl : r.short 1099511627776) (h0 : 0 ≤ k0) (hk : k0 ≤ 1099511627776) :
    Calls Tryz.prog 11 #[.agg r.cells.toArray, .int .i64 k0] w fun e w' => e = .returned (.int .i64 (k0 + r.count)) ∧ (r.mark k0).own w' lo hi ∧ Touch r.blocks w w' := by
  obtain ⟨W, hW, b0, hbW, hsW⟩ := boxes1 w r.cells 30
  have hoW := ho.below hbW
  have hlw := ho.txs.2.1
  have hap := ho.apart
  have HC : Hid (r.count = r.bf.count + r.af.count + 3 * r.txs.length ∧ r.bf.count ≤ 2199023255552 ∧ r.af.count ≤ 2199023255552) := ⟨rfl, by have := hl.bf; simp only [SlotA.count]; omega, by have := hl.af; simp only [SlotA.count]; omega⟩
  have hbl : ∀ k ∈ r.blocks, k < w.heap.size := by
    intro k hk
    simp only [RecA.blocks, List.mem_append] at hk
    rcases hk with h | h | h
    · have := (SlotA.blocks_lt ho.bf k h).2; omega
    · have := (SlotA.blocks_lt ho.af k h).2; omega
    · have := (ho.txs.lt k (Option.mem_toList.1 h)).2; omega
  have hd1 : ∀ k ∈ r.bf.blocks, k ∉ r.af.blocks ∧ k ∉ (Value.slice r.aL r.txs.length r.cL).ownBlock.toList := by
    intro k hk
    have := (List.nodup_append.1 hap).2.2 k hk
    exact ⟨fun h => this k (List.mem_append.2 (.inl h)) rfl, fun h => this k (List.mem_append.2 (.inr h)) rfl⟩
  have hd2 : ∀ k ∈ r.af.blocks, k ∉ (Value.slice r.aL r.txs.length r.cL).ownBlock.toList := by
    intro k hk h
    exact (List.nodup_append.1 (List.nodup_append.1 hap).2.1).2.2 k hk k h rfl
  have C1 := markSlot_touch r.bf lo hi k0 W hoW.bf h0 hl.bf.1 hl.bf.2 (by omega)
  simp only [SlotA.cells] at C1
  have HB : Hid (∀ w', Touch r.blocks W w' → Box w' w.heap.size r.cells 30) := fun w' ht => b0.touch ht (fun h => by have := hbl _ h; omega)
  have hsub1 : ∀ k ∈ r.bf.blocks, k ∈ r.blocks := fun k hk => List.mem_append.2 (.inl hk)
  have hsub2 : ∀ k ∈ r.af.blocks, k ∈ r.blocks := fun k hk => List.mem_append.2 (.inr (List.mem_append.2 (.inl hk)))
  have hsub3 : ∀ k ∈ (Value.slice r.aL r.txs.length r.cL).ownBlock.toList, k ∈ r.blocks := fun k hk => List.mem_append.2 (.inr (List.mem_append.2 (.inr hk)))
  have HX : Hid (_ ∧ _ ∧ _ ∧ _ ∧ _) := ⟨hd1, hd2, hsub1, hsub2, hsub3⟩
  have HBW : Hid (Below w.heap.size w W) := hbW
  have HAP : Hid (r.blocks.Nodup) := hap
  have HL : Hid _ := hl
  clear hsW hbW hd1 hd2 hsub1 hsub2 hsub3 hbl hap hlw ho hl
  simp only [RecA.cells] at *
  go_enter Tryz.func11, Tryz.ntmps11
  go_wp2_with fail
  rw [hW.out]
  clear hW b0
  refine C1.mono ?_
  clear C1
  rintro e w1 ⟨rfl, ho1, ht1⟩
  have T1 : Touch r.blocks W w1 := ht1.mono HX.out.2.2.1
  have b1 := HB.out w1 T1
  have c9 := b1.cell 9 _ rfl
  have c10 := b1.cell 10 _ rfl
  have c11 := b1.cell 11 _ rfl
  have c12 := b1.cell 12 _ rfl
  have hoA1 := SlotA.touch hoW.af ht1 (fun k hk h => (HX.out.1 k h).1 hk)
  have hoL1 := hoW.txs.touch ht1 (fun k hk h => (HX.out.1 k h).2 (Option.mem_toList.2 hk))
  have C2 := markSlot_touch r.af lo hi (k0 + r.bf.count) w1 hoA1 (by omega) HL.out.af.1 HL.out.af.2 (by have := HC.out.2.1; omega)
  simp only [SlotA.cells] at C2
  clear b1 ht1 hoA1
  go_wp2_with fail
  refine C2.mono ?_
  clear C2 c9 c10 c11 c12
  rintro e w2 ⟨rfl, ho2, ht2⟩
  have T2 : Touch r.blocks W w2 := T1.trans (ht2.mono HX.out.2.2.2.1)
  have b2 := HB.out w2 T2
  have c14 := b2.cell 14 _ rfl
  have hoB2 := SlotA.touch ho1 ht2 (fun k hk h => by rw [mark_blocks] at hk; exact (HX.out.1 k hk).1 h)
  have hoL2 := hoL1.touch ht2 (fun k hk h => HX.out.2.1 k h (Option.mem_toList.2 hk))
  have C3 := markLiveS_own lo hi r.aL r.cL (k0 + r.bf.count + r.af.count) r.txs w2 hoL2 (by omega) (by have := HC.out.2; have := HL.out.txs; omega)
  clear b2 ht2 hoL1 ho1 T1 hoL2
  go_wp2_with fail
  refine C3.mono ?_
  clear C3 c14
  rintro e w3 ⟨rfl, ho3, ht3⟩
  have T3 : Touch r.blocks W w3 := T2.trans (ht3.mono HX.out.2.2.2.2)
  have hoB3 := SlotA.touch hoB2 ht3 (fun k hk h => by rw [mark_blocks] at hk; exact (HX.out.1 k hk).2 h)
  have hoA3 := SlotA.touch ho2 ht3 (fun k hk h => by rw [mark_blocks] at hk; exact HX.out.2.1 k hk h)
  clear hoB2 ho2 ht3 T2
  go_wp2
  go_ret
  refine ⟨ret_int (by have := HC.out.1; omega), ⟨hoB3, hoA3, ?_, ?_⟩, (Touch.of_below HBW.out).trans T3⟩
  · exact ho3
  · rw [markR_blocks]; exact HAP.out

set_option maxHeartbeats 1000000 in
set_option maxRecDepth 100000 in
theorem heldRec_any (r : RecA) (lo hi : Nat) (k0 : Int) (w : World) (ho : (r.mark k0).own w lo hi) (hl : r.short 1099511627776) (h0 : 0 ≤ k0) (hk : k0 ≤ 1099511627776) :
    Calls Tryz.prog 12 #[.agg r.cells.toArray, .int .i64 k0] w fun e w' => e = .returned (.int .i64 (k0 + r.count)) ∧ Below w.heap.size w w' := by
  obtain ⟨W, hW, b0, hbW, hsW⟩ := boxes1 w r.cells 30
  have hoW := ho.below hbW
  have HC : Hid (r.count = r.bf.count + r.af.count + 3 * r.txs.length ∧ r.bf.count ≤ 2199023255552 ∧ r.af.count ≤ 2199023255552) := ⟨rfl, by have := hl.bf; simp only [SlotA.count]; omega, by have := hl.af; simp only [SlotA.count]; omega⟩
  have C1 := heldSlot_any r.bf lo hi k0 W hoW.bf h0 hl.bf.1 hl.bf.2 (by omega)
  simp only [SlotA.cells] at C1
  have HL : Hid _ := hl
  clear hsW ho hl
  simp only [RecA.cells] at *
  go_enter Tryz.func12, Tryz.ntmps12
  go_wp2_with fail
  rw [hW.out]
  clear hW
  refine C1.mono ?_
  clear C1
  rintro e w1 ⟨rfl, hb1⟩
  have b1 := b0.below hb1 b0.lt
  have B1 : Below w.heap.size w w1 := hbW.trans (hb1.mono hbW.size)
  have hoA1 := OwnO.below hoW.af hb1
  have hoL1 := hoW.txs.below hb1
  have c9 := b1.cell 9 _ rfl
  have c10 := b1.cell 10 _ rfl
  have c11 := b1.cell 11 _ rfl
  have c12 := b1.cell 12 _ rfl
  have C2 := heldSlot_any r.af lo hi (k0 + r.bf.count) w1 hoA1 (by omega) HL.out.af.1 HL.out.af.2 (by have := HC.out.2.1; omega)
  simp only [SlotA.cells] at C2
  clear hoW hbW b0 hb1 hoA1
  go_wp2_with fail
  refine C2.mono ?_
  clear C2 c9 c10 c11 c12
  rintro e w2 ⟨rfl, hb2⟩
  have b2 := b1.below hb2 b1.lt
  have B2 : Below w.heap.size w w2 := B1.trans (hb2.mono B1.size)
  have c14 := b2.cell 14 _ rfl
  have hoL2 := hoL1.below hb2
  have C3 := heldLiveS_any r.aL r.cL (k0 + r.bf.count + r.af.count) r.txs.length w2 hoL2.reads (by omega) (by have := HC.out.2; have := HL.out.txs; omega)
  clear b1 b2 hb2 hoL1 hoL2 B1
  go_wp2_with fail
  refine C3.mono ?_
  clear C3 c14
  rintro e w3 ⟨rfl, rfl⟩
  go_wp2
  go_ret
  exact ⟨ret_int (by have := HC.out.1; omega), B2⟩
end Go.Proofs.YtjaojcgfgkppgaaGreatDoor
