/- Several texts in one, in their order. -/
import Derived.Test.YtgnkplbefclpgaaPSchedNewx2
import Derived.Deep.RegionHeld3
import Derived.Test.YtgnkplbefclpgaaPSchedNewx1
import Derived.Deep.MidRow
import Derived.Deep.QuietTactic
import Derived.BigQuiet
set_option maxHeartbeats 8000000
set_option maxRecDepth 100000
namespace Go.Proofs.Ytgnkplbefclpgaa
open Go.RowKit
def markQ1 (k0 : Int) (i : Nat) : OpV := ⟨k0 + 3 * i, k0 + 3 * i + 1, k0 + 3 * i + 1 + 1⟩
def marksQ (k0 : Int) (n : Nat) : List OpV := (List.range n).map fun i : Nat => markQ1 k0 i
theorem marksQ_len (k0 : Int) (n : Nat) : (marksQ k0 n).length = n := by simp [marksQ]
theorem marksQ_at (k0 : Int) (n i : Nat) (h : i < n) : (marksQ k0 n).getD i zeroQ = markQ1 k0 i := by simp [marksQ, List.getD, h]
theorem marksQ_succ (k0 : Int) (n : Nat) : marksQ k0 (n + 1) = marksQ k0 n ++ [markQ1 k0 n] := by simp [marksQ, List.range_succ]
def markedQ (k0 : Int) (xs : List OpV) (k : Nat) : List OpV := marksQ k0 k ++ xs.drop k
theorem markedQ_len (k0 : Int) (xs : List OpV) (k : Nat) (h : k ≤ xs.length) : (markedQ k0 xs k).length = xs.length := by simp [markedQ, marksQ_len]; omega
theorem markedQ_set (k0 : Int) (xs : List OpV) (k : Nat) (h : k < xs.length) : (markedQ k0 xs k).set k (markQ1 k0 k) = markedQ k0 xs (k + 1) := by
 unfold markedQ
 rw [List.set_append, if_neg (by rw [marksQ_len]; omega), marksQ_len, Nat.sub_self, marksQ_succ, List.drop_eq_getElem_cons h, List.set_cons_zero]
 simp
theorem markedQ_all (k0 : Int) (xs : List OpV) : markedQ k0 xs xs.length = marksQ k0 xs.length := by simp [markedQ]
theorem markOpS_any (base : Nat) (a : Option Addr) (cap : Nat) (k0 : Int) (xs : List OpV) (w : World)
  (hown : w.ownsRow base 73 3 (.slice a xs.length cap) xs.length (cellsQ xs)) (h0 : 0 ≤ k0) (hl : k0 + 3 * xs.length ≤ 4611686018427387904) :
  Calls Try.prog 25 #[.slice a xs.length cap, .int .i64 k0] w fun e w' => e = .returned (.int .i64 (k0 + 3 * xs.length)) ∧
   w'.ownsRow base 73 3 (.slice a xs.length cap) xs.length (cellsQ (marksQ k0 xs.length)) ∧ w.grownBy w' (Value.slice a xs.length cap).ownBlock := by
 have hlen := hown.1
 rcases hown.2 with ⟨hv, h00⟩ | ⟨g, cap', cur, hv, hg, hgg, hr⟩
 ·simp only [Value.slice.injEq] at hv
  obtain ⟨rfl, h00', rfl⟩ := hv
  obtain rfl := List.length_eq_zero_iff.1 h00
  go_enter Try.func25, Try.ntmps25
  go_wp2
  refine wp_loop_rounds 1 ?_
  rw [rounds_succ]
  go_wp2
  go_ret
  exact ⟨by simp, hown, World.grownBy.refl _ _⟩
 ·simp only [Value.slice.injEq] at hv
  obtain ⟨rfl, _, rfl⟩ := hv
  clear hgg hr hlen
  have hM : w.ownsRow base 73 3 (.slice (some ⟨g, 0, none⟩) xs.length cap) xs.length (cellsQ (markedQ k0 xs 0)) := by simpa [markedQ, marksQ] using hown
  clear hown
  go_enter Try.func25, Try.ntmps25
  go_wp2
  go_loopw [1, 5] (fun kk i wr => ∃ k : Nat, k ≤ xs.length ∧ i = .int .i64 k ∧ kk = .int .i64 (k0 + 3 * k) ∧ wr.ownsRow base 73 3 (.slice (some ⟨g, 0, none⟩) xs.length cap) xs.length (cellsQ (markedQ k0 xs k)) ∧ w.grownBy wr (some g))
   (fun _ i _ => xs.length - (intOf i).toNat)
  case atStart => exact ⟨0, Nat.zero_le _, rfl, by simp, hM, World.grownBy.refl _ _⟩
  case round =>
   obtain ⟨k, hk, rfl, rfl, hown, hgr⟩ := hrel
   clear hM
   by_cases hlt : k < xs.length
   ·have hp := markedQ_len k0 xs k hk
    obtain ⟨x0, x1, x2, hfz⟩ := row_op hown hp k hlt
    have f0 := hfz (k * 3)
    have f1 := hfz (k * 3 + 1)
    have f2 := hfz (k * 3 + 2)
    obtain ⟨W2, hW2, ho2, hg2⟩ := row_storeQ hown hp k hlt (markQ1 k0 k)
    rw [markedQ_set k0 xs k hlt] at ho2
    have HH : Hid (_ ∧ _) := ⟨ho2, grownBy_trans hgr hg2⟩
    clear ho2 hg2 hfz hown hgr
    generalize (markedQ k0 xs k).getD k zeroQ = old at *
    simp only [markQ1] at hW2
    go_wp2
    rw [hW2.out]
    go_roundw
    case rel => exact ⟨k + 1, by omega, by go_num, by go_num, HH.out.1, HH.out.2⟩
    case measure => simp [intOf]; omega
   ·have HE : Hid (wr.ownsRow base 73 3 (.slice (some ⟨g, 0, none⟩) xs.length cap) xs.length (cellsQ (marksQ k0 xs.length)) ∧ k = xs.length) := by
     have e : k = xs.length := by omega
     rw [e, markedQ_all] at hown
     exact ⟨hown, e⟩
    go_wp2
    go_ret
    exact ⟨ret_int (by have := HE.out.2; omega), HE.out.1, hgr⟩
theorem markOpS_own (lo hi : Nat) (a : Option Addr) (cap : Nat) (k0 : Int) (xs : List OpV) (w : World) (ho : OwnQ w lo hi a cap xs) (h0 : 0 ≤ k0) (hl : k0 + 3 * xs.length ≤ 4611686018427387904) :
  Calls Try.prog 25 #[.slice a xs.length cap, .int .i64 k0] w fun e w' => e = .returned (.int .i64 (k0 + 3 * xs.length)) ∧
   OwnQ w' lo hi a cap (marksQ k0 xs.length) ∧ Touch (Value.slice a xs.length cap).ownBlock.toList w w' := by
 refine (markOpS_any lo a cap k0 xs w ho.1 h0 hl).mono ?_
 rintro e w' ⟨rfl, h1, h2⟩
 refine ⟨rfl, ⟨by rw [marksQ_len]; exact h1, Nat.le_trans ho.2.1 h2.size, by rw [marksQ_len]; exact ho.2.2⟩, Touch.of_grown h2 (fun j hj => Option.mem_toList.2 hj)⟩
theorem heldOpS_any (a : Option Addr) (cap : Nat) (k0 : Int) (n : Nat) (w : World) (hr : ReadsQ w a (marksQ k0 n)) (h0 : 0 ≤ k0) (hl : k0 + 3 * n ≤ 4611686018427387904) :
  Calls Try.prog 55 #[.slice a n cap, .int .i64 k0] w fun e w' => e = .returned (.int .i64 (k0 + 3 * n)) ∧ w' = w := by
 rcases hr.cases with h | ⟨b, off, rfl, hpos, hcell⟩
 ·have h' := congrArg List.length h
  rw [marksQ_len] at h'
  simp at h'
  subst h'
  go_enter Try.func55, Try.ntmps55
  go_wp2
  refine wp_loop_rounds 1 ?_
  rw [rounds_succ]
  go_wp2
  go_ret
  exact ⟨by simp, rfl⟩
 ·rw [marksQ_len] at hpos hcell
  go_enter Try.func55, Try.ntmps55
  go_wp2
  go_loop [1, 5] (fun kk i => ∃ k : Nat, k ≤ n ∧ i = .int .i64 k ∧ kk = .int .i64 (k0 + 3 * k)) (fun _ i => n - (intOf i).toNat)
  case atStart => exact ⟨0, Nat.zero_le _, rfl, by simp⟩
  case round =>
   obtain ⟨k, hk, rfl, rfl⟩ := hrel
   by_cases hlt : k < n
   ·obtain ⟨c0, c1, c2⟩ := hcell k hlt
    rw [marksQ_at k0 n k hlt] at c0 c1 c2
    simp only [markQ1] at c0 c1 c2
    clear hcell
    go_wp2
    go_round
    case rel => exact ⟨k + 1, by omega, by go_num, by go_num⟩
    case measure => simp [intOf]; omega
   ·have HE : Hid (k = n) := by show k = n; omega
    go_wp2
    go_ret
    exact ⟨ret_int (by have := HE.out; omega), rfl⟩
theorem ops_oneCell (zs : List OpV) : ∀ v ∈ cellsQ zs, v.oneCell' = true := by
 intro v hv
 obtain ⟨s, _, hs⟩ := List.mem_flatMap.1 hv
 simp only [OpV.cells, List.mem_cons, List.not_mem_nil, or_false] at hs
 rcases hs with rfl | rfl | rfl <;> rfl
theorem append_ops {w : World} {ops : Array Oper} {rest : List Oper} {o : Oper} {act : Act} {Q : Exit → Act → World → Prop} (hgd : o.guard = none) (s x : Operand)
  (ho : o.op = .call { callee := .builtin .append, args := #[s, x], argTypes := #[61, 61] })
  (lo hi : Nat) (a : Option Addr) (c : Nat) (xs : List OpV) (hs : act.eval s = .slice a xs.length c) (hown : OwnQ w lo hi a c xs)
  (sa : Option Addr) (sc : Nat) (zs : List OpV) (hx : act.eval x = .slice sa zs.length sc) (hr : ReadsQ w sa zs) (hc : sa = none → sc = 0)
  (hb : xs.length + zs.length ≤ 1099511627776) (hlo : lo ≤ w.heap.size)
  (h : ∀ a' c' ys w', Hid (ys = xs ++ zs) → OwnQ w' lo w'.heap.size a' c' ys → w.grownBy w' (Value.slice a xs.length c).ownBlock → wpList Try.prog ops Q rest (act.put o.dst (.slice a' ys.length c')) w') :
  wpList Try.prog ops Q (o :: rest) act w := by
 obtain ⟨i0, hi0, hz0, hz1, hz2⟩ := info_parts Try.infoOp
 have fin : ∀ v' w', w'.ownsRow lo 73 3 v' (xs.length + zs.length) (cellsQ xs ++ cellsQ zs) → w.grownBy w' (Value.slice a xs.length c).ownBlock → wpList Try.prog ops Q rest (act.put o.dst v') w' := by
  intro v' w' h1 h2
  rw [← cellsQ_app, ← List.length_append] at h1
  have sh : ∃ a' c', v' = .slice a' (xs ++ zs).length c' := by
   rcases h1.2 with ⟨rfl, h0⟩ | ⟨g, cap, cur, rfl, _⟩
   ·exact ⟨none, 0, by rw [h0]⟩
   ·exact ⟨_, _, rfl⟩
  obtain ⟨a', c', rfl⟩ := sh
  exact h a' c' (xs ++ zs) w' rfl ⟨h1, Nat.le_refl _, fun k hk => (h1.lt k hk).2⟩ h2
 cases sa with
 | none =>
  have hz : zs = [] := by
   by_cases e : zs = []
   ·exact e
   ·obtain ⟨b, off, hh, _⟩ := hr e
    cases hh
  subst hz
  have := hc rfl
  subst this
  exact wpList_append_own_none hgd s x 61 ho lo 73 i0 3 Try.underlying61 hi0 _ _ _ hs hown.1 hx (fin _ w (by simpa [cellsQ] using hown.1) (World.grownBy.refl _ _))
 | some ad =>
  refine wpList_append_own w hgd s x 61 ho lo 73 i0 (.agg #[.int .i64 0, .int .i64 0, .int .i64 0]) 3 24 Try.underlying61 hi0 hz0 hz1 hz2 rfl (by decide) _ _ _ hs hown.1 ad zs.length sc (cellsQ zs) hx (by rw [cellsQ_len]) ?_ (ops_oneCell _) (by simp only [maxLen]; omega) (by omega) hlo (fun v' w' h1 h2 _ => fin v' w' h1 h2)
  intro j u hj
  have hjl : j < zs.length * 3 := by rw [← cellsQ_len]; exact (List.getElem?_eq_some_iff.1 hj).1
  have hne : zs ≠ [] := by intro e; simp [e] at hjl
  obtain ⟨b, off, hh, hcell⟩ := hr hne
  cases hh
  have hat := cellsQ_at zs (j / 3) (j % 3) (by omega) (Nat.mod_lt _ (by omega))
  rw [show j / 3 * 3 + j % 3 = j by omega, hj] at hat
  obtain ⟨k0, k1, k2⟩ := hcell (j / 3) (by omega)
  rw [Addr_add]
  rcases (by omega : j % 3 = 0 ∨ j % 3 = 1 ∨ j % 3 = 2) with h' | h' | h' <;> rw [h'] at hat <;> simp only [OpV.cells, List.getElem?_cons_zero, List.getElem?_cons_succ, Option.some.injEq] at hat
  ·rw [show off + j = off + j / 3 * 3 by omega, k0, hat]
  ·rw [show off + j = off + j / 3 * 3 + 1 by omega, k1, hat]
  ·rw [show off + j = off + j / 3 * 3 + 2 by omega, k2, hat]
structure LiveV where
 tx : Int
 last : Int
 aborts : Bool
def LiveV.cells (l : LiveV) : List Value := [.int .i64 l.tx, .int .i64 l.last, .bool l.aborts]
def zeroL : LiveV := ⟨0, 0, false⟩
def cellsL (ls : List LiveV) : List Value := ls.flatMap LiveV.cells
theorem cellsL_at (ls : List LiveV) (k j : Nat) (hk : k < ls.length) (hj : j < 3) : (cellsL ls)[k * 3 + j]? = (ls.getD k zeroL).cells[j]? := by
 induction ls generalizing k with
 | nil => simp at hk
 | cons s r ih =>
  have e : cellsL (s :: r) = s.cells ++ cellsL r := by simp [cellsL]
  have l3 : s.cells.length = 3 := rfl
  rw [e]
  cases k with
  | zero => rw [List.getElem?_append_left (by rw [l3]; omega)]; simp
  | succ k =>
   rw [List.getElem?_append_right (by rw [l3]; omega), l3]
   have := ih k (by simpa using hk)
   rw [show (k + 1) * 3 + j - 3 = k * 3 + j by omega, this]
   simp
theorem cellsL_set (ls : List LiveV) (k : Nat) (hk : k < ls.length) (t : LiveV) :
  (((cellsL ls).set (k * 3) (.int .i64 t.tx)).set (k * 3 + 1) (.int .i64 t.last)).set (k * 3 + 2) (.bool t.aborts) = cellsL (ls.set k t) := by
 induction ls generalizing k with
 | nil => simp at hk
 | cons s r ih =>
  cases k with
  | zero => simp [cellsL, LiveV.cells]
  | succ k =>
   have := ih k (by simpa using hk)
   have e2 : ∀ x, cellsL (s :: x) = s.cells ++ cellsL x := fun x => by simp [cellsL]
   have l3 : s.cells.length = 3 := rfl
   rw [e2, List.set_append_right _ _ (by rw [l3]; omega), List.set_append_right _ _ (by rw [l3]; omega), List.set_append_right _ _ (by rw [l3]; omega), l3, show (k + 1) * 3 - 3 = k * 3 by omega, show (k + 1) * 3 + 1 - 3 = k * 3 + 1 by omega, show (k + 1) * 3 + 2 - 3 = k * 3 + 2 by omega, this, List.set_cons_succ, e2]
def ReadsL (w : World) (a : Option Addr) (ls : List LiveV) : Prop := ls ≠ [] → ∃ b off, a = some ⟨b, off, none⟩ ∧ ∀ k, k < ls.length → w.cell? ⟨b, off + k * 3, none⟩ = some (.int .i64 (ls.getD k zeroL).tx) ∧ w.cell? ⟨b, off + k * 3 + 1, none⟩ = some (.int .i64 (ls.getD k zeroL).last) ∧ w.cell? ⟨b, off + k * 3 + 2, none⟩ = some (.bool (ls.getD k zeroL).aborts)
theorem ReadsL.nil (w : World) (a : Option Addr) : ReadsL w a [] := fun h => absurd rfl h
theorem ReadsL.below {w w' : World} {a : Option Addr} {ls : List LiveV} (h : ReadsL w a ls) (hb : Below w.heap.size w w') : ReadsL w' a ls := by
 intro hne
 obtain ⟨b, off, ha, hc⟩ := h hne
 refine ⟨b, off, ha, fun k hk => ?_⟩
 obtain ⟨h0, h1, h2⟩ := hc k hk
 have hlt := block_lt h0
 exact ⟨by rw [hb.cell (p := ⟨b, off + k * 3, none⟩) hlt]; exact h0, by rw [hb.cell (p := ⟨b, off + k * 3 + 1, none⟩) hlt]; exact h1, by rw [hb.cell (p := ⟨b, off + k * 3 + 2, none⟩) hlt]; exact h2⟩
theorem ReadsL.cases {w : World} {a : Option Addr} {ls : List LiveV} (h : ReadsL w a ls) : ls = [] ∨ ∃ b off, a = some ⟨b, off, none⟩ ∧ 0 < ls.length ∧ ∀ k, k < ls.length → w.cell? ⟨b, off + k * 3, none⟩ = some (.int .i64 (ls.getD k zeroL).tx) ∧ w.cell? ⟨b, off + k * 3 + 1, none⟩ = some (.int .i64 (ls.getD k zeroL).last) ∧ w.cell? ⟨b, off + k * 3 + 2, none⟩ = some (.bool (ls.getD k zeroL).aborts) := by
 by_cases e : ls = []
 ·exact .inl e
 ·obtain ⟨b, off, ha, hc⟩ := h e
  exact .inr ⟨b, off, ha, List.length_pos_iff.2 e, hc⟩
def OwnL (w : World) (lo hi : Nat) (a : Option Addr) (c : Nat) (ls : List LiveV) : Prop :=
 w.ownsRow lo 96 3 (.slice a ls.length c) ls.length (cellsL ls) ∧ hi ≤ w.heap.size ∧ ∀ k, (Value.slice a ls.length c).ownBlock = some k → k < hi
theorem OwnL.lt {w : World} {lo hi : Nat} {a : Option Addr} {c : Nat} {ls : List LiveV} (h : OwnL w lo hi a c ls) : ∀ k, (Value.slice a ls.length c).ownBlock = some k → lo ≤ k ∧ k < hi := fun k hk => ⟨(h.1.lt k hk).1, h.2.2 k hk⟩
theorem OwnL.touch {w w' : World} {lo hi : Nat} {a : Option Addr} {c : Nat} {ls : List LiveV} {bl : List Nat} (h : OwnL w lo hi a c ls) (ht : Touch bl w w') (hd : ∀ k, (Value.slice a ls.length c).ownBlock = some k → k ∉ bl) : OwnL w' lo hi a c ls :=
 ⟨ownsRow_block h.1 (fun k hk => ht.block k (h.1.lt k hk).2 (hd k hk)), Nat.le_trans h.2.1 ht.size, h.2.2⟩
theorem OwnL.within {w w' : World} {lo hi l r : Nat} {a : Option Addr} {c : Nat} {ls : List LiveV} (h : OwnL w lo hi a c ls) (hw : Within l r w w') (hd : hi ≤ l ∨ r ≤ lo) : OwnL w' lo hi a c ls :=
 ⟨ownsRow_block h.1 (fun k hk => hw.block k (by have := h.2.2 k hk; have := h.2.1; omega) (by have := h.lt k hk; omega)), Nat.le_trans h.2.1 hw.size, h.2.2⟩
theorem OwnL.below {w w' : World} {lo hi : Nat} {a : Option Addr} {c : Nat} {ls : List LiveV} (h : OwnL w lo hi a c ls) (hb : Below w.heap.size w w') : OwnL w' lo hi a c ls :=
 h.within (Within.of_below (lo := w.heap.size) (hi := w.heap.size) hb) (.inl h.2.1)
theorem OwnL.widen {w : World} {lo hi lo' hi' : Nat} {a : Option Addr} {c : Nat} {ls : List LiveV} (h : OwnL w lo hi a c ls) (h1 : lo' ≤ lo) (h2 : hi ≤ hi') (h3 : hi' ≤ w.heap.size) : OwnL w lo' hi' a c ls :=
 ⟨ownsRow_base h.1 (fun k hk => by have := h.lt k hk; omega), h3, fun k hk => by have := h.lt k hk; omega⟩
theorem ownL_nil (w : World) (lo hi : Nat) (h : hi ≤ w.heap.size) : OwnL w lo hi none 0 [] := ⟨⟨by simp [cellsL], .inl ⟨rfl, rfl⟩⟩, h, fun k hk => by cases hk⟩
theorem OwnL.nocap {w : World} {lo hi : Nat} {a : Option Addr} {c : Nat} {ls : List LiveV} (h : OwnL w lo hi a c ls) : a = none → c = 0 := by
 intro ha
 rcases h.1.2 with ⟨hv, _⟩ | ⟨g, cap, cur, hv, _⟩
 ·simp only [Value.slice.injEq] at hv; exact hv.2.2
 ·simp [ha] at hv
theorem row_live {w : World} {base g n cap : Nat} {ls : List LiveV} (h : w.ownsRow base 96 3 (.slice (some ⟨g, 0, none⟩) n cap) n (cellsL ls)) (hn : ls.length = n) (k : Nat) (hk : k < n) :
  w.cell? ⟨g, k * 3, none⟩ = some (.int .i64 (ls.getD k zeroL).tx) ∧ w.cell? ⟨g, k * 3 + 1, none⟩ = some (.int .i64 (ls.getD k zeroL).last) ∧ w.cell? ⟨g, k * 3 + 2, none⟩ = some (.bool (ls.getD k zeroL).aborts) ∧ (∀ i, w.frozen? ⟨g, i, none⟩ = false) := by
 have a0 := cellsL_at ls k 0 (by omega) (by omega)
 have a1 := cellsL_at ls k 1 (by omega) (by omega)
 have a2 := cellsL_at ls k 2 (by omega) (by omega)
 simp only [LiveV.cells, Nat.add_zero, List.getElem?_cons_zero, List.getElem?_cons_succ] at a0 a1 a2
 exact ⟨by rw [h.cellAt (k * 3) (by omega)]; exact a0, by rw [h.cellAt (k * 3 + 1) (by omega)]; exact a1, by rw [h.cellAt (k * 3 + 2) (by omega)]; exact a2, fun i => h.frozenAt i⟩
theorem row_store {w : World} {base g n cap : Nat} {ls : List LiveV} (h : w.ownsRow base 96 3 (.slice (some ⟨g, 0, none⟩) n cap) n (cellsL ls)) (hn : ls.length = n) (k : Nat) (hk : k < n) (t : LiveV) :
  ∃ W, Hid (((w.setCell ⟨g, k * 3, none⟩ (.int .i64 t.tx)).setCell ⟨g, k * 3 + 1, none⟩ (.int .i64 t.last)).setCell ⟨g, k * 3 + 2, none⟩ (.bool t.aborts) = W) ∧ W.ownsRow base 96 3 (.slice (some ⟨g, 0, none⟩) n cap) n (cellsL (ls.set k t)) ∧ w.grownBy W (some g) := by
 have s1 := h.stored (k * 3) (.int .i64 t.tx)
 have s2 := s1.1.stored (k * 3 + 1) (.int .i64 t.last)
 have s3 := s2.1.stored (k * 3 + 2) (.bool t.aborts)
 refine ⟨_, rfl, ?_, grownBy_trans (grownBy_trans s1.2 s2.2) s3.2⟩
 have := s3.1
 rw [cellsL_set ls k (by omega) t] at this
 exact this
theorem OwnL.reads {w : World} {lo hi : Nat} {a : Option Addr} {c : Nat} {ls : List LiveV} (h : OwnL w lo hi a c ls) : ReadsL w a ls := by
 intro hne
 rcases h.1.2 with ⟨_, h0⟩ | ⟨g, cap', cur, hv, hb, hg, hr⟩
 ·exact absurd (List.length_eq_zero_iff.1 h0) hne
 ·simp only [Value.slice.injEq] at hv
  obtain ⟨rfl, _, rfl⟩ := hv
  refine ⟨g, 0, rfl, fun k hk => ?_⟩
  obtain ⟨a0, a1, a2, _⟩ := row_live h.1 rfl k hk
  rw [Nat.zero_add]
  exact ⟨a0, a1, a2⟩
theorem eqLive_same (l : LiveV) (w : World) :
  Calls Try.prog 61 #[.agg l.cells.toArray, .agg l.cells.toArray] w fun e w' => e = .returned (.bool true) ∧ Below w.heap.size w w' := by
 obtain ⟨x, y, z⟩ := l
 simp only [LiveV.cells]
 obtain ⟨W, hW, b0, b1, hbW, hsW⟩ := boxes2 w [.int .i64 x, .int .i64 y, .bool z] [.int .i64 x, .int .i64 y, .bool z] 96 96
 clear b0 b1 hsW
 go_enter Try.func61, Try.ntmps61
 go_wp2
 rw [hW.out]
 go_ret
 exact ⟨rfl, hbW⟩
theorem eqLiveS_same (a b : Option Addr) (ca cb : Nat) (ls : List LiveV) (w : World) (ha : ReadsL w a ls) (hb : ReadsL w b ls) (hl : ls.length ≤ 1099511627776) :
  Calls Try.prog 39 #[.slice a ls.length ca, .slice b ls.length cb] w fun e w' => e = .returned (.bool true) ∧ Below w.heap.size w w' := by
 rcases ha.cases with rfl | ⟨b1, o1, rfl, hpos, hc1⟩
 ·go_enter Try.func39, Try.ntmps39
  go_wp2
  refine wp_loop_rounds 1 ?_
  rw [rounds_succ]
  go_wp2
  go_ret
  exact ⟨rfl, Below.refl _ _⟩
 ·rcases hb.cases with rfl | ⟨b2, o2, rfl, _, hc2⟩
  ·simp at hpos
  ·go_enter Try.func39, Try.ntmps39
   go_wp2
   go_loopw [5] (fun i wr => ∃ k : Nat, k ≤ ls.length ∧ i = .int .i64 k ∧ Below w.heap.size w wr) (fun i _ => ls.length - (intOf i).toNat)
   case atStart => exact ⟨0, Nat.zero_le _, rfl, Below.refl _ _⟩
   case round =>
    obtain ⟨k, hk, rfl, hbl⟩ := hrel
    by_cases hlt : k < ls.length
    ·have h1 := hc1 k hlt
     have h2 := hc2 k hlt
     clear hc1 hc2
     generalize ls.getD k zeroL = z at *
     have HS : Hid (∀ w1, Below w.heap.size w w1 → (w1.cell? ⟨b1, o1 + k * 3, none⟩ = some (.int .i64 z.tx) ∧ w1.cell? ⟨b1, o1 + k * 3 + 1, none⟩ = some (.int .i64 z.last) ∧ w1.cell? ⟨b1, o1 + k * 3 + 2, none⟩ = some (.bool z.aborts)) ∧ (w1.cell? ⟨b2, o2 + k * 3, none⟩ = some (.int .i64 z.tx) ∧ w1.cell? ⟨b2, o2 + k * 3 + 1, none⟩ = some (.int .i64 z.last) ∧ w1.cell? ⟨b2, o2 + k * 3 + 2, none⟩ = some (.bool z.aborts))) := fun w1 hh =>
      ⟨⟨(hh.cell (block_lt h1.1)).trans h1.1, (hh.cell (block_lt h1.2.1)).trans h1.2.1, (hh.cell (block_lt h1.2.2)).trans h1.2.2⟩, (hh.cell (block_lt h2.1)).trans h2.1, (hh.cell (block_lt h2.2.1)).trans h2.2.1, (hh.cell (block_lt h2.2.2)).trans h2.2.2⟩
     have hh := HS.out wr hbl
     clear h1 h2
     go_wp2_with fail
     go_region_held3 (fun w1 => (w1.cell? ⟨b1, o1 + k * 3, none⟩ = some (.int .i64 z.tx) ∧ w1.cell? ⟨b1, o1 + k * 3 + 1, none⟩ = some (.int .i64 z.last) ∧ w1.cell? ⟨b1, o1 + k * 3 + 2, none⟩ = some (.bool z.aborts)) ∧ (w1.cell? ⟨b2, o2 + k * 3, none⟩ = some (.int .i64 z.tx) ∧ w1.cell? ⟨b2, o2 + k * 3 + 1, none⟩ = some (.int .i64 z.last) ∧ w1.cell? ⟨b2, o2 + k * 3 + 2, none⟩ = some (.bool z.aborts)))
      (first | exact HS.out _ hw2 | go_keep | fail)
      ((first | (go_at_call 61; refine (eqLive_same z _).mono ?_; rintro e w2 ⟨rfl, hb2⟩; have hw2 : Below w.heap.size w w2 := (hbl.drew).trans (hb2.mono hbl.size)) | fail))
     all_goals
      go_wp2_with fail
      go_roundw
      case rel => exact ⟨k + 1, by omega, by go_num, hw2⟩
      case measure => simp [intOf]; omega
    ·go_wp2
     go_ret
     exact ⟨rfl, hbl⟩
theorem within_setCells (B o : Nat) (vs : List Value) (w : World) : Within B (B + 1) w (w.setCells B o vs) := by
 induction vs generalizing o w with
 | nil => exact Within.refl _ _ _
 | cons v r ih => exact (within_set w B o v (by omega)).trans (ih (o + 1) _)
theorem getD_mem {ss : List SlotA} {k : Nat} (h : k < ss.length) : ss.getD k zeroS ∈ ss := by simp [List.getD, h]
theorem Box.range {w : World} {B : Nat} {t : TypeId} (pre cs post : List Value) (b : Box w B (pre ++ (cs ++ post)) t) : w.rangeAt B pre.length cs := by
 intro j v hv
 have hj : j < cs.length := (List.getElem?_eq_some_iff.1 hv).1
 refine b.cell _ v ?_
 rw [List.getElem?_append_right (by omega), List.getElem?_append_left (by omega)]
 rw [show pre.length + j - pre.length = j by omega]
 exact hv
theorem Box.there {w : World} {B : Nat} {vs : List Value} {t : TypeId} (b : Box w B vs t) (o n : Nat) (h : o + n ≤ vs.length) : w.there B o n := fun j hj =>
 ⟨by rw [b.cell (o + j) _ (List.getElem?_eq_getElem (by omega))]; rfl, b.frozen _⟩
theorem set_range (pre post : List Value) : ∀ (old cs : List Value), old.length = cs.length → ∀ (w : World) (B : Nat) (t : TypeId), Box w B (pre ++ (old ++ post)) t → Box (w.setCells B pre.length cs) B (pre ++ (cs ++ post)) t := by
 intro old
 induction old generalizing pre with
 | nil => intro cs h w B t b; obtain rfl := List.length_eq_zero_iff.1 h.symm; exact b
 | cons x r ih =>
  intro cs h w B t b
  obtain ⟨c, cr, rfl⟩ : ∃ c cr, cs = c :: cr := by
   cases cs with
   | nil => simp at h
   | cons c cr => exact ⟨c, cr, rfl⟩
  have hb := b.set pre.length c
  rw [List.set_append_right _ _ (Nat.le_refl _), Nat.sub_self] at hb
  simp only [List.cons_append, List.set_cons_zero] at hb
  have hb' : Box (w.setCell ⟨B, pre.length, none⟩ c) B ((pre ++ [c]) ++ (r ++ post)) t := by simpa using hb
  have := ih (pre ++ [c]) cr (by simpa using h) _ B t hb'
  simp only [List.length_append, List.length_singleton] at this
  rw [World.setCells]
  simpa using this
theorem range_fill {w : World} {B : Nat} {t : TypeId} (pre old cs post : List Value) (b : Box w B (pre ++ (old ++ post)) t) (h : old.length = cs.length) :
  ∃ W, Hid (w.setCells B pre.length cs = W) ∧ Box W B (pre ++ (cs ++ post)) t ∧ Within B (B + 1) w W ∧ W.heap.size = w.heap.size := by
 refine ⟨_, rfl, set_range pre post old cs h w B t b, within_setCells _ _ _ _, ?_⟩
 have h1 := (within_setCells B pre.length cs w).size
 have : ∀ (vs : List Value) (o : Nat) (w : World), (w.setCells B o vs).heap.size = w.heap.size := by
  intro vs
  induction vs with
  | nil => intro o w; rfl
  | cons v r ih => intro o w; rw [World.setCells, ih]; simp
 exact this _ _ _
theorem oneS (ss : List SlotA) : ∀ v ∈ cellsS ss, v.oneCell' = true := by
 intro v hv
 obtain ⟨s, _, hs⟩ := List.mem_flatMap.1 hv
 simp only [SlotA.cells, List.mem_cons, List.not_mem_nil, or_false] at hs
 rcases hs with rfl | rfl | rfl | rfl <;> rfl
structure PageA where
 lsn : Int
 ss : List SlotA
def PageA.cells (p : PageA) : List Value := .int .i64 p.lsn :: cellsS p.ss
theorem oneP (p : PageA) : ∀ v ∈ p.cells, v.oneCell' = true := by
 intro v hv
 rcases List.mem_cons.1 hv with rfl | h
 ·rfl
 ·exact oneS _ v h
theorem page_len (p : PageA) (h : p.ss.length = 4) : p.cells.length = 17 := by simp [PageA.cells, cellsS_len, h]
structure RecV where
 lsn : Int
 tx : Int
 prev : Int
 kind : Int
 oid : Int
 bf : SlotV
 af : SlotV
 next : Int
 txs : List LiveV
structure RecA where
 lsn : Int
 tx : Int
 prev : Int
 kind : Int
 oid : Int
 bf : SlotA
 af : SlotA
 next : Int
 txs : List LiveV
 aL : Option Addr
 cL : Nat
def RecA.v (r : RecA) : RecV := ⟨r.lsn, r.tx, r.prev, r.kind, r.oid, r.bf.v, r.af.v, r.next, r.txs⟩
def RecA.cells (r : RecA) : List Value := [.int .i64 r.lsn, .int .i64 r.tx, .int .i64 r.prev, .int .i64 r.kind, .int .i64 r.oid, .bool r.bf.v.has, .int .i64 r.bf.v.o.kind, .slice r.bf.aI r.bf.v.o.ints.length r.bf.cI, .slice r.bf.aR r.bf.v.o.refs.length r.bf.cR, .bool r.af.v.has, .int .i64 r.af.v.o.kind, .slice r.af.aI r.af.v.o.ints.length r.af.cI, .slice r.af.aR r.af.v.o.refs.length r.af.cR, .int .i64 r.next, .slice r.aL r.txs.length r.cL]
structure RecA.reads (w : World) (r : RecA) : Prop where
 bf : r.bf.reads w
 af : r.af.reads w
 txs : ReadsL w r.aL r.txs
theorem RecA.reads.below {w w' : World} {r : RecA} (h : r.reads w) (hb : Below w.heap.size w w') : r.reads w' := ⟨ReadsO.below h.bf hb, ReadsO.below h.af hb, h.txs.below hb⟩
def RecA.blocks (r : RecA) : List Nat := r.bf.blocks ++ (r.af.blocks ++ (Value.slice r.aL r.txs.length r.cL).ownBlock.toList)
structure RecA.own (w : World) (lo hi : Nat) (r : RecA) : Prop where
 bf : r.bf.own w lo hi
 af : r.af.own w lo hi
 txs : OwnL w lo hi r.aL r.cL r.txs
 apart : r.blocks.Nodup
theorem RecA.own.reads {w : World} {lo hi : Nat} {r : RecA} (h : r.own w lo hi) : r.reads w := ⟨OwnO.reads h.bf, OwnO.reads h.af, h.txs.reads⟩
theorem RecA.own.within {w w' : World} {lo hi l u : Nat} {r : RecA} (h : r.own w lo hi) (hw : Within l u w w') (hd : hi ≤ l ∨ u ≤ lo) : r.own w' lo hi := ⟨OwnO.within h.bf hw hd, OwnO.within h.af hw hd, h.txs.within hw hd, h.apart⟩
theorem RecA.own.widen {w : World} {lo hi lo' hi' : Nat} {r : RecA} (h : r.own w lo hi) (h1 : lo' ≤ lo) (h2 : hi ≤ hi') (h3 : hi' ≤ w.heap.size) : r.own w lo' hi' := ⟨OwnO.widen h.bf h1 h2 h3, OwnO.widen h.af h1 h2 h3, h.txs.widen h1 h2 h3, h.apart⟩
theorem eqSlot_same (s t : SlotA) (he : t.v = s.v) (w : World) (hs : s.reads w) (ht : t.reads w) (hlI : s.v.o.ints.length ≤ 1099511627776) (hlR : s.v.o.refs.length ≤ 1099511627776) :
  Calls Try.prog 76 #[.agg s.cells.toArray, .agg t.cells.toArray] w fun e w' => e = .returned (.bool true) ∧ Below w.heap.size w w' := by
 obtain ⟨v, aI, cI, aR, cR⟩ := s
 obtain ⟨v', bI, dI, bR, dR⟩ := t
 simp only at he
 subst he
 obtain ⟨h, ⟨k, ints, refs⟩⟩ := v'
 simp only [SlotA.cells, SlotA.reads] at *
 obtain ⟨W, hW, b0, b1, hbW, hsW⟩ := boxes2 w [.bool h, .int .i64 k, .slice aI ints.length cI, .slice aR refs.length cR] [.bool h, .int .i64 k, .slice bI ints.length dI, .slice bR refs.length dR] 28 28
 go_enter Try.func76, Try.ntmps76
 go_wp2_with fail
 rw [hW.out]
 clear hW
 refine (eqObj_same ⟨k, ints, refs⟩ aI cI aR cR bI dI bR dR W (hs.below hbW) (ht.below hbW) hlI hlR).mono ?_
 rintro e w1 ⟨rfl, hb1⟩
 go_wp2
 go_ret
 exact ⟨rfl, hbW.trans (hb1.mono hbW.size)⟩
theorem same_at {ss ts : List SlotA} (h : ts.map (·.v) = ss.map (·.v)) (k : Nat) : (ts.getD k zeroS).v = (ss.getD k zeroS).v := by
 have := congrArg (fun l => l[k]?) h
 simp only [List.getElem?_map] at this
 simp only [List.getD]
 cases h1 : ts[k]? <;> cases h2 : ss[k]? <;> simp_all
theorem eqSlotA4_same (ss ts : List SlotA) (h4 : ss.length = 4) (he : ts.map (·.v) = ss.map (·.v)) (w : World) (hs : ReadsS w ss) (ht : ReadsS w ts) (hl : ∀ s ∈ ss, s.v.o.ints.length ≤ 1099511627776 ∧ s.v.o.refs.length ≤ 1099511627776) :
  Calls Try.prog 71 #[.agg (cellsS ss).toArray, .agg (cellsS ts).toArray] w fun e w' => e = .returned (.bool true) ∧ Below w.heap.size w w' := by
 have htl : ts.length = 4 := by have := congrArg List.length he; simp only [List.length_map] at this; omega
 obtain ⟨W, hW, b0, b1, hbW, hsW⟩ := boxes2 w (cellsS ss) (cellsS ts) 29 29
 have H4 : Hid (ss.length = 4 ∧ ts.length = 4) := ⟨h4, htl⟩
 have HE : Hid _ := he
 clear hsW h4 htl he
 go_enter Try.func71, Try.ntmps71
 go_wp2_with fail
 rw [hW.out]
 clear hW
 go_loopw [5] (fun i wr => ∃ (k : Nat), i = .int .i64 k ∧ k ≤ 4 ∧ Below W.heap.size W wr)
  (fun i _ => 4 - (RowKit.intOf i).toNat)
 case atStart => exact ⟨0, rfl, by omega, Below.refl _ _⟩
 case round =>
  obtain ⟨k, rfl, hk, hbl⟩ := hrel
  by_cases hlt : k < 4
  ·have hkl : k < ss.length := by rw [H4.out.1]; exact hlt
   have hkt : k < ts.length := by rw [H4.out.2]; exact hlt
   have hi0 : (0 : Int) ≤ (k : Int) := by omega
   have hi4 : (k : Int) < 4 := by omega
   have HC : Hid (∀ w'', Below W.heap.size W w'' → _ ∧ _) := fun w'' hh => ⟨(b0.below hh b0.lt).slot k hkl, (b1.below hh b1.lt).slot k hkt⟩
   have hsk := fun w'' (hh : Below W.heap.size W w'') => (hs _ (getD_mem hkl)).below (hbW.trans (hh.mono hbW.size))
   have htk := fun w'' (hh : Below W.heap.size W w'') => (ht _ (getD_mem hkt)).below (hbW.trans (hh.mono hbW.size))
   have hlk := hl _ (getD_mem hkl)
   have hv := same_at HE.out k
   generalize ss.getD k zeroS = s at *
   generalize ts.getD k zeroS = t at *
   have HS : Hid (∀ w1, Below W.heap.size W w1 → (w1.cell? ⟨w.heap.size, k * 4, none⟩ = some (.bool s.v.has) ∧ w1.cell? ⟨w.heap.size, k * 4 + 1, none⟩ = some (.int .i64 s.v.o.kind) ∧ w1.cell? ⟨w.heap.size, k * 4 + 2, none⟩ = some (.slice s.aI s.v.o.ints.length s.cI) ∧ w1.cell? ⟨w.heap.size, k * 4 + 3, none⟩ = some (.slice s.aR s.v.o.refs.length s.cR)) ∧ (w1.cell? ⟨(w.heap.size + 1), k * 4, none⟩ = some (.bool t.v.has) ∧ w1.cell? ⟨(w.heap.size + 1), k * 4 + 1, none⟩ = some (.int .i64 t.v.o.kind) ∧ w1.cell? ⟨(w.heap.size + 1), k * 4 + 2, none⟩ = some (.slice t.aI t.v.o.ints.length t.cI) ∧ w1.cell? ⟨(w.heap.size + 1), k * 4 + 3, none⟩ = some (.slice t.aR t.v.o.refs.length t.cR))) := fun w1 hh => by
    obtain ⟨⟨c0, c1, c2, c3, _⟩, ⟨d0, d1, d2, d3, _⟩⟩ := HC.out w1 hh
    exact ⟨⟨c0, c1, c2, c3⟩, d0, d1, d2, d3⟩
   have HR : Hid (_ ∧ _ ∧ _) := ⟨hsk, htk, hlk⟩
   have hh := HS.out wr hbl
   have HV : Hid (t.v = s.v) := hv
   clear HC hsk htk hlk hv
   go_wp2_with fail
   go_region_held3 (fun w1 => (w1.cell? ⟨w.heap.size, k * 4, none⟩ = some (.bool s.v.has) ∧ w1.cell? ⟨w.heap.size, k * 4 + 1, none⟩ = some (.int .i64 s.v.o.kind) ∧ w1.cell? ⟨w.heap.size, k * 4 + 2, none⟩ = some (.slice s.aI s.v.o.ints.length s.cI) ∧ w1.cell? ⟨w.heap.size, k * 4 + 3, none⟩ = some (.slice s.aR s.v.o.refs.length s.cR)) ∧ (w1.cell? ⟨(w.heap.size + 1), k * 4, none⟩ = some (.bool t.v.has) ∧ w1.cell? ⟨(w.heap.size + 1), k * 4 + 1, none⟩ = some (.int .i64 t.v.o.kind) ∧ w1.cell? ⟨(w.heap.size + 1), k * 4 + 2, none⟩ = some (.slice t.aI t.v.o.ints.length t.cI) ∧ w1.cell? ⟨(w.heap.size + 1), k * 4 + 3, none⟩ = some (.slice t.aR t.v.o.refs.length t.cR)))
    (first | exact HS.out _ hw2 | go_keep | fail)
    ((first | (go_at_call 76; refine (eqSlot_same s t HV.out _ (HR.out.1 _ hbl.drew) (HR.out.2.1 _ hbl.drew) HR.out.2.2.1 HR.out.2.2.2).mono ?_; rintro e w2 ⟨rfl, hb2⟩; have hw2 : Below W.heap.size W w2 := (hbl.drew).trans (hb2.mono hbl.size)) | fail))
   all_goals
    go_wp2_with fail
    go_roundw
    case rel => exact ⟨k + 1, by go_num, by omega, hw2⟩
    case measure => simp [RowKit.intOf]; omega
  ·have hkk : ¬ (k : Int) < 4 := by omega
   go_wp2
   go_ret
   exact ⟨rfl, hbW.trans (hbl.mono hbW.size)⟩
theorem eqPage_same (n : Int) (ss ts : List SlotA) (h4 : ss.length = 4) (he : ts.map (·.v) = ss.map (·.v)) (w : World) (hs : ReadsS w ss) (ht : ReadsS w ts) (hl : ∀ s ∈ ss, s.v.o.ints.length ≤ 1099511627776 ∧ s.v.o.refs.length ≤ 1099511627776) :
  Calls Try.prog 58 #[.agg (PageA.cells ⟨n, ss⟩).toArray, .agg (PageA.cells ⟨n, ts⟩).toArray] w fun e w' => e = .returned (.bool true) ∧ Below w.heap.size w w' := by
 have htl : ts.length = 4 := by have := congrArg List.length he; simp only [List.length_map] at this; omega
 simp only [PageA.cells]
 obtain ⟨W, hW, b0, b1, hbW, hsW⟩ := boxes2 w (.int .i64 n :: cellsS ss) (.int .i64 n :: cellsS ts) 31 31
 have hrg0 : W.rangeAt w.heap.size 1 (cellsS ss) := Box.range [.int .i64 n] (cellsS ss) [] (by simpa using b0)
 have hrg1 : W.rangeAt (w.heap.size + 1) 1 (cellsS ts) := Box.range [.int .i64 n] (cellsS ts) [] (by simpa using b1)
 have hi0 : (Try.prog.info? 29).map (·.size) = some (cellsS ss).length := by rw [cellsS_len, h4]; kernel_rfl
 have hi1 : (Try.prog.info? 29).map (·.size) = some (cellsS ts).length := by rw [cellsS_len, htl]; kernel_rfl
 have HI : Hid (_ ∧ _) := ⟨hi0, hi1⟩
 have HR : Hid (_ ∧ _) := ⟨hrg0, hrg1⟩
 clear hi0 hi1 hrg0 hrg1 hsW htl
 go_enter Try.func58, Try.ntmps58
 go_wp2_with (first | (guard_target = wpList _ _ _ (Oper.mk (some 11) _ _ _ _ _ :: _) _ _; refine wpList_load_mid rfl 29 (.tmp 10) rfl w.heap.size 1 rfl (cellsS ss) _ (by rw [hW.out]; exact HR.out.1) Try.underlying29 rfl HI.out.1 ?_) | (guard_target = wpList _ _ _ (Oper.mk (some 13) _ _ _ _ _ :: _) _ _; refine wpList_load_mid rfl 29 (.tmp 12) rfl (w.heap.size + 1) 1 rfl (cellsS ts) _ (by rw [hW.out]; exact HR.out.2) Try.underlying29 rfl HI.out.2 ?_) | fail)
 rw [hW.out]
 clear hW
 refine (eqSlotA4_same ss ts h4 he W (hs.below hbW) (ht.below hbW) hl).mono ?_
 rintro e w1 ⟨rfl, hb1⟩
 go_wp2
 go_ret
 exact ⟨rfl, hbW.trans (hb1.mono hbW.size)⟩
structure RecA.short (r : RecA) (m : Nat) : Prop where
 bf : r.bf.v.o.ints.length ≤ m ∧ r.bf.v.o.refs.length ≤ m
 af : r.af.v.o.ints.length ≤ m ∧ r.af.v.o.refs.length ≤ m
 txs : r.txs.length ≤ m
theorem eqRec_same (r t : RecA) (he : t.v = r.v) (w : World) (hr : r.reads w) (ht : t.reads w) (hl : r.short 1099511627776) :
  Calls Try.prog 73 #[.agg r.cells.toArray, .agg t.cells.toArray] w fun e w' => e = .returned (.bool true) ∧ Below w.heap.size w w' := by
 obtain ⟨W, hW, b0, b1, hbW, hsW⟩ := boxes2 w r.cells t.cells 113 113
 simp only [RecA.v, RecV.mk.injEq] at he
 obtain ⟨e1, e2, e3, e4, e5, e6, e7, e8, e9⟩ := he
 have C1 := eqSlot_same r.bf t.bf e6 W (ReadsO.below hr.bf hbW) (ReadsO.below ht.bf hbW) hl.bf.1 hl.bf.2
 have HL : Hid (_ ∧ _) := ⟨hl.af, hl.txs⟩
 have HR : Hid (_ ∧ _) := ⟨hr, ht⟩
 have HE : Hid (_ ∧ _) := ⟨e7, e9⟩
 clear hsW hl hr ht e6 e7 e9
 simp only [RecA.cells] at *
 simp only [SlotA.cells] at C1
 simp only [e1, e2, e3, e4, e5, e8] at b1 hW ⊢
 clear e1 e2 e3 e4 e5 e8
 go_enter Try.func73, Try.ntmps73
 go_wp2_with fail
 rw [hW.out]
 clear hW
 refine C1.mono ?_
 clear C1
 rintro e w1 ⟨rfl, hb1⟩
 have b01 := b0.below hb1 b0.lt
 have b11 := b1.below hb1 b1.lt
 have B1 : Below w.heap.size w w1 := hbW.trans (hb1.mono hbW.size)
 clear b0 b1 hb1 hbW
 have c9 := b01.cell 9 _ rfl
 have d9 := b11.cell 9 _ rfl
 have c10 := b01.cell 10 _ rfl
 have d10 := b11.cell 10 _ rfl
 have c11 := b01.cell 11 _ rfl
 have d11 := b11.cell 11 _ rfl
 have c12 := b01.cell 12 _ rfl
 have d12 := b11.cell 12 _ rfl
 have C2 := eqSlot_same r.af t.af HE.out.1 w1 (ReadsO.below HR.out.1.af B1) (ReadsO.below HR.out.2.af B1) HL.out.1.1 HL.out.1.2
 simp only [SlotA.cells] at C2
 go_wp2_with fail
 refine C2.mono ?_
 clear C2
 rintro e w2 ⟨rfl, hb2⟩
 have b02 := b01.below hb2 b01.lt
 have b12 := b11.below hb2 b11.lt
 have B2 : Below w.heap.size w w2 := B1.trans (hb2.mono B1.size)
 clear b01 b11 hb2 B1 c9 d9 c10 d10 c11 d11 c12 d12
 have c13 := b02.cell 13 _ rfl
 have d13 := b12.cell 13 _ rfl
 have c14 := b02.cell 14 _ rfl
 have d14 := b12.cell 14 _ rfl
 have C3 := eqLiveS_same r.aL t.aL r.cL t.cL r.txs w2 (HR.out.1.txs.below B2) (by have := HR.out.2.txs.below B2; rw [HE.out.2] at this; exact this) HL.out.2
 have hte : t.txs.length = r.txs.length := by rw [HE.out.2]
 rw [hte] at d14
 go_wp2_with fail
 refine C3.mono ?_
 clear C3
 rintro e w3 ⟨rfl, hb3⟩
 go_wp2
 go_ret
 exact ⟨rfl, B2.trans (hb3.mono B2.size)⟩
end Go.Proofs.Ytgnkplbefclpgaa
namespace Go.Proofs.Ytgnkplbefclpgaa
open Go.RowKit
end Go.Proofs.Ytgnkplbefclpgaa