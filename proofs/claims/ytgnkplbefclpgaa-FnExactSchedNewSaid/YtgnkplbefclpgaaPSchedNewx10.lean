/- Several texts in one, in their order. -/
import Derived.Test.YtgnkplbefclpgaaPSchedNewx2
import Derived.ProofKit
import Derived.OpenShut
import Derived.ChangeOld
import Derived.Test.YtgnkplbefclpgaaPSchedNewx3
import Derived.Test.YtgnkplbefclpgaaPSchedNewx1
import Derived.ChangeArms
import Derived.Test.YtgnkplbefclpgaaPSchedNewx6
import Derived.Test.YtgnkplbefclpgaaProg
import Derived.LaidEql
import Derived.Stop.Asserts
import Derived.RowKitTokens
set_option maxHeartbeats 8000000
set_option maxRecDepth 100000
namespace Go.Proofs.Ytgnkplbefclpgaa
open Go.RowKit
structure JobsShort (js : List JobA) (n : Nat) : Prop where
 len : js.length ≤ n
 each : ∀ j ∈ js, j.ops.length ≤ n
theorem fillJ_next (A : List JobA) (n k : Nat) (h : k < n) : A ++ List.replicate (n - k) zeroJ = A ++ zeroJ :: List.replicate (n - (k + 1)) zeroJ := by
 rw [show n - k = (n - (k + 1)) + 1 by omega, List.replicate_succ]
theorem opsJ_snoc (A : List JobA) (js : List JobA) (q : JobA) (k : Nat) (hk : k < js.length) (h : opsJ A = (opsJ js).take k) (hq : q.ops = (js.getD k zeroJ).ops) : opsJ (A ++ [q]) = (opsJ js).take (k + 1) := by
 have e : (opsJ js).take (k + 1) = (opsJ js).take k ++ [(js.getD k zeroJ).ops] := by
  rw [List.take_succ_eq_append_getElem (by rw [opsJ_len]; exact hk)]
  simp [opsJ, List.getD, hk]
 rw [e, ← h, ← hq]
 simp [opsJ]
theorem toOpSS_any (a : Option Addr) (cap : Nat) (js : List JobA) (w : World) (hr : ReadsJ w a js) (hl : JobsShort js 1099511627776) :
  Calls Try.prog 6 #[.slice a js.length cap] w fun e w' => ∃ a' c' js', e = .returned (.slice a' js'.length c') ∧ Hid (opsJ js' = opsJ js) ∧ OwnJ w' w.heap.size w'.heap.size a' c' js' ∧ Below w.heap.size w w' := by
 obtain ⟨hl1, hl2⟩ := hl
 obtain ⟨i0, hi, hz0, hz1, hz2⟩ := info_parts Try.infoOps
 have HCELL : Hid (∀ u, Below w.heap.size w u → ∀ k, k < js.length → ∃ b off, a = some ⟨b, off, none⟩ ∧ u.cell? ⟨b, off + k, none⟩ = some (js.getD k zeroJ).cell ∧ ReadsQ u (js.getD k zeroJ).a (js.getD k zeroJ).ops) := fun u hu k hk => by
  obtain ⟨b, off, ha, hc⟩ := (hr.below hu) (by intro e; rw [e] at hk; simp at hk)
  exact ⟨b, off, ha, (hc k hk).1, (hc k hk).2⟩
 have HLE : Hid (∀ k, k < js.length → (js.getD k zeroJ).ops.length ≤ 1099511627776) := fun k hk => hl2 _ (jobD_mem js k hk)
 clear hr hl2
 go_enter Try.func6, Try.ntmps6
 go_wp2_with (at_make; refine wpList_make_full _ rfl _ _ 46 rfl w.heap.size 61 i0 (.slice none 0 0) 1 Try.underlying46 hi hz0 hz1 _ _ _ _ js.length rfl rfl rfl rfl (by rw [hz2]; omega) (by simp [maxLen]; omega) (Nat.le_refl _) ?_)
 intro w0 hown0 hgrow0
 have hown1 : OwnJ w0 w.heap.size w0.heap.size (some ⟨w.heap.size, 0, none⟩) js.length (List.replicate js.length zeroJ) := ownJ_made (by rw [← made_jobs, Nat.mul_one]; exact hown0)
 have hb0 : Below w.heap.size w w0 := (Below.refl _ _).grown hgrow0 (Nat.le_refl _) (fun k h => by cases h)
 clear hown0 hgrow0
 go_wp2
 go_loopw [4] (fun i wr => ∃ (k : Nat) (A : List JobA), k ≤ js.length ∧ i = .int .i64 k ∧ A.length = k ∧ Hid (opsJ A = (opsJ js).take k) ∧ OwnJ wr w.heap.size wr.heap.size (some ⟨w.heap.size, 0, none⟩) js.length (A ++ List.replicate (js.length - k) zeroJ) ∧ Below w.heap.size w wr)
  (fun i _ => js.length - (intOf i).toNat)
 case atStart => exact ⟨0, [], Nat.zero_le _, rfl, rfl, rfl, hown1, hb0⟩
 case round =>
  obtain ⟨k, A, hk, rfl, hA, hops, hown, hnx⟩ := hrel
  by_cases hlt : k < js.length
  ·obtain ⟨b, off, rfl, hc, hrd⟩ := HCELL.out wr hnx k hlt
   have hll := HLE.out k hlt
   have HSN : Hid (∀ q : JobA, q.ops = (js.getD k zeroJ).ops → opsJ (A ++ [q]) = (opsJ js).take (k + 1)) := fun q hq => opsJ_snoc A js q k hlt hops.out hq
   rw [fillJ_next A js.length k hlt] at hown
   have hrl : (A ++ zeroJ :: List.replicate (js.length - (k + 1)) zeroJ).length = js.length := by simp; omega
   clear HCELL HLE hown1 hb0 hops
   generalize js.getD k zeroJ = z at *
   have C := toOpS_any z.a z.c z.ops wr hrd hll
   simp only [JobA.cell] at hc
   go_wp2_with fail
   refine C.mono ?_
   clear C hc hrd
   rintro e w1 ⟨a1, c1, rfl, ho1, hb1⟩
   have hownA := hown.below hb1
   have hrow := hownA.row
   rw [hrl] at hrow
   have x0 := hrow.cellAt k (by omega)
   rw [cellsJ_at _ k (by rw [hrl]; exact hlt)] at x0
   have f0 := hrow.frozenAt k
   have z1 := hb1.size
   obtain ⟨W2, hW2, ho2, ht2, hs2⟩ := hownA.fill ⟨z.ops, a1, c1⟩ ho1 (Nat.le_refl _) hnx.size (Nat.le_refl _)
   rw [hA] at hW2
   simp only [JobA.cell] at hW2
   have hB2 : Below w.heap.size w W2 := (hnx.trans (hb1.mono hnx.size)).trans ⟨ht2.os, ht2.tape, ht2.output, ht2.size, fun j hj => ht2.block j (by have := hnx.size; omega) (by simp; omega)⟩
   have HH : Hid (_ ∧ _) := ⟨ho2.widen (Nat.le_refl _) (by omega) (Nat.le_refl _), hB2⟩
   have HOP : Hid (opsJ (A ++ [(⟨z.ops, a1, c1⟩ : JobA)]) = (opsJ js).take (k + 1)) := HSN.out ⟨z.ops, a1, c1⟩ rfl
   clear ho2 hB2 ht2 hownA hown hb1 hnx HSN hrow ho1
   generalize (A ++ zeroJ :: List.replicate (js.length - (k + 1)) zeroJ).getD k zeroJ = old at *
   simp only [JobA.cell] at x0
   go_wp2_with fail
   rw [hW2.out]
   go_roundw
   case rel => exact ⟨k + 1, A ++ [(⟨z.ops, a1, c1⟩ : JobA)], by omega, by go_num, by simp [hA], HOP, by rw [List.append_assoc]; exact HH.out.1, HH.out.2⟩
   case measure => simp [intOf]; omega
  ·have e : k = js.length := by omega
   have HE : Hid (OwnJ wr w.heap.size wr.heap.size (some ⟨w.heap.size, 0, none⟩) js.length A ∧ opsJ A = opsJ js ∧ A.length = js.length) := by
    have h1 := hown
    have h2 := hops.out
    rw [e, Nat.sub_self, List.replicate_zero, List.append_nil] at h1
    rw [e, List.take_of_length_le (by rw [opsJ_len]; exact Nat.le_refl _)] at h2
    exact ⟨h1, h2, by omega⟩
   go_wp2
   go_ret
   exact ⟨some ⟨w.heap.size, 0, none⟩, js.length, A, by rw [HE.out.2.2]; rfl, HE.out.2.1, HE.out.1, hnx⟩
def szQ (n : Nat) (left : Int) : Int := if left - n < 0 then -1 else left - n
theorem szOpS_any (a : Option Addr) (c n : Nat) (left : Int) (w : World) (hn : n ≤ 9223372036854775807) (h0 : 0 ≤ left ∧ left ≤ 1048576) :
  Calls Try.prog 13 #[.slice a n c, .int .i64 left] w fun e w' => e = .returned (.int .i64 (szQ n left)) ∧ w' = w := by
 by_cases h : left - n < 0
 ·have HS : Hid (szQ n left = -1) := by unfold szQ; rw [Hid, if_pos h]
  go_enter Try.func13, Try.ntmps13
  go_wp2
  go_ret
  exact ⟨ret_int HS.out.symm, rfl⟩
 ·have HS : Hid (szQ n left = left - n) := by unfold szQ; rw [Hid, if_neg h]
  go_enter Try.func13, Try.ntmps13
  go_wp2
  go_ret
  exact ⟨ret_int HS.out.symm, rfl⟩
theorem szOpSS_any (a : Option Addr) (cap : Nat) (js : List JobA) (left : Int) (w : World) (hr : ReadsJ w a js) (hn : JobsShort js 9223372036854775807) (hl : 0 ≤ left ∧ left ≤ 1048576) :
  Calls Try.prog 4 #[.slice a js.length cap, .int .i64 left] w fun e w' => ∃ z : Int, e = .returned (.int .i64 z) ∧ (z < 0 ∨ (0 ≤ z ∧ z ≤ left ∧ JobsShort js 1048576)) ∧ w' = w := by
 obtain ⟨hn1, hn2⟩ := hn
 by_cases hle : left - js.length < 0
 ·go_enter Try.func4, Try.ntmps4
  go_wp2
  go_ret
  exact ⟨-1, rfl, .inl (by omega), rfl⟩
 have hlen : js.length ≤ 1048576 := by omega
 have HC : Hid (∀ k, k < js.length → ∃ b off, a = some ⟨b, off, none⟩ ∧ w.cell? ⟨b, off + k, none⟩ = some (js.getD k zeroJ).cell) := fun k hk => by
  obtain ⟨b, off, ha, hc⟩ := hr (by intro e; rw [e] at hk; simp at hk)
  exact ⟨b, off, ha, (hc k hk).1⟩
 have HLE : Hid (∀ k, k < js.length → (js.getD k zeroJ).ops.length ≤ 9223372036854775807) := fun k hk => hn2 _ (jobD_mem js k hk)
 have HA : Hid ((∀ k, k < js.length → (js.getD k zeroJ).ops.length ≤ 1048576) → JobsShort js 1048576) := by
  intro h
  refine ⟨hlen, fun r hr => ?_⟩
  obtain ⟨k, hk, rfl⟩ := List.getElem_of_mem hr
  have := h k hk
  simpa [List.getD, hk] using this
 clear hr hn2
 go_enter Try.func4, Try.ntmps4
 go_wp2
 go_loopw [1, 5] (fun v i wr => ∃ (k : Nat) (z : Int), k ≤ js.length ∧ i = .int .i64 k ∧ v = .int .i64 z ∧ 0 ≤ z ∧ z ≤ left ∧ Hid (∀ j, j < k → (js.getD j zeroJ).ops.length ≤ 1048576) ∧ Hid (wr = w)) (fun _ i _ => js.length - (intOf i).toNat)
 case atStart => exact ⟨0, left - js.length, Nat.zero_le _, rfl, by go_num, by omega, by omega, fun j hj => by omega, rfl⟩
 case round =>
  obtain ⟨k, z, hk, rfl, rfl, hz0, hz1, hsh, hw⟩ := hrel
  have hw' := hw.out
  subst hw'
  by_cases hlt : k < js.length
  ·obtain ⟨b, off, rfl, hcell⟩ := HC.out k hlt
   have hle := HLE.out k hlt
   clear HC HLE
   have HN : Hid ((js.getD k zeroJ).ops.length ≤ 1048576 → ∀ j, j < k + 1 → (js.getD j zeroJ).ops.length ≤ 1048576) := fun h j hj => by
    by_cases e : j = k
    ·rw [e]; exact h
    ·exact hsh.out j (by omega)
   generalize js.getD k zeroJ = y at *
   have C := szOpS_any y.a y.c y.ops.length z wr hle (by omega)
   simp only [JobA.cell] at hcell
   by_cases h : z - y.ops.length < 0
   ·have HS : Hid (szQ y.ops.length z = -1) := by unfold szQ; rw [Hid, if_pos h]
    rw [HS.out] at C
    go_wp2_with fail
    refine C.mono ?_
    rintro e w1 ⟨rfl, rfl⟩
    go_wp2
    go_ret
    exact ⟨-1, rfl, .inl (by omega), rfl⟩
   ·have HS : Hid (szQ y.ops.length z = z - y.ops.length) := by unfold szQ; rw [Hid, if_neg h]
    rw [HS.out] at C
    have HH := HN.out (by omega)
    have HM : Hid (0 ≤ z - (y.ops.length : Int) ∧ z - (y.ops.length : Int) ≤ left) := ⟨by omega, by omega⟩
    go_wp2_with fail
    refine C.mono ?_
    rintro e w1 ⟨rfl, rfl⟩
    clear C
    go_wp2
    go_roundw
    case rel => exact ⟨k + 1, z - y.ops.length, by omega, by go_num, rfl, HM.out.1, HM.out.2, HH, True.intro⟩
    case measure => simp [intOf]; omega
  ·have HE : Hid (JobsShort js 1048576) := HA.out (fun j hj => hsh.out j (by omega))
   go_wp2
   go_ret
   exact ⟨z, rfl, .inr ⟨hz0, hz1, HE.out⟩, rfl⟩
theorem eqOpSS_same (a b : Option Addr) (ca cb : Nat) (js ks : List JobA) (w : World) (ha : ReadsJ w a js) (hb : ReadsJ w b ks) (he : opsJ ks = opsJ js) (hl : JobsShort js 1099511627776) :
  Calls Try.prog 9 #[.slice a js.length ca, .slice b ks.length cb] w fun e w' => e = .returned (.bool true) ∧ Below w.heap.size w w' := by
 have hle : ks.length = js.length := by rw [← opsJ_len, he, opsJ_len]
 obtain ⟨hl1, hl2⟩ := hl
 have HC : Hid (∀ u, Below w.heap.size w u → ∀ k, k < js.length → ∃ b1 o1 b2 o2, a = some ⟨b1, o1, none⟩ ∧ b = some ⟨b2, o2, none⟩ ∧ u.cell? ⟨b1, o1 + k, none⟩ = some (js.getD k zeroJ).cell ∧ u.cell? ⟨b2, o2 + k, none⟩ = some (ks.getD k zeroJ).cell) := fun u hu k hk => by
  obtain ⟨b1, o1, h1, hc1⟩ := (ha.below hu) (by intro e; rw [e] at hk; simp at hk)
  obtain ⟨b2, o2, h2, hc2⟩ := (hb.below hu) (by intro e; rw [e] at hle; simp at hle; omega)
  exact ⟨b1, o1, b2, o2, h1, h2, (hc1 k hk).1, (hc2 k (by omega)).1⟩
 have HQ : Hid (∀ k, k < js.length → (ks.getD k zeroJ).ops = (js.getD k zeroJ).ops ∧ ∀ u, Below w.heap.size w u → Calls Try.prog 24 #[(js.getD k zeroJ).cell, (ks.getD k zeroJ).cell] u fun e w' => e = .returned (.bool true) ∧ Below u.heap.size u w') := fun k hk => by
  have e : (ks.getD k zeroJ).ops = (js.getD k zeroJ).ops := by rw [← opsJ_at, ← opsJ_at, he]
  refine ⟨e, fun u hu => ?_⟩
  obtain ⟨b1, o1, h1, hc1⟩ := (ha.below hu) (by intro e; rw [e] at hk; simp at hk)
  obtain ⟨b2, o2, h2, hc2⟩ := (hb.below hu) (by intro e; rw [e] at hle; simp at hle; omega)
  have r2 := (hc2 k (by omega)).2
  rw [e] at r2
  have := eqOpS_same (js.getD k zeroJ).a (ks.getD k zeroJ).a (js.getD k zeroJ).c (ks.getD k zeroJ).c (js.getD k zeroJ).ops u (hc1 k hk).2 r2 (hl2 _ (jobD_mem js k hk))
  simp only [JobA.cell, e]
  exact this
 rw [hle]
 clear ha hb he hl2
 go_enter Try.func9, Try.ntmps9
 go_wp2
 go_loopw [5] (fun i wr => ∃ k : Nat, k ≤ js.length ∧ i = .int .i64 k ∧ Below w.heap.size w wr) (fun i _ => js.length - (intOf i).toNat)
 case atStart => exact ⟨0, Nat.zero_le _, rfl, Below.refl _ _⟩
 case round =>
  obtain ⟨k, hk, rfl, hbl⟩ := hrel
  by_cases hlt : k < js.length
  ·obtain ⟨b1, o1, b2, o2, rfl, rfl, h1, h2⟩ := HC.out wr hbl k hlt
   have HS : Hid (∀ w1, Below w.heap.size w w1 → w1.cell? ⟨b1, o1 + k, none⟩ = some (js.getD k zeroJ).cell ∧ w1.cell? ⟨b2, o2 + k, none⟩ = some (ks.getD k zeroJ).cell) := fun w1 hh => by
    obtain ⟨b1', o1', b2', o2', e1, e2, g1, g2⟩ := HC.out w1 hh k hlt
    cases e1; cases e2
    exact ⟨g1, g2⟩
   have HQk : Hid _ := (HQ.out k hlt).2
   clear HC HQ
   generalize js.getD k zeroJ = z at *
   generalize ks.getD k zeroJ = y at *
   have hh := HS.out wr hbl
   simp only [JobA.cell] at h1 h2 HS HQk hh
   clear h1 h2
   go_wp2_with fail
   go_region_held3 (fun w1 => w1.cell? ⟨b1, o1 + k, none⟩ = some (.slice z.a z.ops.length z.c) ∧ w1.cell? ⟨b2, o2 + k, none⟩ = some (.slice y.a y.ops.length y.c))
    (first | exact HS.out _ hw2 | go_keep | fail)
    ((first | (go_at_call 24; refine (HQk.out _ (hbl.drew)).mono ?_; rintro e w2 ⟨rfl, hb2⟩; have hw2 : Below w.heap.size w w2 := (hbl.drew).trans (hb2.mono hbl.size)) | fail))
   all_goals
    go_wp2_with fail
    go_roundw
    case rel => exact ⟨k + 1, by omega, by go_num, hw2⟩
    case measure => simp [intOf]; omega
  ·go_wp2
   go_ret
   exact ⟨rfl, hbl⟩
section
open Go.ChangeShapes Go.WideShapes Go.ChangeAt
variable {H : Type} {enc : TypeId × Value → H} {w : World} {base : Nat} {spare : Nat → Bool} {held : Bool}
theorem Try.cellsOp : Try.prog.cellsOf 75 = 3 := by kernel_rfl
theorem Try.cellsOps : Try.prog.cellsOf 57 = 1 := by kernel_rfl
theorem Try.cellsIq : Try.prog.cellsOf 3 = 1 := by kernel_rfl
theorem some_atQ {α : Type} (xs : List α) (i : Nat) (h : i < xs.length) : ∃ y, xs[i]? = some y := ⟨_, List.getElem?_eq_getElem h⟩
theorem trod_numQ {fuel : Nat} {cs : List Value} {x : DataW H × List MemPlace} (h : DataW.trod enc Try.prog w base spare held fuel 3 cs = some x) : ∃ n : Int, cs = [.int .i64 n] := by
 obtain ⟨n, rfl, _, hw⟩ := DataW.trod_int Try.underlying3 h
 exact ⟨n, rfl⟩
theorem trod_op {fuel : Nat} {cs : List Value} {x : DataW H × List MemPlace} (h : DataW.trod enc Try.prog w base spare held fuel 75 cs = some x) : ∃ t : OpV, cs = t.cells := by
 obtain ⟨xs, n, _, _, hlen, hxl, hf⟩ := DataW.trod_struct Try.underlying75 h
 rw [Try.cellsOp] at hlen
 match cs, hlen with
 | [v0, v1, v2], _ =>
  have f0 := hf 0 _ rfl
  have f1 := hf 1 _ rfl
  have f2 := hf 2 _ rfl
  obtain ⟨y0, hx0⟩ := some_atQ xs 0 (by rw [hxl]; decide)
  obtain ⟨y1, hx1⟩ := some_atQ xs 1 (by rw [hxl]; decide)
  obtain ⟨y2, hx2⟩ := some_atQ xs 2 (by rw [hxl]; decide)
  rw [hx0] at f0
  rw [hx1] at f1
  rw [hx2] at f2
  simp only [List.getElem_toArray, List.getElem_cons_zero, List.getElem_cons_succ, Try.cellsIq, List.drop, List.take] at f0 f1 f2
  obtain ⟨a, e0⟩ := trod_numQ f0
  obtain ⟨b, e1⟩ := trod_numQ f1
  obtain ⟨c, e2⟩ := trod_numQ f2
  simp only [List.cons.injEq, and_true] at e0 e1 e2
  subst e0 e1 e2
  exact ⟨⟨a, b, c⟩, rfl⟩
theorem trod_ops {fuel : Nat} {cs : List Value} {x : DataW H × List MemPlace} (h : DataW.trod enc Try.prog w base spare held fuel 57 cs = some x) :
  ∃ (a : Option Addr) (c : Nat) (ls : List OpV), cs = [.slice a ls.length c] ∧ ReadsQ w a ls ∧ ls.length ≤ maxLen := by
 rcases DataW.trod_slice Try.underlying57 h with ⟨rfl, _⟩ | ⟨a, len, cap, elems, rest, n, _, rfl, _, _, hl, hm, hlen, hel, _, _⟩
 ·exact ⟨none, 0, [], rfl, ReadsQ.nil _ _, by simp⟩
 rw [Try.cellsOp] at hel
 have each : ∀ i, i < len → ∃ t : OpV, w.cells? base (a.add (i * 3)) 3 = some t.cells := by
  intro i hi
  have hy := hel i hi
  rw [List.getElem?_eq_getElem (by omega : i < elems.length), Option.bind_eq_some_iff] at hy
  obtain ⟨cs', hcs, hy'⟩ := hy
  obtain ⟨t, e⟩ := trod_op hy'
  exact ⟨t, by rw [hcs, e]⟩
 obtain ⟨f, hf⟩ : ∃ f : Nat → OpV, ∀ i, i < len → w.cells? base (a.add (i * 3)) 3 = some (f i).cells := by
  refine ⟨fun i => if h : i < len then (each i h).choose else zeroQ, fun i hi => ?_⟩
  simp only [dif_pos hi]
  exact (each i hi).choose_spec
 refine ⟨some a, cap, (List.range len).map f, by simp, ?_, by simp; omega⟩
 intro hne
 have hpos := List.length_pos_iff.2 hne
 simp only [List.length_map, List.length_range] at hpos ⊢
 obtain ⟨b, off, spot⟩ := a
 have c0 := (World.cells?_some (hf 0 hpos)).2.2 0 (by decide)
 have hspot : spot = none := by simpa [Addr.add] using World.cell?_spot c0
 subst hspot
 refine ⟨b, off, rfl, fun k hk => ?_⟩
 have e : ((List.range len).map f).getD k zeroQ = f k := by simp [List.getD, hk]
 rw [e]
 have hc := (World.cells?_some (hf k hk)).2.2
 have d0 := hc 0 (by decide)
 have d1 := hc 1 (by decide)
 have d2 := hc 2 (by decide)
 simp only [Addr_add, OpV.cells] at d0 d1 d2
 exact ⟨by simpa using d0, by simpa using d1, by simpa using d2⟩
theorem trod_jobs {fuel : Nat} {cs : List Value} {x : DataW H × List MemPlace} (h : DataW.trod enc Try.prog w base spare held fuel 22 cs = some x) :
  ∃ (a : Option Addr) (c : Nat) (js : List JobA), cs = [.slice a js.length c] ∧ ReadsJ w a js ∧ JobsShort js maxLen := by
 rcases DataW.trod_slice Try.underlying22 h with ⟨rfl, _⟩ | ⟨a, len, cap, elems, rest, n, _, rfl, _, _, hl, hm, hlen, hel, _, _⟩
 ·exact ⟨none, 0, [], rfl, ReadsJ.nil _ _, ⟨by simp, by simp⟩⟩
 rw [Try.cellsOps] at hel
 have each : ∀ i, i < len → ∃ t : JobA, w.cells? base (a.add (i * 1)) 1 = some [t.cell] ∧ ReadsQ w t.a t.ops ∧ t.ops.length ≤ maxLen := by
  intro i hi
  have hy := hel i hi
  rw [List.getElem?_eq_getElem (by omega : i < elems.length), Option.bind_eq_some_iff] at hy
  obtain ⟨cs', hcs, hy'⟩ := hy
  obtain ⟨a', c', ls, e, h1, h2⟩ := trod_ops hy'
  exact ⟨⟨ls, a', c'⟩, by rw [hcs, e]; rfl, h1, h2⟩
 obtain ⟨f, hf⟩ : ∃ f : Nat → JobA, ∀ i, i < len → w.cells? base (a.add (i * 1)) 1 = some [(f i).cell] ∧ ReadsQ w (f i).a (f i).ops ∧ (f i).ops.length ≤ maxLen := by
  refine ⟨fun i => if h : i < len then (each i h).choose else zeroJ, fun i hi => ?_⟩
  simp only [dif_pos hi]
  exact (each i hi).choose_spec
 refine ⟨some a, cap, (List.range len).map f, by simp, ?_, ⟨by simp; omega, fun j hj => ?_⟩⟩
 ·intro hne
  have hpos := List.length_pos_iff.2 hne
  simp only [List.length_map, List.length_range] at hpos ⊢
  obtain ⟨b, off, spot⟩ := a
  have c0 := (World.cells?_some (hf 0 hpos).1).2.2 0 (by decide)
  have hspot : spot = none := by simpa [Addr.add] using World.cell?_spot c0
  subst hspot
  refine ⟨b, off, rfl, fun k hk => ?_⟩
  have e : ((List.range len).map f).getD k zeroJ = f k := by simp [List.getD, hk]
  rw [e]
  have hc := (World.cells?_some (hf k hk).1).2.2
  have d0 := hc 0 (by decide)
  simp only [Addr_add] at d0
  exact ⟨by simpa using d0, (hf k hk).2.1⟩
 ·obtain ⟨k, hk, rfl⟩ := List.mem_map.1 hj
  exact (hf k (List.mem_range.1 hk)).2.2
theorem open_jobs {b0 : Nat} {v : Value} {d : DataW H} {ps : List MemPlace} (hval : Value.okWide Try.prog w .any b0 22 v) (h : DataW.Trod enc Try.prog w base spare held 22 v d ps) :
  ∃ (a : Option Addr) (c : Nat) (js : List JobA), v = .slice a js.length c ∧ ReadsJ w a js ∧ JobsShort js maxLen := by
 obtain ⟨a, len, cap, hv⟩ := okWide_slice (e := 57) Try.underlying22 hval
 subst hv
 obtain ⟨fuel, hf⟩ := h
 have e : (Value.slice a len cap).cells.toList = [Value.slice a len cap] := rfl
 rw [e] at hf
 obtain ⟨a', c', js, hc, rest⟩ := trod_jobs hf
 simp only [List.cons.injEq, and_true] at hc
 exact ⟨a', c', js, hc, rest⟩
end
end Go.Proofs.Ytgnkplbefclpgaa
namespace Go.Proofs.Ytgnkplbefclpgaa
open Go.RowKit
def countJ (js : List JobA) : Nat := (js.map (fun j => 3 * j.ops.length)).sum
def markJ (j : JobA) (k : Int) : JobA := ⟨marksQ k j.ops.length, j.a, j.c⟩
def markJs : List JobA → Int → List JobA
 | [], _ => []
 | j :: r, k => markJ j k :: markJs r (k + 3 * (j.ops.length : Int))
theorem countJ_cons (j : JobA) (r : List JobA) : countJ (j :: r) = 3 * j.ops.length + countJ r := by simp [countJ]
theorem countJ_app (a b : List JobA) : countJ (a ++ b) = countJ a + countJ b := by simp [countJ]
theorem markJs_len (js : List JobA) (k : Int) : (markJs js k).length = js.length := by
 induction js generalizing k with
 | nil => rfl
 | cons j r ih => simp [markJs, ih]
theorem markJ_cell (j : JobA) (k : Int) : (markJ j k).cell = j.cell := by simp [markJ, JobA.cell, marksQ_len]
theorem markJs_app (a b : List JobA) (k : Int) : markJs (a ++ b) k = markJs a k ++ markJs b (k + (countJ a : Int)) := by
 induction a generalizing k with
 | nil => simp [markJs, countJ]
 | cons j r ih =>
  simp only [List.cons_append, markJs, ih, countJ_cons]
  rw [show k + 3 * (j.ops.length : Int) + (countJ r : Int) = k + ((3 * j.ops.length + countJ r : Nat) : Int) by omega]
theorem blocksJ_mark (js : List JobA) (k : Int) : (markJs js k).flatMap JobA.blocks = js.flatMap JobA.blocks := by
 induction js generalizing k with
 | nil => rfl
 | cons j r ih => simp only [markJs, List.flatMap_cons, ih, JobA.blocks, markJ_cell]
def halfJs (js : List JobA) (k : Int) (j : Nat) : List JobA := markJs (js.take j) k ++ js.drop j
theorem halfJs_at (js : List JobA) (k : Int) (j : Nat) (h : j < js.length) : halfJs js k j = markJs (js.take j) k ++ js.getD j zeroJ :: js.drop (j + 1) := by
 unfold halfJs
 have e : js.getD j zeroJ = js[j] := by simp [List.getD, h]
 rw [e, List.drop_eq_getElem_cons h]
theorem countJ_succ (js : List JobA) (j : Nat) (h : j < js.length) : countJ (js.take (j + 1)) = countJ (js.take j) + 3 * (js.getD j zeroJ).ops.length := by
 have e : js.getD j zeroJ = js[j] := by simp [List.getD, h]
 rw [e, List.take_succ_eq_append_getElem h, countJ_app]
 simp [countJ]
theorem halfJs_next (js : List JobA) (k : Int) (j : Nat) (h : j < js.length) : halfJs js k (j + 1) = markJs (js.take j) k ++ markJ (js.getD j zeroJ) (k + (countJ (js.take j) : Int)) :: js.drop (j + 1) := by
 unfold halfJs
 have e : js.getD j zeroJ = js[j] := by simp [List.getD, h]
 rw [List.take_succ_eq_append_getElem h, markJs_app, ← e]
 simp [markJs]
theorem countJ_le (js : List JobA) (j : Nat) : countJ (js.take j) ≤ countJ js := by
 conv => rhs; rw [← List.take_append_drop j js, countJ_app]
 omega
theorem OwnJ.swap {w w' : World} {lo hi : Nat} {a : Option Addr} {c : Nat} {A B : List JobA} {z : JobA} (h : OwnJ w lo hi a c (A ++ z :: B)) (zs : List OpV) (hz : zs.length = z.ops.length) (ht : Touch z.blocks w w') (ho : OwnQ w' lo hi z.a z.c zs) : OwnJ w' lo hi a c (A ++ ⟨zs, z.a, z.c⟩ :: B) := by
 have hcell : (⟨zs, z.a, z.c⟩ : JobA).cell = z.cell := by simp [JobA.cell, hz]
 have hbl : (⟨zs, z.a, z.c⟩ : JobA).blocks = z.blocks := by simp [JobA.blocks, hcell]
 have hap := h.apart
 simp only [List.flatMap_append, List.flatMap_cons, List.nodup_append, List.mem_append] at hap
 obtain ⟨a1, ⟨a2, ⟨a3, a4, a5⟩, a6⟩, a7⟩ := hap
 refine ⟨?_, Nat.le_trans h.top ht.size, fun k hk => h.blk k (by simpa using hk), fun r hr => ?_, ?_⟩
 ·have h1 := ownsRow_block h.row (w' := w') (fun k hk => ht.block k (h.row.lt k hk).2 (fun hm => a7 k (Option.mem_toList.2 hk) k (.inr (.inl hm)) rfl))
  simpa only [cellsJ_app, cellsJ_cons, hcell, List.length_append, List.length_cons] using h1
 ·rcases List.mem_append.1 hr with hr | hr
  ·exact (h.each r (by simp [hr])).touch ht (fun k hk hm => a6 k (List.mem_flatMap.2 ⟨r, hr, Option.mem_toList.2 hk⟩) k (.inl hm) rfl)
  ·rcases List.mem_cons.1 hr with rfl | hr
   ·exact ho
   ·exact (h.each r (by simp [hr])).touch ht (fun k hk hm => a5 k hm k (List.mem_flatMap.2 ⟨r, hr, Option.mem_toList.2 hk⟩) rfl)
 ·have := h.apart
  simpa only [List.flatMap_append, List.flatMap_cons, hbl, List.length_append, List.length_cons] using this
theorem markOpSS_touch (lo hi : Nat) (a : Option Addr) (cap : Nat) (k0 : Int) (js : List JobA) (w : World) (ho : OwnJ w lo hi a cap js) (h0 : 0 ≤ k0) (hk : k0 + (countJ js : Int) ≤ 1152921504606846976) :
  Calls Try.prog 10 #[.slice a js.length cap, .int .i64 k0] w fun e w' => e = .returned (.int .i64 (k0 + (countJ js : Int))) ∧ OwnJ w' lo hi a cap (markJs js k0) ∧ Touch (blocksJ a cap js) w w' := by
 rcases ho.row.2 with ⟨hv, h00⟩ | ⟨g, cap', cur, hv, hg, hgg, hr⟩
 ·simp only [Value.slice.injEq] at hv
  obtain ⟨rfl, _, rfl⟩ := hv
  obtain rfl := List.length_eq_zero_iff.1 h00
  go_enter Try.func10, Try.ntmps10
  go_wp2
  refine wp_loop_rounds 1 ?_
  rw [rounds_succ]
  go_wp2
  go_ret
  exact ⟨by simp [countJ], ho, Touch.refl _ _⟩
 ·simp only [Value.slice.injEq] at hv
  obtain ⟨rfl, _, rfl⟩ := hv
  have hlm : js.length ≤ maxLen := Nat.le_trans hr.1 hr.2.1
  simp only [maxLen] at hlm
  clear hgg hr
  have HH : Hid (halfJs js k0 0 = js ∧ halfJs js k0 js.length = markJs js k0) := ⟨by simp [halfJs, markJs], by simp [halfJs]⟩
  have HST : Hid (OwnJ w lo hi (some ⟨g, 0, none⟩) cap (halfJs js k0 0)) := by rw [HH.out.1]; exact ho
  have HSUB : Hid (∀ j, j < js.length → ∀ k ∈ (js.getD j zeroJ).blocks, k ∈ blocksJ (some ⟨g, 0, none⟩) cap js) := fun j hj k hk => List.mem_append.2 (.inr (List.mem_flatMap.2 ⟨_, jobD_mem js j hj, hk⟩))
  have HC0 : Hid (k0 + ((countJ (js.take 0) : Nat) : Int) = k0) := by simp [Hid, countJ]
  clear ho
  go_enter Try.func10, Try.ntmps10
  go_wp2
  go_loopw [1, 5] (fun kk i wr => ∃ j : Nat, j ≤ js.length ∧ i = .int .i64 j ∧ kk = .int .i64 (k0 + ((countJ (js.take j) : Nat) : Int)) ∧ Hid (OwnJ wr lo hi (some ⟨g, 0, none⟩) cap (halfJs js k0 j)) ∧ Touch (blocksJ (some ⟨g, 0, none⟩) cap js) w wr)
   (fun _ i _ => js.length - (RowKit.intOf i).toNat)
  case atStart => exact ⟨0, Nat.zero_le _, rfl, by rw [HC0.out], HST, Touch.refl _ _⟩
  case round =>
   obtain ⟨j, hj, rfl, rfl, hown, htw⟩ := hrel
   clear HST HC0
   by_cases hlt : j < js.length
   ·have ho := hown.out
    rw [halfJs_at js k0 j hlt] at ho
    have HN : Hid (halfJs js k0 (j + 1) = _) := halfJs_next js k0 j hlt
    have hA : (markJs (js.take j) k0).length = j := by rw [markJs_len, List.length_take]; omega
    have hle := countJ_le js (j + 1)
    have hcs := countJ_succ js j hlt
    have hll : (markJs (js.take j) k0 ++ js.getD j zeroJ :: js.drop (j + 1)).length = js.length := by
     simp only [List.length_append, hA, List.length_cons, List.length_drop]; omega
    have hrow := ho.row
    have x0 : wr.cell? ⟨g, j, none⟩ = some (js.getD j zeroJ).cell := by
     rw [hrow.cellAt j (by omega), cellsJ_at _ _ (by omega)]
     simp [List.getD, hA]
    have C := markOpS_own lo hi (js.getD j zeroJ).a (js.getD j zeroJ).c (k0 + ((countJ (js.take j) : Nat) : Int)) (js.getD j zeroJ).ops wr (ho.each _ (by simp)) (by omega) (by omega)
    have HKN : Hid (k0 + ((countJ (js.take (j + 1)) : Nat) : Int) = k0 + ((countJ (js.take j) : Nat) : Int) + 3 * ((js.getD j zeroJ).ops.length : Int)) := by rw [Hid, hcs]; omega
    have HO : Hid (OwnJ wr lo hi (some ⟨g, 0, none⟩) cap (markJs (js.take j) k0 ++ js.getD j zeroJ :: js.drop (j + 1))) := ho
    have HB := HSUB.out j hlt
    have HBB : Hid (∀ k ∈ (js.getD j zeroJ).blocks, k ∈ blocksJ (some ⟨g, 0, none⟩) cap js) := HB
    clear ho hown hrow hll hcs hle HB HH
    unfold JobA.cell at x0
    have HZ : Hid (∀ zs : List OpV, (⟨zs, (js.getD j zeroJ).a, (js.getD j zeroJ).c⟩ : JobA) = ⟨zs, (js.getD j zeroJ).a, (js.getD j zeroJ).c⟩) := fun _ => rfl
    obtain ⟨z, hz⟩ : ∃ z, Hid (js.getD j zeroJ = z) := ⟨_, rfl⟩
    rw [hz.out] at x0 C HKN HO HN HBB
    generalize k0 + ((countJ (js.take j) : Nat) : Int) = kk at *
    go_wp2_with fail
    refine C.mono ?_
    rintro e w1 ⟨rfl, oq, tq⟩
    have o1 := HO.out.swap (marksQ kk z.ops.length) (marksQ_len _ _) tq oq
    have HFIN : Hid (OwnJ w1 lo hi (some ⟨g, 0, none⟩) cap (halfJs js k0 (j + 1)) ∧ Touch (blocksJ (some ⟨g, 0, none⟩) cap js) w w1) := ⟨by rw [HN.out]; exact o1, htw.trans (tq.mono HBB.out)⟩
    clear o1 oq tq htw C x0 HO HN
    go_wp2_with fail
    go_roundw
    case rel => exact ⟨j + 1, by omega, by go_num, by rw [HKN.out], HFIN.out.1, HFIN.out.2⟩
    case measure => simp [RowKit.intOf]; omega
   ·have HE : Hid (OwnJ wr lo hi (some ⟨g, 0, none⟩) cap (markJs js k0) ∧ k0 + ((countJ (js.take j) : Nat) : Int) = k0 + (countJ js : Int)) := by
     have e : j = js.length := by omega
     rw [e, HH.out.2] at hown
     exact ⟨hown.out, by rw [e, List.take_length]⟩
    go_wp2
    go_ret
    exact ⟨ret_int HE.out.2, HE.out.1, htw⟩
theorem markJs_at (js : List JobA) (k : Int) (j : Nat) (h : j < js.length) : (markJs js k).getD j zeroJ = markJ (js.getD j zeroJ) (k + (countJ (js.take j) : Int)) := by
 have e := markJs_app (js.take j) (js.drop j) k
 rw [List.take_append_drop] at e
 have hl : (markJs (js.take j) k).length = j := by rw [markJs_len, List.length_take]; omega
 have hd : js.getD j zeroJ = js[j] := by simp [List.getD, h]
 rw [e, hd, List.drop_eq_getElem_cons h, markJs]
 simp [List.getD, hl]
theorem heldOpSS_any (a : Option Addr) (cap : Nat) (k0 : Int) (js : List JobA) (w : World) (hr : ReadsJ w a (markJs js k0)) (h0 : 0 ≤ k0) (hlm : js.length ≤ 1099511627776) (hk : k0 + (countJ js : Int) ≤ 1152921504606846976) :
  Calls Try.prog 31 #[.slice a js.length cap, .int .i64 k0] w fun e w' => e = .returned (.int .i64 (k0 + (countJ js : Int))) ∧ w' = w := by
 rcases hr.cases with h | ⟨b, off, rfl, hpos, hcell⟩
 ·have h' := congrArg List.length h
  rw [markJs_len] at h'
  simp at h'
  subst h'
  go_enter Try.func31, Try.ntmps31
  go_wp2
  refine wp_loop_rounds 1 ?_
  rw [rounds_succ]
  go_wp2
  go_ret
  exact ⟨by simp [countJ], rfl⟩
 ·rw [markJs_len] at hpos hcell
  have HC : Hid (∀ k, k < js.length → _) := hcell
  have HC0 : Hid (k0 + ((countJ (js.take 0) : Nat) : Int) = k0) := by simp [Hid, countJ]
  clear hcell hr
  go_enter Try.func31, Try.ntmps31
  go_wp2
  go_loopw [1, 5] (fun kk i wr => ∃ j : Nat, j ≤ js.length ∧ i = .int .i64 j ∧ kk = .int .i64 (k0 + ((countJ (js.take j) : Nat) : Int)) ∧ wr = w)
   (fun _ i _ => js.length - (RowKit.intOf i).toNat)
  case atStart => exact ⟨0, Nat.zero_le _, rfl, by rw [HC0.out], rfl⟩
  case round =>
   obtain ⟨j, hj, rfl, rfl, rfl⟩ := hrel
   by_cases hlt : j < js.length
   ·obtain ⟨x0, hq⟩ := HC.out j hlt
    rw [markJs_at js k0 j hlt] at x0 hq
    have hle := countJ_le js (j + 1)
    have hcs := countJ_succ js j hlt
    rw [markJ_cell] at x0
    unfold JobA.cell at x0
    simp only [markJ] at hq
    have C := heldOpS_any (js.getD j zeroJ).a (js.getD j zeroJ).c (k0 + ((countJ (js.take j) : Nat) : Int)) (js.getD j zeroJ).ops.length _ hq (by omega) (by omega)
    have HKN : Hid (k0 + ((countJ (js.take (j + 1)) : Nat) : Int) = k0 + ((countJ (js.take j) : Nat) : Int) + 3 * ((js.getD j zeroJ).ops.length : Int)) := by rw [Hid, hcs]; omega
    have hkn : ¬ k0 + ((countJ (js.take j) : Nat) : Int) + 3 * ((js.getD j zeroJ).ops.length : Int) < 0 := by omega
    clear hle hcs hq
    generalize js.getD j zeroJ = z at *
    generalize k0 + ((countJ (js.take j) : Nat) : Int) = kk at *
    go_wp2_with fail
    refine C.mono ?_
    rintro e w1 ⟨rfl, rfl⟩
    clear C x0
    go_wp2_with fail
    go_roundw
    case rel => exact ⟨j + 1, by omega, by go_num, by rw [HKN.out], by first | rfl | trivial⟩
    case measure => simp [RowKit.intOf]; omega
   ·have HE : Hid (k0 + ((countJ (js.take j) : Nat) : Int) = k0 + (countJ js : Int)) := by
     have e : j = js.length := by omega
     rw [e, List.take_length]; rfl
    go_wp2
    go_ret
    exact ⟨ret_int HE.out, by first | rfl | trivial⟩
theorem ownsRowJ_at {w : World} {base : Nat} {e : TypeId} {size n : Nat} {v : Value} {xs : List Value} (h : w.ownsRow base e size v n xs) {k : Nat} (hk : v.ownBlock = some k) : ∃ cur, w.heap[k]? = some (.cells cur e (0, 0)) := by
 rcases h.2 with ⟨rfl, _⟩ | ⟨g, cap, cur, rfl, _, hg, _⟩
 ·cases hk
 ·cases hk
  exact ⟨cur, hg⟩
theorem rowJ_apart {w : World} {base lo hi n : Nat} {v : Value} {xs : List Value} {j : JobA} (h : w.ownsRow base 61 1 v n xs) (hj : OwnQ w lo hi j.a j.c j.ops) : ∀ k, v.ownBlock = some k → k ∉ j.blocks := by
 intro k hk hm
 obtain ⟨cur, hc⟩ := ownsRowJ_at h hk
 obtain ⟨cur2, hc2⟩ := ownsRowJ_at hj.1 (Option.mem_toList.1 hm)
 rw [hc] at hc2
 simp only [Option.some.injEq, Obj.cells.injEq] at hc2
 have := hc2.2.1
 cases this
theorem append_job {w : World} {ops : Array Oper} {rest : List Oper} {o : Oper} {act : Act} {Q : Exit → Act → World → Prop} (hgd : o.guard = none) (s x : Operand)
  (ho : o.op = .call { callee := .builtin .append, args := #[s, x], argTypes := #[46, 46] })
  (lo hi : Nat) (a : Option Addr) (c : Nat) (js : List JobA) (hs : act.eval s = .slice a js.length c) (hown : OwnJ w lo hi a c js)
  (b off : Nat) (sc : Nat) (q : JobA) (hx : act.eval x = .slice (some ⟨b, off, none⟩) 1 sc) (hr : w.cell? ⟨b, off, none⟩ = some q.cell) (l u : Nat) (hq : OwnQ w l u q.a q.c q.ops) (hl : hi ≤ l) (hu : u ≤ w.heap.size)
  (hb : js.length + 1 ≤ 68719476736) (hlo : lo ≤ hi)
  (h : ∀ a' c' w', OwnJ w' lo w'.heap.size a' c' (js ++ [q]) → w.grownBy w' (Value.slice a js.length c).ownBlock → wpList Try.prog ops Q rest (act.put o.dst (.slice a' (js ++ [q]).length c')) w') :
  wpList Try.prog ops Q (o :: rest) act w := by
 obtain ⟨i0, hi0, hz0, hz1, hz2⟩ := info_parts Try.infoOps
 have hqb := jobBlocks_lt (j := q) hq
 have htop := hown.top
 refine wpList_append_own w hgd s x 46 ho lo 61 i0 (.slice none 0 0) 1 24 Try.underlying46 hi0 hz0 hz1 hz2 rfl (by decide) _ _ _ hs hown.row ⟨b, off, none⟩ 1 sc [q.cell] hx (by rfl) ?_ (by simp [JobA.cell, Value.oneCell']) (by simp only [maxLen]; omega) (by omega) (by omega) (fun v' w' h1 h2 _ => ?_)
 ·intro j v hj
  rw [Addr_add]
  cases j with
  | zero => simp at hj; rw [← hj]; exact hr
  | succ j => simp at hj
 ·have e : cellsJ js ++ [q.cell] = cellsJ (js ++ [q]) := by rw [cellsJ_app]; rfl
  have e2 : js.length + 1 = (js ++ [q]).length := by simp
  rw [e, e2] at h1
  have sh : ∃ a' c', v' = .slice a' (js ++ [q]).length c' := by
   rcases h1.2 with ⟨rfl, h0⟩ | ⟨g, cap, cur, rfl, _⟩
   ·simp at h0
   ·exact ⟨_, _, rfl⟩
  obtain ⟨a', c', rfl⟩ := sh
  have hsz := h2.size
  have ht : Touch (Value.slice a js.length c).ownBlock.toList w w' := Touch.of_grown h2 (fun k hk => Option.mem_toList.2 hk)
  have hrow := h1.lt
  have hold : ∀ r ∈ js, OwnQ w' lo w'.heap.size r.a r.c r.ops := fun r hr => ((hown.each r hr).touch ht (fun k hk hk' => (List.nodup_append.1 hown.apart).2.2 k hk' k (List.mem_flatMap.2 ⟨r, hr, Option.mem_toList.2 hk⟩) rfl)).widen (Nat.le_refl _) (by omega) (Nat.le_refl _)
  have hnew : OwnQ w' lo w'.heap.size q.a q.c q.ops := (hq.touch ht (fun k hk hk' => by have := hq.lt k hk; have := hown.blk k (Option.mem_toList.1 hk'); omega)).widen (by omega) (by omega) (Nat.le_refl _)
  refine h a' c' w' ⟨h1, Nat.le_refl _, fun k hk => (hrow k hk).2, fun r hr => ?_, ?_⟩ h2
  ·rcases List.mem_append.1 hr with hr | hr
   ·exact hold r hr
   ·obtain rfl := List.mem_singleton.1 hr
    exact hnew
  ·rw [List.flatMap_append, List.nodup_append, List.nodup_append]
   have hap := (List.nodup_append.1 hown.apart).2.1
   have hqn : q.blocks.Nodup := by
    unfold JobA.blocks
    cases q.cell.ownBlock <;> simp
   have hin : ∀ x ∈ js.flatMap JobA.blocks, lo ≤ x ∧ x < hi := fun x hx => by
    obtain ⟨r, hr, hx⟩ := List.mem_flatMap.1 hx
    exact jobBlocks_lt (hown.each r hr) x hx
   refine ⟨by cases (Value.slice a' (js ++ [q]).length c').ownBlock <;> simp, ⟨hap, by simpa using hqn, fun x hx y hy e => ?_⟩, fun x hx y hy e => ?_⟩
   ·have := hin x hx
    simp only [List.flatMap_cons, List.flatMap_nil, List.append_nil] at hy
    have := hqb y hy
    omega
   ·have hx' := Option.mem_toList.1 hx
    subst e
    rcases List.mem_append.1 hy with hy | hy
    ·obtain ⟨r, hr, hy⟩ := List.mem_flatMap.1 hy
     exact rowJ_apart h1 (hold r hr) x hx' hy
    ·simp only [List.flatMap_cons, List.flatMap_nil, List.append_nil] at hy
     exact rowJ_apart h1 hnew x hx' hy
theorem copyJobs_any (a : Option Addr) (cap : Nat) (js : List JobA) (w : World) (hr : ReadsJ w a js) (hl : js.length ≤ 1048576) (hs : ∀ j ∈ js, j.ops.length ≤ 1048576) (hcp : ∀ j ∈ js, j.a = none → j.c = 0) :
  Calls Try.prog 20 #[.slice a js.length cap] w fun e w' => ∃ a' c' ks, e = .returned (.slice a' ks.length c') ∧ Hid (opsJ ks = opsJ js) ∧ OwnJ w' w.heap.size w'.heap.size a' c' ks ∧ Below w.heap.size w w' := by
 have HCELL : Hid (∀ k, k < js.length → ∃ b off, a = some ⟨b, off, none⟩ ∧ b < w.heap.size ∧ w.cell? ⟨b, off + k, none⟩ = some (js.getD k zeroJ).cell ∧ ReadsQ w (js.getD k zeroJ).a (js.getD k zeroJ).ops) := fun k hk => by
  obtain ⟨b, off, ha, hc⟩ := hr (by intro e; rw [e] at hk; simp at hk)
  exact ⟨b, off, ha, block_lt (hc k hk).1, (hc k hk).1, (hc k hk).2⟩
 have HO0 : Hid (OwnJ w w.heap.size w.heap.size none 0 []) := ownJ_nil _ _ _ (Nat.le_refl _)
 have HB0 : Hid (Below w.heap.size w w) := Below.refl _ _
 clear hr
 go_enter Try.func20, Try.ntmps20
 go_wp2
 go_loopw [3, 8] (fun out i wr => ∃ (k : Nat) (a' : Option Addr) (c' : Nat) (ks : List JobA), k ≤ js.length ∧ i = .int .i64 k ∧ out = .slice a' ks.length c' ∧ Hid (opsJ ks = (opsJ js).take k) ∧ Hid (OwnJ wr w.heap.size wr.heap.size a' c' ks) ∧ Below w.heap.size w wr)
  (fun _ i _ => js.length - (RowKit.intOf i).toNat)
 case atStart => exact ⟨0, none, 0, [], Nat.zero_le _, rfl, rfl, rfl, HO0, HB0.out⟩
 case round =>
  obtain ⟨k, a', c', ks, hk, rfl, rfl, hm, ho, hnx⟩ := hrel
  clear HO0 HB0
  have hkl : ks.length = k := by
   have := congrArg List.length hm.out
   rw [opsJ_len, List.length_take, opsJ_len] at this
   omega
  by_cases hlt : k < js.length
  ·obtain ⟨b, off, rfl, hbB, c0, c1⟩ := HCELL.out k hlt
   have x0 : wr.cell? ⟨b, off + k, none⟩ = some (js.getD k zeroJ).cell := (hnx.cell hbB).trans c0
   have hzr := c1.below hnx
   have hzl := hs _ (jobD_mem js k hlt)
   have hznc := hcp _ (jobD_mem js k hlt)
   have hzl2 : ([] : List OpV).length + (js.getD k zeroJ).ops.length ≤ 1099511627776 := by rw [List.length_nil, Nat.zero_add]; exact Nat.le_trans hzl (by decide)
   have HS : Hid (∀ zs a1 c1, zs = (js.getD k zeroJ).ops → opsJ (ks ++ [(⟨zs, a1, c1⟩ : JobA)]) = (opsJ js).take (k + 1)) := fun zs a1 c1 hz => opsJ_snoc ks js ⟨zs, a1, c1⟩ k hlt hm.out hz
   have HK : Hid (∀ u, Below wr.heap.size wr u → OwnJ u w.heap.size wr.heap.size a' c' ks) := fun u hu => ho.out.below hu
   have HKL : Hid (ks.length = k) := hkl
   have hn1 : ks.length + 1 ≤ 68719476736 := by omega
   have HNX : Hid (Below w.heap.size w wr) := hnx
   have hnz := hnx.size
   unfold JobA.cell at x0
   clear c0 c1 hs hcp hm ho hkl hzl HCELL hnx
   generalize js.getD k zeroJ = z at *
   go_wp2_with (first
    | (guard_target = wpList _ _ _ (Oper.mk (some 14) _ _ _ _ _ :: _) _ _; refine append_ops rfl (.const (.slice none 0 0)) (.tmp 13) rfl wr.heap.size wr.heap.size none 0 [] rfl (ownQ_nil _ _ _ (Nat.le_refl _)) z.a z.c z.ops rfl hzr hznc hzl2 (Nat.le_refl _) ?_; intro a1 c1 ys w1 hys oq1 hg1; have B1 : Below wr.heap.size wr w1 := (Below.refl _ _).grown hg1 (Nat.le_refl _) (fun k h => by cases h); clear hg1 hzr hznc; have hz1 := B1.size)
    | (guard_target = wpList _ _ _ (Oper.mk (some 16) _ _ _ _ _ :: _) _ _; refine append_job rfl (.tmp 12) (.tmp 15) rfl w.heap.size wr.heap.size a' c' ks rfl (HK.out _ (B1.alloc hz1 _)) w1.heap.size 0 1 ⟨ys, a1, c1⟩ rfl ((box_new w1 [.slice a1 ys.length c1] _).cell 0 _ rfl) wr.heap.size w1.heap.size (oq1.below ((Below.refl _ _).alloc (Nat.le_refl _) _)) (Nat.le_refl _) (by simp) hn1 hnz ?_; intro a2 c2 w2 ho2 hg2; obtain ⟨ks2, hk2⟩ : ∃ ks2, Hid (ks ++ [(⟨ys, a1, c1⟩ : JobA)] = ks2) := ⟨_, rfl⟩; rw [hk2.out] at ho2 ⊢)
    | fail)
   have HN2 : Hid (Below w.heap.size w w2) := (HNX.out.trans ((B1.alloc hz1 _).mono HNX.out.size)).grown hg2 (by have := (B1.alloc hz1 (.cells #[.slice a1 ys.length c1] 61)).size; have := HNX.out.size; omega) (fun i hi => ((HK.out _ (Below.refl _ _)).row.lt i hi).1)
   have HM2 : Hid (opsJ ks2 = (opsJ js).take (k + 1)) := by rw [Hid, ← hk2.out]; exact HS.out ys a1 c1 (by rw [hys.out]; rfl)
   have HO2 : Hid (OwnJ w2 w.heap.size w2.heap.size a2 c2 ks2) := ho2
   clear hg2 ho2 HK HS hys oq1 hk2 HNX B1
   go_wp2
   go_roundw
   case rel => exact ⟨k + 1, a2, c2, ks2, by omega, by go_num, rfl, HM2, HO2, HN2.out⟩
   case measure => simp [RowKit.intOf]; omega
  ·have HE : Hid (opsJ ks = opsJ js ∧ OwnJ wr w.heap.size wr.heap.size a' c' ks) := by
    have e : k = js.length := by omega
    refine ⟨?_, ho.out⟩
    have := hm.out
    rw [e, show js.length = (opsJ js).length from (opsJ_len js).symm, List.take_length] at this
    exact this
   clear hkl
   go_wp2
   go_ret
   exact ⟨a', c', ks, rfl, HE.out.1, HE.out.2, hnx⟩
theorem ownQ_lit0 (w : World) : OwnQ (w.alloc (.cells #[] 73)) w.heap.size (w.heap.size + 1) (some ⟨w.heap.size, 0, none⟩) 0 [] :=
 ⟨World.ownsRow_lit w #[] 0 (Nat.le_refl _) (by simp [maxLen]) rfl, by simp, fun k hk => by cases hk; simp⟩
theorem ownJ_lit0 (w : World) : OwnJ (w.alloc (.cells #[] 61)) w.heap.size (w.heap.size + 1) (some ⟨w.heap.size, 0, none⟩) 0 [] :=
 ⟨World.ownsRow_lit w #[] 0 (Nat.le_refl _) (by simp [maxLen]) rfl, by simp, fun k hk => by cases hk; simp, fun j hj => by simp at hj, by simp [Value.ownBlock]⟩
theorem specJobs_any (a : Option Addr) (cap : Nat) (js : List JobA) (w : World) (hr : ReadsJ w a js) (hl : js.length ≤ 1048576) (hs : ∀ j ∈ js, j.ops.length ≤ 1048576) (hcp : ∀ j ∈ js, j.a = none → j.c = 0) :
  Calls Try.prog 16 #[.slice a js.length cap] w fun e w' => ∃ a' c' ks, e = .returned (.slice a' ks.length c') ∧ Hid (opsJ ks = opsJ js) ∧ OwnJ w' w.heap.size w'.heap.size a' c' ks ∧ Below w.heap.size w w' := by
 have HCELL : Hid (∀ k, k < js.length → ∃ b off, a = some ⟨b, off, none⟩ ∧ b < w.heap.size ∧ w.cell? ⟨b, off + k, none⟩ = some (js.getD k zeroJ).cell ∧ ReadsQ w (js.getD k zeroJ).a (js.getD k zeroJ).ops) := fun k hk => by
  obtain ⟨b, off, ha, hc⟩ := hr (by intro e; rw [e] at hk; simp at hk)
  exact ⟨b, off, ha, block_lt (hc k hk).1, (hc k hk).1, (hc k hk).2⟩
 obtain ⟨W, hW, hO0, hB0, hsW⟩ : ∃ W, Hid (w.alloc (.cells #[] 61) = W) ∧ Hid (OwnJ W w.heap.size W.heap.size (some ⟨w.heap.size, 0, none⟩) 0 []) ∧ Hid (Below w.heap.size w W) ∧ Hid (w.heap.size < W.heap.size) := ⟨_, rfl, by simpa [Hid] using ownJ_lit0 w, (Below.refl _ _).alloc (Nat.le_refl _) _, by simp [Hid]⟩
 clear hr
 go_enter Try.func16, Try.ntmps16
 go_wp2
 rw [hW.out]
 go_loopw [3, 4] (fun out i wr => ∃ (k : Nat) (a' : Option Addr) (c' : Nat) (ks : List JobA), k ≤ js.length ∧ i = .int .i64 k ∧ out = .slice a' ks.length c' ∧ Hid (opsJ ks = (opsJ js).take k) ∧ Hid (OwnJ wr w.heap.size wr.heap.size a' c' ks) ∧ Below w.heap.size w wr)
  (fun _ i _ => js.length - (RowKit.intOf i).toNat)
 case atStart => exact ⟨0, some ⟨w.heap.size, 0, none⟩, 0, [], Nat.zero_le _, rfl, rfl, rfl, hO0, hB0.out⟩
 case round =>
  obtain ⟨k, a', c', ks, hk, rfl, rfl, hm, ho, hnx⟩ := hrel
  clear hO0 hB0 hW hsW
  have hkl : ks.length = k := by
   have := congrArg List.length hm.out
   rw [opsJ_len, List.length_take, opsJ_len] at this
   omega
  by_cases hlt : k < js.length
  ·obtain ⟨b, off, rfl, hbB, c0, c1⟩ := HCELL.out k hlt
   obtain ⟨wq, hq0, oq0, bq0, hq1⟩ : ∃ wq, Hid (wr.alloc (.cells #[] 73) = wq) ∧ Hid (OwnQ wq wr.heap.size (wr.heap.size + 1) (some ⟨wr.heap.size, 0, none⟩) 0 []) ∧ Hid (Below wr.heap.size wr wq) ∧ wq.heap.size = wr.heap.size + 1 := ⟨_, rfl, ownQ_lit0 wr, (Below.refl _ _).alloc (Nat.le_refl _) _, by simp⟩
   have x0 : wq.cell? ⟨b, off + k, none⟩ = some (js.getD k zeroJ).cell := (bq0.out.cell (Nat.lt_of_lt_of_le hbB hnx.size)).trans ((hnx.cell hbB).trans c0)
   have hzr := (c1.below hnx).below bq0.out
   have hzl := hs _ (jobD_mem js k hlt)
   have hznc := hcp _ (jobD_mem js k hlt)
   have hzl2 : ([] : List OpV).length + (js.getD k zeroJ).ops.length ≤ 1099511627776 := by rw [List.length_nil, Nat.zero_add]; exact Nat.le_trans hzl (by decide)
   have HS : Hid (∀ zs a1 c1, zs = (js.getD k zeroJ).ops → opsJ (ks ++ [(⟨zs, a1, c1⟩ : JobA)]) = (opsJ js).take (k + 1)) := fun zs a1 c1 hz => opsJ_snoc ks js ⟨zs, a1, c1⟩ k hlt hm.out hz
   have HK : Hid (∀ u, Below wr.heap.size wr u → OwnJ u w.heap.size wr.heap.size a' c' ks) := fun u hu => ho.out.below hu
   have HKL : Hid (ks.length = k) := hkl
   have hn1 : ks.length + 1 ≤ 68719476736 := by omega
   have HNX : Hid (Below w.heap.size w wr) := hnx
   have hnz := hnx.size
   unfold JobA.cell at x0
   rw [← hq0.out] at x0
   clear c0 c1 hs hcp hm ho hkl hzl HCELL hnx
   generalize js.getD k zeroJ = z at *
   go_wp2_with (first
    | (guard_target = wpList _ _ _ (Oper.mk (some 18) _ _ _ _ _ :: _) _ _; rw [hq0.out]; refine append_ops rfl (.tmp 13) (.tmp 17) rfl wr.heap.size (wr.heap.size + 1) (some ⟨wr.heap.size, 0, none⟩) 0 [] rfl oq0.out z.a z.c z.ops rfl hzr hznc hzl2 (by omega) ?_; intro a1 c1 ys w1 hys oq1 hg1; have B1 : Below wr.heap.size wr w1 := bq0.out.grown hg1 (by omega) (fun k h => by cases h; exact Nat.le_refl _); clear hg1 hzr hznc; have hz1 := B1.size)
    | (guard_target = wpList _ _ _ (Oper.mk (some 20) _ _ _ _ _ :: _) _ _; refine append_job rfl (.tmp 12) (.tmp 19) rfl w.heap.size wr.heap.size a' c' ks rfl (HK.out _ (B1.alloc hz1 _)) w1.heap.size 0 1 ⟨ys, a1, c1⟩ rfl ((box_new w1 [.slice a1 ys.length c1] _).cell 0 _ rfl) wr.heap.size w1.heap.size (oq1.below ((Below.refl _ _).alloc (Nat.le_refl _) _)) (Nat.le_refl _) (by simp) hn1 hnz ?_; intro a2 c2 w2 ho2 hg2; obtain ⟨ks2, hk2⟩ : ∃ ks2, Hid (ks ++ [(⟨ys, a1, c1⟩ : JobA)] = ks2) := ⟨_, rfl⟩; rw [hk2.out] at ho2 ⊢)
    | fail)
   have HN2 : Hid (Below w.heap.size w w2) := (HNX.out.trans ((B1.alloc hz1 _).mono HNX.out.size)).grown hg2 (by have := (B1.alloc hz1 (.cells #[.slice a1 ys.length c1] 61)).size; have := HNX.out.size; omega) (fun i hi => ((HK.out _ (Below.refl _ _)).row.lt i hi).1)
   have HM2 : Hid (opsJ ks2 = (opsJ js).take (k + 1)) := by rw [Hid, ← hk2.out]; exact HS.out ys a1 c1 (by rw [hys.out]; rfl)
   have HO2 : Hid (OwnJ w2 w.heap.size w2.heap.size a2 c2 ks2) := ho2
   clear hg2 ho2 HK HS hys oq1 hk2 HNX B1
   go_wp2
   go_roundw
   case rel => exact ⟨k + 1, a2, c2, ks2, by omega, by go_num, rfl, HM2, HO2, HN2.out⟩
   case measure => simp [RowKit.intOf]; omega
  ·have HE : Hid (opsJ ks = opsJ js ∧ OwnJ wr w.heap.size wr.heap.size a' c' ks) := by
    have e : k = js.length := by omega
    refine ⟨?_, ho.out⟩
    have := hm.out
    rw [e, show js.length = (opsJ js).length from (opsJ_len js).symm, List.take_length] at this
    exact this
   clear hkl
   go_wp2
   go_ret
   exact ⟨a', c', ks, rfl, HE.out.1, HE.out.2, hnx⟩
end Go.Proofs.Ytgnkplbefclpgaa
namespace Go.Proofs.Ytgnkplbefclpgaa
open Go.ChangeShapes Go.WideShapes Go.ChangeAt Go.RowKit
def InI64 (z : Int) : Prop := -9223372036854775808 ≤ z ∧ z ≤ 9223372036854775807
section
variable {H : Type} {enc : TypeId × Value → H} {w : World} {base : Nat} {spare : Nat → Bool} {held : Bool}
end
end Go.Proofs.Ytgnkplbefclpgaa
namespace Go.Proofs.Ytgnkplbefclpgaa
open Go.ChangeShapes Go.WideShapes Go.ChangeAt Go.RowKit
structure InSlot (w : World) (s : SlotA) : Prop where
 reads : s.reads w
 lI : s.v.o.ints.length ≤ maxLen
 lR : s.v.o.refs.length ≤ maxLen
 kind : InI64 s.v.o.kind
 ints : ∀ z ∈ s.v.o.ints, InI64 z
 refs : ∀ z ∈ s.v.o.refs, InI64 z
section
variable {H : Type} {enc : TypeId × Value → H} {w : World} {base : Nat} {spare : Nat → Bool} {held : Bool}
end
end Go.Proofs.Ytgnkplbefclpgaa
namespace Go.Proofs.Ytgnkplbefclpgaa
open Go.ChangeShapes Go.WideShapes Go.ChangeAt Go.RowKit
structure InRec (w : World) (r : RecA) : Prop where
 bf : InSlot w r.bf
 af : InSlot w r.af
 txs : ReadsL w r.aL r.txs
 lT : r.txs.length ≤ maxLen
 nums : InI64 r.lsn ∧ InI64 r.tx ∧ InI64 r.prev ∧ InI64 r.kind ∧ InI64 r.oid ∧ InI64 r.next
theorem InRec.reads {w : World} {r : RecA} (h : InRec w r) : r.reads w := ⟨h.bf.reads, h.af.reads, h.txs⟩
section
variable {H : Type} {enc : TypeId × Value → H} {w : World} {base : Nat} {spare : Nat → Bool} {held : Bool}
end
end Go.Proofs.Ytgnkplbefclpgaa
namespace Go.Proofs.Ytgnkplbefclpgaa
open Go.RowKit
def zeroR : RecA := ⟨0, 0, 0, 0, 0, zeroS, zeroS, 0, [], none, 0⟩
theorem InRec.short {w : World} {r : RecA} (h : InRec w r) : r.short 9223372036854775807 := by
 have h1 := h.bf.lI
 have h2 := h.bf.lR
 have h3 := h.af.lI
 have h4 := h.af.lR
 have h5 := h.lT
 simp only [maxLen] at h1 h2 h3 h4 h5
 exact ⟨by omega, by omega, by omega⟩
theorem RecA.own.blocks_lt {w : World} {lo hi : Nat} {r : RecA} (h : r.own w lo hi) : ∀ k ∈ r.blocks, lo ≤ k ∧ k < hi := by
 intro k hk
 simp only [RecA.blocks, List.mem_append, Option.mem_toList] at hk
 rcases hk with h1 | h1 | h1
 ·exact SlotA.blocks_lt h.bf k h1
 ·exact SlotA.blocks_lt h.af k h1
 ·exact h.txs.lt k h1
def cellsRs (rs : List RecA) : List Value := rs.flatMap RecA.cells
theorem cellsR_len (r : RecA) : r.cells.length = 15 := rfl
theorem cellsRs_len (rs : List RecA) : (cellsRs rs).length = rs.length * 15 := by
 induction rs with
 | nil => rfl
 | cons s r ih => simp only [cellsRs, List.flatMap_cons, List.length_append, cellsR_len, List.length_cons] at *; omega
theorem cellsRs_app (a b : List RecA) : cellsRs (a ++ b) = cellsRs a ++ cellsRs b := by simp [cellsRs]
theorem cellsRs_cons (r : RecA) (b : List RecA) : cellsRs (r :: b) = r.cells ++ cellsRs b := by simp [cellsRs]
theorem cellsRs_at (rs : List RecA) (k j : Nat) (hk : k < rs.length) (hj : j < 15) : (cellsRs rs)[k * 15 + j]? = (rs.getD k zeroR).cells[j]? := by
 induction rs generalizing k with
 | nil => simp at hk
 | cons s r ih =>
  rw [cellsRs_cons]
  cases k with
  | zero => rw [List.getElem?_append_left (by rw [cellsR_len]; omega)]; simp
  | succ k =>
   rw [List.getElem?_append_right (by rw [cellsR_len]; omega), cellsR_len]
   have := ih k (by simpa using hk)
   rw [show (k + 1) * 15 + j - 15 = k * 15 + j by omega, this]
   simp
theorem recD_mem (rs : List RecA) (k : Nat) (hk : k < rs.length) : rs.getD k zeroR ∈ rs := by
 have e : rs.getD k zeroR = rs[k] := by simp [List.getD, hk]
 rw [e]
 exact List.getElem_mem hk
theorem rangeAt_below {w w' : World} {b o n : Nat} {cs : List Value} (h : w.rangeAt b o cs) (hb : Below n w w') (hn : b < n) : w'.rangeAt b o cs := fun j v hv => (hb.cell (p := ⟨b, o + j, none⟩) hn).trans (h j v hv)
theorem rangeR_lt {w : World} {b o : Nat} {r : RecA} (h : w.rangeAt b o r.cells) : b < w.heap.size := block_lt (h 0 _ rfl)
def ReadsRs (w : World) (a : Option Addr) (rs : List RecA) : Prop := rs ≠ [] → ∃ b off, a = some ⟨b, off, none⟩ ∧ ∀ k, k < rs.length → w.rangeAt b (off + k * 15) (rs.getD k zeroR).cells ∧ (rs.getD k zeroR).reads w
theorem ReadsRs.nil (w : World) (a : Option Addr) : ReadsRs w a [] := fun h => absurd rfl h
theorem ReadsRs.below {w w' : World} {a : Option Addr} {rs : List RecA} (h : ReadsRs w a rs) (hb : Below w.heap.size w w') : ReadsRs w' a rs := by
 intro hne
 obtain ⟨b, off, ha, hc⟩ := h hne
 refine ⟨b, off, ha, fun k hk => ?_⟩
 obtain ⟨h0, h1⟩ := hc k hk
 exact ⟨rangeAt_below h0 hb (rangeR_lt h0), h1.below hb⟩
theorem ReadsRs.cases {w : World} {a : Option Addr} {rs : List RecA} (h : ReadsRs w a rs) : rs = [] ∨ ∃ b off, a = some ⟨b, off, none⟩ ∧ 0 < rs.length ∧ ∀ k, k < rs.length → w.rangeAt b (off + k * 15) (rs.getD k zeroR).cells ∧ (rs.getD k zeroR).reads w := by
 by_cases e : rs = []
 ·exact .inl e
 ·obtain ⟨b, off, ha, hc⟩ := h e
  exact .inr ⟨b, off, ha, List.length_pos_iff.2 e, hc⟩
structure OwnRs (w : World) (lo hi : Nat) (a : Option Addr) (c : Nat) (rs : List RecA) : Prop where
 row : w.ownsRow lo 113 15 (.slice a rs.length c) rs.length (cellsRs rs)
 top : hi ≤ w.heap.size
 blk : ∀ k, (Value.slice a rs.length c).ownBlock = some k → k < hi
 each : ∀ r ∈ rs, r.own w lo hi
 apart : ((Value.slice a rs.length c).ownBlock.toList ++ rs.flatMap RecA.blocks).Nodup
def blocksRs (a : Option Addr) (c : Nat) (rs : List RecA) : List Nat := (Value.slice a rs.length c).ownBlock.toList ++ rs.flatMap RecA.blocks
theorem OwnRs.blocks_lt {w : World} {lo hi : Nat} {a : Option Addr} {c : Nat} {rs : List RecA} (h : OwnRs w lo hi a c rs) : ∀ k ∈ blocksRs a c rs, lo ≤ k ∧ k < hi := by
 intro k hk
 simp only [blocksRs, List.mem_append, List.mem_flatMap, Option.mem_toList] at hk
 rcases hk with h1 | ⟨r, hr, h1⟩
 ·exact ⟨(h.row.lt k h1).1, h.blk k h1⟩
 ·exact (h.each r hr).blocks_lt k h1
theorem RecA.own.touch {w w' : World} {lo hi : Nat} {r : RecA} {bl : List Nat} (h : r.own w lo hi) (ht : Touch bl w w') (hd : ∀ k ∈ r.blocks, k ∉ bl) : r.own w' lo hi :=
 ⟨SlotA.touch h.bf ht (fun k hk => hd k (List.mem_append.2 (.inl hk))), SlotA.touch h.af ht (fun k hk => hd k (List.mem_append.2 (.inr (List.mem_append.2 (.inl hk))))), h.txs.touch ht (fun k hk => hd k (List.mem_append.2 (.inr (List.mem_append.2 (.inr (Option.mem_toList.2 hk)))))), h.apart⟩
theorem OwnRs.touch {w w' : World} {lo hi : Nat} {a : Option Addr} {c : Nat} {rs : List RecA} {bl : List Nat} (h : OwnRs w lo hi a c rs) (ht : Touch bl w w') (hd : ∀ k ∈ blocksRs a c rs, k ∉ bl) : OwnRs w' lo hi a c rs :=
 ⟨ownsRow_block h.row (fun k hk => ht.block k (h.row.lt k hk).2 (hd k (List.mem_append.2 (.inl (Option.mem_toList.2 hk))))), Nat.le_trans h.top ht.size, h.blk, fun r hr => (h.each r hr).touch ht (fun k hk => hd k (List.mem_append.2 (.inr (List.mem_flatMap.2 ⟨r, hr, hk⟩)))), h.apart⟩
theorem OwnRs.within {w w' : World} {lo hi l r : Nat} {a : Option Addr} {c : Nat} {rs : List RecA} (h : OwnRs w lo hi a c rs) (hw : Within l r w w') (hd : hi ≤ l ∨ r ≤ lo) : OwnRs w' lo hi a c rs :=
 ⟨ownsRow_block h.row (fun k hk => hw.block k (by have := h.blk k hk; have := h.top; omega) (by have := h.blk k hk; have := (h.row.lt k hk).1; omega)), Nat.le_trans h.top hw.size, h.blk, fun x hx => (h.each x hx).within hw hd, h.apart⟩
theorem OwnRs.below {w w' : World} {lo hi : Nat} {a : Option Addr} {c : Nat} {rs : List RecA} (h : OwnRs w lo hi a c rs) (hb : Below w.heap.size w w') : OwnRs w' lo hi a c rs :=
 h.within (Within.of_below (lo := w.heap.size) (hi := w.heap.size) hb) (.inl h.top)
theorem OwnRs.widen {w : World} {lo hi lo' hi' : Nat} {a : Option Addr} {c : Nat} {rs : List RecA} (h : OwnRs w lo hi a c rs) (h1 : lo' ≤ lo) (h2 : hi ≤ hi') (h3 : hi' ≤ w.heap.size) : OwnRs w lo' hi' a c rs :=
 ⟨ownsRow_base h.row (fun k hk => by have := (h.row.lt k hk).1; omega), h3, fun k hk => by have := h.blk k hk; omega, fun x hx => (h.each x hx).widen h1 h2 h3, h.apart⟩
theorem ownRs_nil (w : World) (lo hi : Nat) (h : hi ≤ w.heap.size) : OwnRs w lo hi none 0 [] := ⟨⟨by simp [cellsRs], .inl ⟨rfl, rfl⟩⟩, h, (fun k hk => by cases hk), (fun r hr => by simp at hr), by simp [Value.ownBlock]⟩
theorem OwnRs.nocap {w : World} {lo hi : Nat} {a : Option Addr} {c : Nat} {rs : List RecA} (h : OwnRs w lo hi a c rs) : a = none → c = 0 := by
 intro ha
 rcases h.row.2 with ⟨hv, _⟩ | ⟨g, cap, cur, hv, _⟩
 ·simp only [Value.slice.injEq] at hv; exact hv.2.2
 ·simp [ha] at hv
theorem row_rec {w : World} {base g n cap : Nat} {rs : List RecA} (h : w.ownsRow base 113 15 (.slice (some ⟨g, 0, none⟩) n cap) n (cellsRs rs)) (hn : rs.length = n) (k : Nat) (hk : k < n) :
  w.rangeAt g (k * 15) (rs.getD k zeroR).cells ∧ w.there g (k * 15) 15 := by
 refine ⟨fun j v hv => ?_, fun j hj => ?_⟩
 ·have hj : j < 15 := by have := (List.getElem?_eq_some_iff.1 hv).1; rwa [cellsR_len] at this
  rw [h.cellAt (k * 15 + j) (by omega), cellsRs_at rs k j (by omega) hj, hv]
 ·refine ⟨?_, h.frozenAt _⟩
  rw [h.cellAt (k * 15 + j) (by omega), cellsRs_at rs k j (by omega) hj, List.getElem?_eq_getElem (by rw [cellsR_len]; omega)]
  rfl
theorem OwnRs.reads {w : World} {lo hi : Nat} {a : Option Addr} {c : Nat} {rs : List RecA} (h : OwnRs w lo hi a c rs) : ReadsRs w a rs := by
 intro hne
 rcases h.row.2 with ⟨_, h0⟩ | ⟨g, cap', cur, hv, hb, hg, hr⟩
 ·exact absurd (List.length_eq_zero_iff.1 h0) hne
 ·simp only [Value.slice.injEq] at hv
  obtain ⟨rfl, _, rfl⟩ := hv
  refine ⟨g, 0, rfl, fun k hk => ?_⟩
  rw [Nat.zero_add]
  exact ⟨(row_rec h.row rfl k hk).1, (h.each _ (recD_mem rs k hk)).reads⟩
structure SeatA where
 no : Int
 lsn : Int
 s0 : SlotA
 s1 : SlotA
 s2 : SlotA
 s3 : SlotA
 dirty : Bool
 hot : Bool
def SeatA.ss (s : SeatA) : List SlotA := [s.s0, s.s1, s.s2, s.s3]
def SeatA.page (s : SeatA) : PageA := ⟨s.lsn, s.ss⟩
structure SeatV where
 no : Int
 lsn : Int
 ss : List SlotV
 dirty : Bool
 hot : Bool
def SeatA.v (s : SeatA) : SeatV := ⟨s.no, s.lsn, s.ss.map (·.v), s.dirty, s.hot⟩
def SeatA.cells (s : SeatA) : List Value := .int .i64 s.no :: .int .i64 s.lsn :: (s.s0.cells ++ (s.s1.cells ++ (s.s2.cells ++ (s.s3.cells ++ [.bool s.dirty, .bool s.hot]))))
theorem SeatA.cells_page (s : SeatA) : s.cells = .int .i64 s.no :: (s.page.cells ++ [.bool s.dirty, .bool s.hot]) := by
 simp [SeatA.cells, SeatA.page, SeatA.ss, PageA.cells, cellsS]
def zeroSt : SeatA := ⟨0, 0, zeroS, zeroS, zeroS, zeroS, false, false⟩
def SeatA.reads (w : World) (s : SeatA) : Prop := ReadsS w s.ss
theorem SeatA.reads.below {w w' : World} {s : SeatA} (h : s.reads w) (hb : Below w.heap.size w w') : s.reads w' := ReadsS.below h hb
def SeatA.blocks (s : SeatA) : List Nat := s.ss.flatMap SlotA.blocks
def SeatA.own (w : World) (lo hi : Nat) (s : SeatA) : Prop := OwnS w lo hi s.ss
theorem SeatA.own.apart {w : World} {lo hi : Nat} {s : SeatA} (h : s.own w lo hi) : s.blocks.Nodup := OwnS.apart h
theorem SeatA.own.reads {w : World} {lo hi : Nat} {s : SeatA} (h : s.own w lo hi) : s.reads w := OwnS.reads h
theorem SeatA.own.within {w w' : World} {lo hi l u : Nat} {s : SeatA} (h : s.own w lo hi) (hw : Within l u w w') (hd : hi ≤ l ∨ u ≤ lo) : s.own w' lo hi := OwnS.within h hw hd
theorem SeatA.own.widen {w : World} {lo hi lo' hi' : Nat} {s : SeatA} (h : s.own w lo hi) (h1 : lo' ≤ lo) (h2 : hi ≤ hi') (h3 : hi' ≤ w.heap.size) : s.own w lo' hi' := OwnS.widen h h1 h2 h3
theorem SeatA.own.blocks_lt {w : World} {lo hi : Nat} {s : SeatA} (h : s.own w lo hi) : ∀ k ∈ s.blocks, lo ≤ k ∧ k < hi := OwnS.blocks_lt h
def cellsSts (rs : List SeatA) : List Value := rs.flatMap SeatA.cells
theorem cellsSt_len (r : SeatA) : r.cells.length = 20 := rfl
theorem cellsSts_len (rs : List SeatA) : (cellsSts rs).length = rs.length * 20 := by
 induction rs with
 | nil => rfl
 | cons s r ih => simp only [cellsSts, List.flatMap_cons, List.length_append, cellsSt_len, List.length_cons] at *; omega
theorem cellsSts_app (a b : List SeatA) : cellsSts (a ++ b) = cellsSts a ++ cellsSts b := by simp [cellsSts]
theorem cellsSts_cons (r : SeatA) (b : List SeatA) : cellsSts (r :: b) = r.cells ++ cellsSts b := by simp [cellsSts]
theorem cellsSts_at (rs : List SeatA) (k j : Nat) (hk : k < rs.length) (hj : j < 20) : (cellsSts rs)[k * 20 + j]? = (rs.getD k zeroSt).cells[j]? := by
 induction rs generalizing k with
 | nil => simp at hk
 | cons s r ih =>
  rw [cellsSts_cons]
  cases k with
  | zero => rw [List.getElem?_append_left (by rw [cellsSt_len]; omega)]; simp
  | succ k =>
   rw [List.getElem?_append_right (by rw [cellsSt_len]; omega), cellsSt_len]
   have := ih k (by simpa using hk)
   rw [show (k + 1) * 20 + j - 20 = k * 20 + j by omega, this]
   simp
theorem seatD_mem (rs : List SeatA) (k : Nat) (hk : k < rs.length) : rs.getD k zeroSt ∈ rs := by
 have e : rs.getD k zeroSt = rs[k] := by simp [List.getD, hk]
 rw [e]
 exact List.getElem_mem hk
theorem rangeSt_lt {w : World} {b o : Nat} {r : SeatA} (h : w.rangeAt b o r.cells) : b < w.heap.size := block_lt (h 0 _ rfl)
def ReadsSts (w : World) (a : Option Addr) (rs : List SeatA) : Prop := rs ≠ [] → ∃ b off, a = some ⟨b, off, none⟩ ∧ ∀ k, k < rs.length → w.rangeAt b (off + k * 20) (rs.getD k zeroSt).cells ∧ (rs.getD k zeroSt).reads w
theorem ReadsSts.nil (w : World) (a : Option Addr) : ReadsSts w a [] := fun h => absurd rfl h
theorem ReadsSts.below {w w' : World} {a : Option Addr} {rs : List SeatA} (h : ReadsSts w a rs) (hb : Below w.heap.size w w') : ReadsSts w' a rs := by
 intro hne
 obtain ⟨b, off, ha, hc⟩ := h hne
 refine ⟨b, off, ha, fun k hk => ?_⟩
 obtain ⟨h0, h1⟩ := hc k hk
 exact ⟨rangeAt_below h0 hb (rangeSt_lt h0), h1.below hb⟩
theorem ReadsSts.cases {w : World} {a : Option Addr} {rs : List SeatA} (h : ReadsSts w a rs) : rs = [] ∨ ∃ b off, a = some ⟨b, off, none⟩ ∧ 0 < rs.length ∧ ∀ k, k < rs.length → w.rangeAt b (off + k * 20) (rs.getD k zeroSt).cells ∧ (rs.getD k zeroSt).reads w := by
 by_cases e : rs = []
 ·exact .inl e
 ·obtain ⟨b, off, ha, hc⟩ := h e
  exact .inr ⟨b, off, ha, List.length_pos_iff.2 e, hc⟩
structure OwnSts (w : World) (lo hi : Nat) (a : Option Addr) (c : Nat) (rs : List SeatA) : Prop where
 row : w.ownsRow lo 110 20 (.slice a rs.length c) rs.length (cellsSts rs)
 top : hi ≤ w.heap.size
 blk : ∀ k, (Value.slice a rs.length c).ownBlock = some k → k < hi
 each : ∀ r ∈ rs, r.own w lo hi
 apart : ((Value.slice a rs.length c).ownBlock.toList ++ rs.flatMap SeatA.blocks).Nodup
def blocksSts (a : Option Addr) (c : Nat) (rs : List SeatA) : List Nat := (Value.slice a rs.length c).ownBlock.toList ++ rs.flatMap SeatA.blocks
theorem OwnSts.blocks_lt {w : World} {lo hi : Nat} {a : Option Addr} {c : Nat} {rs : List SeatA} (h : OwnSts w lo hi a c rs) : ∀ k ∈ blocksSts a c rs, lo ≤ k ∧ k < hi := by
 intro k hk
 simp only [blocksSts, List.mem_append, List.mem_flatMap, Option.mem_toList] at hk
 rcases hk with h1 | ⟨r, hr, h1⟩
 ·exact ⟨(h.row.lt k h1).1, h.blk k h1⟩
 ·exact (h.each r hr).blocks_lt k h1
theorem SeatA.own.touch {w w' : World} {lo hi : Nat} {s : SeatA} {bl : List Nat} (h : s.own w lo hi) (ht : Touch bl w w') (hd : ∀ k ∈ s.blocks, k ∉ bl) : s.own w' lo hi :=
 ⟨fun x hx => SlotA.touch (h.each x hx) ht (fun k hk => hd k (List.mem_flatMap.2 ⟨x, hx, hk⟩)), OwnS.apart h⟩
theorem OwnSts.touch {w w' : World} {lo hi : Nat} {a : Option Addr} {c : Nat} {rs : List SeatA} {bl : List Nat} (h : OwnSts w lo hi a c rs) (ht : Touch bl w w') (hd : ∀ k ∈ blocksSts a c rs, k ∉ bl) : OwnSts w' lo hi a c rs :=
 ⟨ownsRow_block h.row (fun k hk => ht.block k (h.row.lt k hk).2 (hd k (List.mem_append.2 (.inl (Option.mem_toList.2 hk))))), Nat.le_trans h.top ht.size, h.blk, fun r hr => (h.each r hr).touch ht (fun k hk => hd k (List.mem_append.2 (.inr (List.mem_flatMap.2 ⟨r, hr, hk⟩)))), h.apart⟩
theorem OwnSts.within {w w' : World} {lo hi l r : Nat} {a : Option Addr} {c : Nat} {rs : List SeatA} (h : OwnSts w lo hi a c rs) (hw : Within l r w w') (hd : hi ≤ l ∨ r ≤ lo) : OwnSts w' lo hi a c rs :=
 ⟨ownsRow_block h.row (fun k hk => hw.block k (by have := h.blk k hk; have := h.top; omega) (by have := h.blk k hk; have := (h.row.lt k hk).1; omega)), Nat.le_trans h.top hw.size, h.blk, fun x hx => (h.each x hx).within hw hd, h.apart⟩
theorem OwnSts.below {w w' : World} {lo hi : Nat} {a : Option Addr} {c : Nat} {rs : List SeatA} (h : OwnSts w lo hi a c rs) (hb : Below w.heap.size w w') : OwnSts w' lo hi a c rs :=
 h.within (Within.of_below (lo := w.heap.size) (hi := w.heap.size) hb) (.inl h.top)
theorem OwnSts.widen {w : World} {lo hi lo' hi' : Nat} {a : Option Addr} {c : Nat} {rs : List SeatA} (h : OwnSts w lo hi a c rs) (h1 : lo' ≤ lo) (h2 : hi ≤ hi') (h3 : hi' ≤ w.heap.size) : OwnSts w lo' hi' a c rs :=
 ⟨ownsRow_base h.row (fun k hk => by have := (h.row.lt k hk).1; omega), h3, fun k hk => by have := h.blk k hk; omega, fun x hx => (h.each x hx).widen h1 h2 h3, h.apart⟩
theorem ownSts_nil (w : World) (lo hi : Nat) (h : hi ≤ w.heap.size) : OwnSts w lo hi none 0 [] := ⟨⟨by simp [cellsSts], .inl ⟨rfl, rfl⟩⟩, h, (fun k hk => by cases hk), (fun r hr => by simp at hr), by simp [Value.ownBlock]⟩
theorem OwnSts.nocap {w : World} {lo hi : Nat} {a : Option Addr} {c : Nat} {rs : List SeatA} (h : OwnSts w lo hi a c rs) : a = none → c = 0 := by
 intro ha
 rcases h.row.2 with ⟨hv, _⟩ | ⟨g, cap, cur, hv, _⟩
 ·simp only [Value.slice.injEq] at hv; exact hv.2.2
 ·simp [ha] at hv
theorem row_seat {w : World} {base g n cap : Nat} {rs : List SeatA} (h : w.ownsRow base 110 20 (.slice (some ⟨g, 0, none⟩) n cap) n (cellsSts rs)) (hn : rs.length = n) (k : Nat) (hk : k < n) :
  w.rangeAt g (k * 20) (rs.getD k zeroSt).cells ∧ w.there g (k * 20) 20 := by
 refine ⟨fun j v hv => ?_, fun j hj => ?_⟩
 ·have hj : j < 20 := by have := (List.getElem?_eq_some_iff.1 hv).1; rwa [cellsSt_len] at this
  rw [h.cellAt (k * 20 + j) (by omega), cellsSts_at rs k j (by omega) hj, hv]
 ·refine ⟨?_, h.frozenAt _⟩
  rw [h.cellAt (k * 20 + j) (by omega), cellsSts_at rs k j (by omega) hj, List.getElem?_eq_getElem (by rw [cellsSt_len]; omega)]
  rfl
theorem OwnSts.reads {w : World} {lo hi : Nat} {a : Option Addr} {c : Nat} {rs : List SeatA} (h : OwnSts w lo hi a c rs) : ReadsSts w a rs := by
 intro hne
 rcases h.row.2 with ⟨_, h0⟩ | ⟨g, cap', cur, hv, hb, hg, hr⟩
 ·exact absurd (List.length_eq_zero_iff.1 h0) hne
 ·simp only [Value.slice.injEq] at hv
  obtain ⟨rfl, _, rfl⟩ := hv
  refine ⟨g, 0, rfl, fun k hk => ?_⟩
  rw [Nat.zero_add]
  exact ⟨(row_seat h.row rfl k hk).1, (h.each _ (seatD_mem rs k hk)).reads⟩
end Go.Proofs.Ytgnkplbefclpgaa
namespace Go.Proofs.Ytgnkplbefclpgaa
open Go.RowKit Go.Extern.Stop Go.Stop Go.Extern
end Go.Proofs.Ytgnkplbefclpgaa