/- The walks of laws.toOpSS, szOpSS, eqOpSS; jobs that came in. -/
import Derived.Test.YtelagcpkbcdpdaaJobs
import Derived.ProofKit
import Derived.OpenShut
import Derived.ChangeOld
namespace Go.Proofs.Ytelagcpkbcdpdaa
open Go.RowKit

structure JobsShort (js : List JobA) (n : Nat) : Prop where
  len : js.length ≤ n
  each : ∀ j ∈ js, j.ops.length ≤ n

theorem fillJ_next (A : List JobA) (n k : Nat) (h : k < n) : A ++ List.replicate (n - k) zeroJ = A ++ zeroJ :: List.replicate (n - (k + 1)) zeroJ := by
  rw [show n - k = (n - (k + 1)) + 1 by omega, List.replicate_succ]
theorem opsJ_snoc (A : List JobA) (js : List JobA) (q : JobA) (k : Nat) (hk : k < js.length) (h : opsJ A = (opsJ js).take k) (hq : q.ops = (js.getD k zeroJ).ops) : opsJ (A ++ [q]) = (opsJ js).take (k + 1) := by
  have e : (opsJ js).take (k + 1) = (opsJ js).take k ++ [(js.getD k zeroJ).ops] := by
    rw [List.take_succ_eq_append_getElem (by rw [opsJ_len]; exact hk)]
    simp [opsJ, List.getD, hk]
  rw [e, ← h, ← hq]
  simp [opsJ]

set_option maxHeartbeats 1000000 in
set_option maxRecDepth 100000 in
theorem toOpSS_any (a : Option Addr) (cap : Nat) (js : List JobA) (w : World) (hr : ReadsJ w a js) (hl : JobsShort js 1099511627776) :
    Calls Try.prog 7 #[.slice a js.length cap] w fun e w' => ∃ a' c' js', e = .returned (.slice a' js'.length c') ∧ Hid (opsJ js' = opsJ js) ∧ OwnJ w' w.heap.size w'.heap.size a' c' js' ∧ Below w.heap.size w w' := by
  obtain ⟨hl1, hl2⟩ := hl
  obtain ⟨i0, hi, hz0, hz1, hz2⟩ := info_parts Try.infoOps
  have HCELL : Hid (∀ u, Below w.heap.size w u → ∀ k, k < js.length → ∃ b off, a = some ⟨b, off, none⟩ ∧ u.cell? ⟨b, off + k, none⟩ = some (js.getD k zeroJ).cell ∧ ReadsQ u (js.getD k zeroJ).a (js.getD k zeroJ).ops) := fun u hu k hk => by
    obtain ⟨b, off, ha, hc⟩ := (hr.below hu) (by intro e; rw [e] at hk; simp at hk)
    exact ⟨b, off, ha, (hc k hk).1, (hc k hk).2⟩
  have HLE : Hid (∀ k, k < js.length → (js.getD k zeroJ).ops.length ≤ 1099511627776) := fun k hk => hl2 _ (jobD_mem js k hk)
  clear hr hl2
  go_enter Try.func7, Try.ntmps7
  go_wp2_with (at_make; refine wpList_make_full _ rfl _ _ 25 rfl w.heap.size 59 i0 (.slice none 0 0) 1 Try.underlying25 hi hz0 hz1 _ _ _ _ js.length rfl rfl rfl rfl (by rw [hz2]; omega) (by simp [maxLen]; omega) (Nat.le_refl _) ?_)
  intro w0 hown0 hgrow0
  have hown1 : OwnJ w0 w.heap.size w0.heap.size (some ⟨w.heap.size, 0, none⟩) js.length (List.replicate js.length zeroJ) := ownJ_made (by rw [← made_jobs, Nat.mul_one]; exact hown0)
  have hb0 : Below w.heap.size w w0 := (Below.refl _ _).grown hgrow0 (Nat.le_refl _) (fun k h => by cases h)
  clear hown0 hgrow0
  go_wp2
  go_loopw [4] (fun i wr => ∃ (k : Nat) (A : List JobA), k ≤ js.length ∧ i = .int .i64 k ∧ A.length = k ∧ Hid (opsJ A = (opsJ js).take k) ∧ OwnJ wr w.heap.size wr.heap.size (some ⟨w.heap.size, 0, none⟩) js.length (A ++ List.replicate (js.length - k) zeroJ) ∧ Below w.heap.size w wr)
    (fun i _ => js.length - (intOf i).toNat)
  case atStart => exact ⟨0, [], Nat.zero_le _, rfl, rfl, rfl, hown1, hb0⟩
  case round =>
    obtain ⟨k, A, hk, rfl, hA, hops, hown, hnx⟩ := hrel
    by_cases hlt : k < js.length
    · obtain ⟨b, off, rfl, hc, hrd⟩ := HCELL.out wr hnx k hlt
      have hll := HLE.out k hlt
      have HSN : Hid (∀ q : JobA, q.ops = (js.getD k zeroJ).ops → opsJ (A ++ [q]) = (opsJ js).take (k + 1)) := fun q hq => opsJ_snoc A js q k hlt hops.out hq
      rw [fillJ_next A js.length k hlt] at hown
      have hrl : (A ++ zeroJ :: List.replicate (js.length - (k + 1)) zeroJ).length = js.length := by simp; omega
      clear HCELL HLE hown1 hb0 hops
      generalize js.getD k zeroJ = z at *
      have C := toOpS_any z.a z.c z.ops wr hrd hll
      simp only [JobA.cell] at hc
      go_wp2_with fail
      refine C.mono ?_
      clear C hc hrd
      rintro e w1 ⟨a1, c1, rfl, ho1, hb1⟩
      have hownA := hown.below hb1
      have hrow := hownA.row
      rw [hrl] at hrow
      have x0 := hrow.cellAt k (by omega)
      rw [cellsJ_at _ k (by rw [hrl]; exact hlt)] at x0
      have f0 := hrow.frozenAt k
      have z1 := hb1.size
      obtain ⟨W2, hW2, ho2, ht2, hs2⟩ := hownA.fill ⟨z.ops, a1, c1⟩ ho1 (Nat.le_refl _) hnx.size (Nat.le_refl _)
      rw [hA] at hW2
      simp only [JobA.cell] at hW2
      have hB2 : Below w.heap.size w W2 := (hnx.trans (hb1.mono hnx.size)).trans ⟨ht2.os, ht2.tape, ht2.output, ht2.size, fun j hj => ht2.block j (by have := hnx.size; omega) (by simp; omega)⟩
      have HH : Hid (_ ∧ _) := ⟨ho2.widen (Nat.le_refl _) (by omega) (Nat.le_refl _), hB2⟩
      have HOP : Hid (opsJ (A ++ [(⟨z.ops, a1, c1⟩ : JobA)]) = (opsJ js).take (k + 1)) := HSN.out ⟨z.ops, a1, c1⟩ rfl
      clear ho2 hB2 ht2 hownA hown hb1 hnx HSN hrow ho1
      generalize (A ++ zeroJ :: List.replicate (js.length - (k + 1)) zeroJ).getD k zeroJ = old at *
      simp only [JobA.cell] at x0
      go_wp2_with fail
      rw [hW2.out]
      go_roundw
      case rel => exact ⟨k + 1, A ++ [(⟨z.ops, a1, c1⟩ : JobA)], by omega, by go_num, by simp [hA], HOP, by rw [List.append_assoc]; exact HH.out.1, HH.out.2⟩
      case measure => simp [intOf]; omega
    · have e : k = js.length := by omega
      have HE : Hid (OwnJ wr w.heap.size wr.heap.size (some ⟨w.heap.size, 0, none⟩) js.length A ∧ opsJ A = opsJ js ∧ A.length = js.length) := by
        have h1 := hown
        have h2 := hops.out
        rw [e, Nat.sub_self, List.replicate_zero, List.append_nil] at h1
        rw [e, List.take_of_length_le (by rw [opsJ_len]; exact Nat.le_refl _)] at h2
        exact ⟨h1, h2, by omega⟩
      go_wp2
      go_ret
      exact ⟨some ⟨w.heap.size, 0, none⟩, js.length, A, by rw [HE.out.2.2]; rfl, HE.out.2.1, HE.out.1, hnx⟩

def szQ (n : Nat) (left : Int) : Int := if left - n < 0 then -1 else left - n
set_option maxHeartbeats 400000 in
theorem szOpS_any (a : Option Addr) (c n : Nat) (left : Int) (w : World) (hn : n ≤ 9223372036854775807) (h0 : 0 ≤ left ∧ left ≤ 1048576) :
    Calls Try.prog 16 #[.slice a n c, .int .i64 left] w fun e w' => e = .returned (.int .i64 (szQ n left)) ∧ w' = w := by
  by_cases h : left - n < 0
  · have HS : Hid (szQ n left = -1) := by unfold szQ; rw [Hid, if_pos h]
    go_enter Try.func16, Try.ntmps16
    go_wp2
    go_ret
    exact ⟨ret_int HS.out.symm, rfl⟩
  · have HS : Hid (szQ n left = left - n) := by unfold szQ; rw [Hid, if_neg h]
    go_enter Try.func16, Try.ntmps16
    go_wp2
    go_ret
    exact ⟨ret_int HS.out.symm, rfl⟩

set_option maxHeartbeats 1000000 in
set_option maxRecDepth 100000 in
/-- Too great, and less than 0 is told; or all lists are short. -/
theorem szOpSS_any (a : Option Addr) (cap : Nat) (js : List JobA) (left : Int) (w : World) (hr : ReadsJ w a js) (hn : JobsShort js 9223372036854775807) (hl : 0 ≤ left ∧ left ≤ 1048576) :
    Calls Try.prog 5 #[.slice a js.length cap, .int .i64 left] w fun e w' => ∃ z : Int, e = .returned (.int .i64 z) ∧ (z < 0 ∨ (0 ≤ z ∧ z ≤ left ∧ JobsShort js 1048576)) ∧ w' = w := by
  obtain ⟨hn1, hn2⟩ := hn
  by_cases hle : left - js.length < 0
  · go_enter Try.func5, Try.ntmps5
    go_wp2
    go_ret
    exact ⟨-1, rfl, .inl (by omega), rfl⟩
  have hlen : js.length ≤ 1048576 := by omega
  have HC : Hid (∀ k, k < js.length → ∃ b off, a = some ⟨b, off, none⟩ ∧ w.cell? ⟨b, off + k, none⟩ = some (js.getD k zeroJ).cell) := fun k hk => by
    obtain ⟨b, off, ha, hc⟩ := hr (by intro e; rw [e] at hk; simp at hk)
    exact ⟨b, off, ha, (hc k hk).1⟩
  have HLE : Hid (∀ k, k < js.length → (js.getD k zeroJ).ops.length ≤ 9223372036854775807) := fun k hk => hn2 _ (jobD_mem js k hk)
  have HA : Hid ((∀ k, k < js.length → (js.getD k zeroJ).ops.length ≤ 1048576) → JobsShort js 1048576) := by
    intro h
    refine ⟨hlen, fun r hr => ?_⟩
    obtain ⟨k, hk, rfl⟩ := List.getElem_of_mem hr
    have := h k hk
    simpa [List.getD, hk] using this
  clear hr hn2
  go_enter Try.func5, Try.ntmps5
  go_wp2
  go_loopw [1, 5] (fun v i wr => ∃ (k : Nat) (z : Int), k ≤ js.length ∧ i = .int .i64 k ∧ v = .int .i64 z ∧ 0 ≤ z ∧ z ≤ left ∧ Hid (∀ j, j < k → (js.getD j zeroJ).ops.length ≤ 1048576) ∧ Hid (wr = w)) (fun _ i _ => js.length - (intOf i).toNat)
  case atStart => exact ⟨0, left - js.length, Nat.zero_le _, rfl, by go_num, by omega, by omega, fun j hj => by omega, rfl⟩
  case round =>
    obtain ⟨k, z, hk, rfl, rfl, hz0, hz1, hsh, hw⟩ := hrel
    have hw' := hw.out
    subst hw'
    by_cases hlt : k < js.length
    · obtain ⟨b, off, rfl, hcell⟩ := HC.out k hlt
      have hle := HLE.out k hlt
      clear HC HLE
      have HN : Hid ((js.getD k zeroJ).ops.length ≤ 1048576 → ∀ j, j < k + 1 → (js.getD j zeroJ).ops.length ≤ 1048576) := fun h j hj => by
        by_cases e : j = k
        · rw [e]; exact h
        · exact hsh.out j (by omega)
      generalize js.getD k zeroJ = y at *
      have C := szOpS_any y.a y.c y.ops.length z wr hle (by omega)
      simp only [JobA.cell] at hcell
      by_cases h : z - y.ops.length < 0
      · have HS : Hid (szQ y.ops.length z = -1) := by unfold szQ; rw [Hid, if_pos h]
        rw [HS.out] at C
        go_wp2_with fail
        refine C.mono ?_
        rintro e w1 ⟨rfl, rfl⟩
        go_wp2
        go_ret
        exact ⟨-1, rfl, .inl (by omega), rfl⟩
      · have HS : Hid (szQ y.ops.length z = z - y.ops.length) := by unfold szQ; rw [Hid, if_neg h]
        rw [HS.out] at C
        have HH := HN.out (by omega)
        have HM : Hid (0 ≤ z - (y.ops.length : Int) ∧ z - (y.ops.length : Int) ≤ left) := ⟨by omega, by omega⟩
        go_wp2_with fail
        refine C.mono ?_
        rintro e w1 ⟨rfl, rfl⟩
        clear C
        go_wp2
        go_roundw
        case rel => exact ⟨k + 1, z - y.ops.length, by omega, by go_num, rfl, HM.out.1, HM.out.2, HH, True.intro⟩
        case measure => simp [intOf]; omega
    · have HE : Hid (JobsShort js 1048576) := HA.out (fun j hj => hsh.out j (by omega))
      go_wp2
      go_ret
      exact ⟨z, rfl, .inr ⟨hz0, hz1, HE.out⟩, rfl⟩

set_option maxHeartbeats 1000000 in
set_option maxRecDepth 100000 in
theorem eqOpSS_same (a b : Option Addr) (ca cb : Nat) (js ks : List JobA) (w : World) (ha : ReadsJ w a js) (hb : ReadsJ w b ks) (he : opsJ ks = opsJ js) (hl : JobsShort js 1099511627776) :
    Calls Try.prog 9 #[.slice a js.length ca, .slice b ks.length cb] w fun e w' => e = .returned (.bool true) ∧ Below w.heap.size w w' := by
  have hle : ks.length = js.length := by rw [← opsJ_len, he, opsJ_len]
  obtain ⟨hl1, hl2⟩ := hl
  have HC : Hid (∀ u, Below w.heap.size w u → ∀ k, k < js.length → ∃ b1 o1 b2 o2, a = some ⟨b1, o1, none⟩ ∧ b = some ⟨b2, o2, none⟩ ∧ u.cell? ⟨b1, o1 + k, none⟩ = some (js.getD k zeroJ).cell ∧ u.cell? ⟨b2, o2 + k, none⟩ = some (ks.getD k zeroJ).cell) := fun u hu k hk => by
    obtain ⟨b1, o1, h1, hc1⟩ := (ha.below hu) (by intro e; rw [e] at hk; simp at hk)
    obtain ⟨b2, o2, h2, hc2⟩ := (hb.below hu) (by intro e; rw [e] at hle; simp at hle; omega)
    exact ⟨b1, o1, b2, o2, h1, h2, (hc1 k hk).1, (hc2 k (by omega)).1⟩
  have HQ : Hid (∀ k, k < js.length → (ks.getD k zeroJ).ops = (js.getD k zeroJ).ops ∧ ∀ u, Below w.heap.size w u → Calls Try.prog 20 #[(js.getD k zeroJ).cell, (ks.getD k zeroJ).cell] u fun e w' => e = .returned (.bool true) ∧ Below u.heap.size u w') := fun k hk => by
    have e : (ks.getD k zeroJ).ops = (js.getD k zeroJ).ops := by rw [← opsJ_at, ← opsJ_at, he]
    refine ⟨e, fun u hu => ?_⟩
    obtain ⟨b1, o1, h1, hc1⟩ := (ha.below hu) (by intro e; rw [e] at hk; simp at hk)
    obtain ⟨b2, o2, h2, hc2⟩ := (hb.below hu) (by intro e; rw [e] at hle; simp at hle; omega)
    have r2 := (hc2 k (by omega)).2
    rw [e] at r2
    have := eqOpS_same (js.getD k zeroJ).a (ks.getD k zeroJ).a (js.getD k zeroJ).c (ks.getD k zeroJ).c (js.getD k zeroJ).ops u (hc1 k hk).2 r2 (hl2 _ (jobD_mem js k hk))
    simp only [JobA.cell, e]
    exact this
  rw [hle]
  clear ha hb he hl2
  go_enter Try.func9, Try.ntmps9
  go_wp2
  go_loopw [5] (fun i wr => ∃ k : Nat, k ≤ js.length ∧ i = .int .i64 k ∧ Below w.heap.size w wr) (fun i _ => js.length - (intOf i).toNat)
  case atStart => exact ⟨0, Nat.zero_le _, rfl, Below.refl _ _⟩
  case round =>
    obtain ⟨k, hk, rfl, hbl⟩ := hrel
    by_cases hlt : k < js.length
    · obtain ⟨b1, o1, b2, o2, rfl, rfl, h1, h2⟩ := HC.out wr hbl k hlt
      have HS : Hid (∀ w1, Below w.heap.size w w1 → w1.cell? ⟨b1, o1 + k, none⟩ = some (js.getD k zeroJ).cell ∧ w1.cell? ⟨b2, o2 + k, none⟩ = some (ks.getD k zeroJ).cell) := fun w1 hh => by
        obtain ⟨b1', o1', b2', o2', e1, e2, g1, g2⟩ := HC.out w1 hh k hlt
        cases e1; cases e2
        exact ⟨g1, g2⟩
      have HQk : Hid _ := (HQ.out k hlt).2
      clear HC HQ
      generalize js.getD k zeroJ = z at *
      generalize ks.getD k zeroJ = y at *
      have hh := HS.out wr hbl
      simp only [JobA.cell] at h1 h2 HS HQk hh
      clear h1 h2
      go_wp2_with fail
      go_region_held3 (fun w1 => w1.cell? ⟨b1, o1 + k, none⟩ = some (.slice z.a z.ops.length z.c) ∧ w1.cell? ⟨b2, o2 + k, none⟩ = some (.slice y.a y.ops.length y.c))
        (first | exact HS.out _ hw2 | go_keep | fail)
        ((first | (go_at_call 20; refine (HQk.out _ (hbl.drew)).mono ?_; rintro e w2 ⟨rfl, hb2⟩; have hw2 : Below w.heap.size w w2 := (hbl.drew).trans (hb2.mono hbl.size)) | fail))
      all_goals
        go_wp2_with fail
        go_roundw
        case rel => exact ⟨k + 1, by omega, by go_num, hw2⟩
        case measure => simp [intOf]; omega
    · go_wp2
      go_ret
      exact ⟨rfl, hbl⟩

section
open Go.ChangeShapes Go.WideShapes Go.ChangeAt
variable {H : Type} {enc : TypeId × Value → H} {w : World} {base : Nat} {spare : Nat → Bool} {held : Bool}

theorem Try.cellsOp : Try.prog.cellsOf 77 = 3 := by kernel_rfl
theorem Try.cellsOps : Try.prog.cellsOf 58 = 1 := by kernel_rfl
theorem Try.cellsIq : Try.prog.cellsOf 3 = 1 := by kernel_rfl
theorem some_atQ {α : Type} (xs : List α) (i : Nat) (h : i < xs.length) : ∃ y, xs[i]? = some y := ⟨_, List.getElem?_eq_getElem h⟩
theorem trod_numQ {fuel : Nat} {cs : List Value} {x : DataW H × List MemPlace} (h : DataW.trod enc Try.prog w base spare held fuel 3 cs = some x) : ∃ n : Int, cs = [.int .i64 n] := by
  obtain ⟨n, rfl, _, hw⟩ := DataW.trod_int Try.underlying3 h
  exact ⟨n, rfl⟩

set_option maxRecDepth 100000 in
theorem trod_op {fuel : Nat} {cs : List Value} {x : DataW H × List MemPlace} (h : DataW.trod enc Try.prog w base spare held fuel 77 cs = some x) : ∃ t : OpV, cs = t.cells := by
  obtain ⟨xs, n, _, _, hlen, hxl, hf⟩ := DataW.trod_struct Try.underlying77 h
  rw [Try.cellsOp] at hlen
  match cs, hlen with
  | [v0, v1, v2], _ =>
    have f0 := hf 0 _ rfl
    have f1 := hf 1 _ rfl
    have f2 := hf 2 _ rfl
    obtain ⟨y0, hx0⟩ := some_atQ xs 0 (by rw [hxl]; decide)
    obtain ⟨y1, hx1⟩ := some_atQ xs 1 (by rw [hxl]; decide)
    obtain ⟨y2, hx2⟩ := some_atQ xs 2 (by rw [hxl]; decide)
    rw [hx0] at f0
    rw [hx1] at f1
    rw [hx2] at f2
    simp only [List.getElem_toArray, List.getElem_cons_zero, List.getElem_cons_succ, Try.cellsIq, List.drop, List.take] at f0 f1 f2
    obtain ⟨a, e0⟩ := trod_numQ f0
    obtain ⟨b, e1⟩ := trod_numQ f1
    obtain ⟨c, e2⟩ := trod_numQ f2
    simp only [List.cons.injEq, and_true] at e0 e1 e2
    subst e0 e1 e2
    exact ⟨⟨a, b, c⟩, rfl⟩

set_option maxRecDepth 100000 in
theorem trod_ops {fuel : Nat} {cs : List Value} {x : DataW H × List MemPlace} (h : DataW.trod enc Try.prog w base spare held fuel 58 cs = some x) :
    ∃ (a : Option Addr) (c : Nat) (ls : List OpV), cs = [.slice a ls.length c] ∧ ReadsQ w a ls ∧ ls.length ≤ maxLen := by
  rcases DataW.trod_slice Try.underlying58 h with ⟨rfl, _⟩ | ⟨a, len, cap, elems, rest, n, _, rfl, _, _, hl, hm, hlen, hel, _, _⟩
  · exact ⟨none, 0, [], rfl, ReadsQ.nil _ _, by simp⟩
  rw [Try.cellsOp] at hel
  have each : ∀ i, i < len → ∃ t : OpV, w.cells? base (a.add (i * 3)) 3 = some t.cells := by
    intro i hi
    have hy := hel i hi
    rw [List.getElem?_eq_getElem (by omega : i < elems.length), Option.bind_eq_some_iff] at hy
    obtain ⟨cs', hcs, hy'⟩ := hy
    obtain ⟨t, e⟩ := trod_op hy'
    exact ⟨t, by rw [hcs, e]⟩
  obtain ⟨f, hf⟩ : ∃ f : Nat → OpV, ∀ i, i < len → w.cells? base (a.add (i * 3)) 3 = some (f i).cells := by
    refine ⟨fun i => if h : i < len then (each i h).choose else zeroQ, fun i hi => ?_⟩
    simp only [dif_pos hi]
    exact (each i hi).choose_spec
  refine ⟨some a, cap, (List.range len).map f, by simp, ?_, by simp; omega⟩
  intro hne
  have hpos := List.length_pos_iff.2 hne
  simp only [List.length_map, List.length_range] at hpos ⊢
  obtain ⟨b, off, spot⟩ := a
  have c0 := (World.cells?_some (hf 0 hpos)).2.2 0 (by decide)
  have hspot : spot = none := by simpa [Addr.add] using World.cell?_spot c0
  subst hspot
  refine ⟨b, off, rfl, fun k hk => ?_⟩
  have e : ((List.range len).map f).getD k zeroQ = f k := by simp [List.getD, hk]
  rw [e]
  have hc := (World.cells?_some (hf k hk)).2.2
  have d0 := hc 0 (by decide)
  have d1 := hc 1 (by decide)
  have d2 := hc 2 (by decide)
  simp only [Addr_add, OpV.cells] at d0 d1 d2
  exact ⟨by simpa using d0, by simpa using d1, by simpa using d2⟩

set_option maxRecDepth 100000 in
theorem trod_jobs {fuel : Nat} {cs : List Value} {x : DataW H × List MemPlace} (h : DataW.trod enc Try.prog w base spare held fuel 22 cs = some x) :
    ∃ (a : Option Addr) (c : Nat) (js : List JobA), cs = [.slice a js.length c] ∧ ReadsJ w a js ∧ JobsShort js maxLen := by
  rcases DataW.trod_slice Try.underlying22 h with ⟨rfl, _⟩ | ⟨a, len, cap, elems, rest, n, _, rfl, _, _, hl, hm, hlen, hel, _, _⟩
  · exact ⟨none, 0, [], rfl, ReadsJ.nil _ _, ⟨by simp, by simp⟩⟩
  rw [Try.cellsOps] at hel
  have each : ∀ i, i < len → ∃ t : JobA, w.cells? base (a.add (i * 1)) 1 = some [t.cell] ∧ ReadsQ w t.a t.ops ∧ t.ops.length ≤ maxLen := by
    intro i hi
    have hy := hel i hi
    rw [List.getElem?_eq_getElem (by omega : i < elems.length), Option.bind_eq_some_iff] at hy
    obtain ⟨cs', hcs, hy'⟩ := hy
    obtain ⟨a', c', ls, e, h1, h2⟩ := trod_ops hy'
    exact ⟨⟨ls, a', c'⟩, by rw [hcs, e]; rfl, h1, h2⟩
  obtain ⟨f, hf⟩ : ∃ f : Nat → JobA, ∀ i, i < len → w.cells? base (a.add (i * 1)) 1 = some [(f i).cell] ∧ ReadsQ w (f i).a (f i).ops ∧ (f i).ops.length ≤ maxLen := by
    refine ⟨fun i => if h : i < len then (each i h).choose else zeroJ, fun i hi => ?_⟩
    simp only [dif_pos hi]
    exact (each i hi).choose_spec
  refine ⟨some a, cap, (List.range len).map f, by simp, ?_, ⟨by simp; omega, fun j hj => ?_⟩⟩
  · intro hne
    have hpos := List.length_pos_iff.2 hne
    simp only [List.length_map, List.length_range] at hpos ⊢
    obtain ⟨b, off, spot⟩ := a
    have c0 := (World.cells?_some (hf 0 hpos).1).2.2 0 (by decide)
    have hspot : spot = none := by simpa [Addr.add] using World.cell?_spot c0
    subst hspot
    refine ⟨b, off, rfl, fun k hk => ?_⟩
    have e : ((List.range len).map f).getD k zeroJ = f k := by simp [List.getD, hk]
    rw [e]
    have hc := (World.cells?_some (hf k hk).1).2.2
    have d0 := hc 0 (by decide)
    simp only [Addr_add] at d0
    exact ⟨by simpa using d0, (hf k hk).2.1⟩
  · obtain ⟨k, hk, rfl⟩ := List.mem_map.1 hj
    exact (hf k (List.mem_range.1 hk)).2.2

set_option maxRecDepth 100000 in
theorem open_jobs {b0 : Nat} {v : Value} {d : DataW H} {ps : List MemPlace} (hval : Value.okWide Try.prog w .any b0 22 v) (h : DataW.Trod enc Try.prog w base spare held 22 v d ps) :
    ∃ (a : Option Addr) (c : Nat) (js : List JobA), v = .slice a js.length c ∧ ReadsJ w a js ∧ JobsShort js maxLen := by
  obtain ⟨a, len, cap, hv⟩ := okWide_slice (e := 58) Try.underlying22 hval
  subst hv
  obtain ⟨fuel, hf⟩ := h
  have e : (Value.slice a len cap).cells.toList = [Value.slice a len cap] := rfl
  rw [e] at hf
  obtain ⟨a', c', js, hc, rest⟩ := trod_jobs hf
  simp only [List.cons.injEq, and_true] at hc
  exact ⟨a', c', js, hc, rest⟩
end
end Go.Proofs.Ytelagcpkbcdpdaa
