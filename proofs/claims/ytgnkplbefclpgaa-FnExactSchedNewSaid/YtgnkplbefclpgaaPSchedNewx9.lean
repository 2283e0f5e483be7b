/- Several texts in one, in their order. -/
import Derived.Test.YtgnkplbefclpgaaPSchedNewx8
import Derived.Deep.RegionHeld
import Derived.Test.YtgnkplbefclpgaaPSchedNewx1
set_option maxHeartbeats 8000000
set_option maxRecDepth 100000
namespace Go.Proofs.Ytgnkplbefclpgaa
open Go.RowKit
def markG1 (k0 : Int) (i : Nat) : GrantV := ⟨k0 + 3 * i, k0 + 3 * i + 1, k0 + 3 * i + 1 + 1⟩
def marksG (k0 : Int) (n : Nat) : List GrantV := (List.range n).map fun i : Nat => markG1 k0 i
theorem marksG_len (k0 : Int) (n : Nat) : (marksG k0 n).length = n := by simp [marksG]
theorem marksG_at (k0 : Int) (n i : Nat) (h : i < n) : (marksG k0 n).getD i zeroG = markG1 k0 i := by simp [marksG, List.getD, h]
theorem marksG_succ (k0 : Int) (n : Nat) : marksG k0 (n + 1) = marksG k0 n ++ [markG1 k0 n] := by simp [marksG, List.range_succ]
def markedG (k0 : Int) (xs : List GrantV) (k : Nat) : List GrantV := marksG k0 k ++ xs.drop k
theorem markedG_len (k0 : Int) (xs : List GrantV) (k : Nat) (h : k ≤ xs.length) : (markedG k0 xs k).length = xs.length := by simp [markedG, marksG_len]; omega
theorem markedG_set (k0 : Int) (xs : List GrantV) (k : Nat) (h : k < xs.length) : (markedG k0 xs k).set k (markG1 k0 k) = markedG k0 xs (k + 1) := by
 unfold markedG
 rw [List.set_append, if_neg (by rw [marksG_len]; omega), marksG_len, Nat.sub_self, marksG_succ, List.drop_eq_getElem_cons h, List.set_cons_zero]
 simp
theorem markedG_all (k0 : Int) (xs : List GrantV) : markedG k0 xs xs.length = marksG k0 xs.length := by simp [markedG]
theorem markGrantS_any (base : Nat) (a : Option Addr) (cap : Nat) (k0 : Int) (xs : List GrantV) (w : World)
  (hown : w.ownsRow base 102 3 (.slice a xs.length cap) xs.length (cellsG xs)) (h0 : 0 ≤ k0) (hl : k0 + 3 * xs.length ≤ 4611686018427387904) :
  Calls Try.prog 48 #[.slice a xs.length cap, .int .i64 k0] w fun e w' => e = .returned (.int .i64 (k0 + 3 * xs.length)) ∧
   w'.ownsRow base 102 3 (.slice a xs.length cap) xs.length (cellsG (marksG k0 xs.length)) ∧ w.grownBy w' (Value.slice a xs.length cap).ownBlock := by
 have hlen := hown.1
 rcases hown.2 with ⟨hv, h00⟩ | ⟨g, cap', cur, hv, hg, hgg, hr⟩
 ·simp only [Value.slice.injEq] at hv
  obtain ⟨rfl, h00', rfl⟩ := hv
  obtain rfl := List.length_eq_zero_iff.1 h00
  go_enter Try.func48, Try.ntmps48
  go_wp2
  refine wp_loop_rounds 1 ?_
  rw [rounds_succ]
  go_wp2
  go_ret
  exact ⟨by simp, hown, World.grownBy.refl _ _⟩
 ·simp only [Value.slice.injEq] at hv
  obtain ⟨rfl, _, rfl⟩ := hv
  clear hgg hr hlen
  have hM : w.ownsRow base 102 3 (.slice (some ⟨g, 0, none⟩) xs.length cap) xs.length (cellsG (markedG k0 xs 0)) := by simpa [markedG, marksG] using hown
  clear hown
  go_enter Try.func48, Try.ntmps48
  go_wp2
  go_loopw [1, 5] (fun kk i wr => ∃ k : Nat, k ≤ xs.length ∧ i = .int .i64 k ∧ kk = .int .i64 (k0 + 3 * k) ∧ wr.ownsRow base 102 3 (.slice (some ⟨g, 0, none⟩) xs.length cap) xs.length (cellsG (markedG k0 xs k)) ∧ w.grownBy wr (some g))
   (fun _ i _ => xs.length - (intOf i).toNat)
  case atStart => exact ⟨0, Nat.zero_le _, rfl, by simp, hM, World.grownBy.refl _ _⟩
  case round =>
   obtain ⟨k, hk, rfl, rfl, hown, hgr⟩ := hrel
   clear hM
   by_cases hlt : k < xs.length
   ·have hp := markedG_len k0 xs k hk
    obtain ⟨x0, x1, x2, hfz⟩ := row_grant hown hp k hlt
    have f0 := hfz (k * 3)
    have f1 := hfz (k * 3 + 1)
    have f2 := hfz (k * 3 + 2)
    obtain ⟨W2, hW2, ho2, hg2⟩ := row_storeG hown hp k hlt (markG1 k0 k)
    rw [markedG_set k0 xs k hlt] at ho2
    have HH : Hid (_ ∧ _) := ⟨ho2, grownBy_trans hgr hg2⟩
    clear ho2 hg2 hfz hown hgr
    generalize (markedG k0 xs k).getD k zeroG = old at *
    simp only [markG1] at hW2
    go_wp2
    rw [hW2.out]
    go_roundw
    case rel => exact ⟨k + 1, by omega, by go_num, by go_num, HH.out.1, HH.out.2⟩
    case measure => simp [intOf]; omega
   ·have HE : Hid (wr.ownsRow base 102 3 (.slice (some ⟨g, 0, none⟩) xs.length cap) xs.length (cellsG (marksG k0 xs.length)) ∧ k = xs.length) := by
     have e : k = xs.length := by omega
     rw [e, markedG_all] at hown
     exact ⟨hown, e⟩
    go_wp2
    go_ret
    exact ⟨ret_int (by have := HE.out.2; omega), HE.out.1, hgr⟩
theorem markGrantS_own (lo hi : Nat) (a : Option Addr) (cap : Nat) (k0 : Int) (xs : List GrantV) (w : World) (ho : OwnG w lo hi a cap xs) (h0 : 0 ≤ k0) (hl : k0 + 3 * xs.length ≤ 4611686018427387904) :
  Calls Try.prog 48 #[.slice a xs.length cap, .int .i64 k0] w fun e w' => e = .returned (.int .i64 (k0 + 3 * xs.length)) ∧
   OwnG w' lo hi a cap (marksG k0 xs.length) ∧ Touch (Value.slice a xs.length cap).ownBlock.toList w w' := by
 refine (markGrantS_any lo a cap k0 xs w ho.1 h0 hl).mono ?_
 rintro e w' ⟨rfl, h1, h2⟩
 refine ⟨rfl, ⟨by rw [marksG_len]; exact h1, Nat.le_trans ho.2.1 h2.size, by rw [marksG_len]; exact ho.2.2⟩, Touch.of_grown h2 (fun j hj => Option.mem_toList.2 hj)⟩
theorem heldGrantS_any (a : Option Addr) (cap : Nat) (k0 : Int) (n : Nat) (w : World) (hr : ReadsG w a (marksG k0 n)) (h0 : 0 ≤ k0) (hl : k0 + 3 * n ≤ 4611686018427387904) :
  Calls Try.prog 54 #[.slice a n cap, .int .i64 k0] w fun e w' => e = .returned (.int .i64 (k0 + 3 * n)) ∧ w' = w := by
 rcases hr.cases with h | ⟨b, off, rfl, hpos, hcell⟩
 ·have h' := congrArg List.length h
  rw [marksG_len] at h'
  simp at h'
  subst h'
  go_enter Try.func54, Try.ntmps54
  go_wp2
  refine wp_loop_rounds 1 ?_
  rw [rounds_succ]
  go_wp2
  go_ret
  exact ⟨by simp, rfl⟩
 ·rw [marksG_len] at hpos hcell
  go_enter Try.func54, Try.ntmps54
  go_wp2
  go_loop [1, 5] (fun kk i => ∃ k : Nat, k ≤ n ∧ i = .int .i64 k ∧ kk = .int .i64 (k0 + 3 * k)) (fun _ i => n - (intOf i).toNat)
  case atStart => exact ⟨0, Nat.zero_le _, rfl, by simp⟩
  case round =>
   obtain ⟨k, hk, rfl, rfl⟩ := hrel
   by_cases hlt : k < n
   ·obtain ⟨c0, c1, c2⟩ := hcell k hlt
    rw [marksG_at k0 n k hlt] at c0 c1 c2
    simp only [markG1] at c0 c1 c2
    clear hcell
    go_wp2
    go_round
    case rel => exact ⟨k + 1, by omega, by go_num, by go_num⟩
    case measure => simp [intOf]; omega
   ·have HE : Hid (k = n) := by show k = n; omega
    go_wp2
    go_ret
    exact ⟨ret_int (by have := HE.out; omega), rfl⟩
end Go.Proofs.Ytgnkplbefclpgaa
namespace Go.Proofs.Ytgnkplbefclpgaa
def unl (l : Array Bool) : Nat := l.toList.countP (fun b => !b)
theorem unl_set {l : Array Bool} {i : Nat} (h : l.getD i true = false) : unl l = unl (l.setIfInBounds i true) + 1 := by
 obtain ⟨xs⟩ := l
 have hi : xs[i]? = some false := by
  simp only [Array.getD_eq_getD_getElem?, List.getElem?_toArray] at h
  cases hx : xs[i]? with
  | none => rw [hx] at h; cases h
  | some b => rw [hx] at h; simp at h; rw [h]
 simp only [unl, List.setIfInBounds_toArray]
 clear h
 induction xs generalizing i with
 | nil => simp at hi
 | cons x r ih =>
  cases i with
  | zero => simp at hi; subst hi; simp
  | succ i =>
   simp only [List.getElem?_cons_succ] at hi
   have := ih hi
   simp only [List.set_cons_succ, List.countP_cons]
   omega
theorem ready_at {md : Region.Mode} {ops : Array Oper} {l : Array Bool} {i : Nat} (h : i ∈ Region.ready md ops l) : l.getD i true = false := (mem_ready.1 h).1
theorem wpAnyH_inv {P : Program} {ops : Array Oper} {Q : Exit → Act → World → Prop} {md : Region.Mode} {S : World → Prop} (I : Array Bool → Act → World → Prop) (stop : Array Bool → Bool)
  (hstep : ∀ l a w, I l a w → stop l = false → Region.ready md ops l ≠ [] ∧ ∀ i ∈ Region.ready md ops l, wpOp P ops Q i (fun a' w' => S w' ∧ I (l.setIfInBounds i true) a' w') a w)
  (hstop : ∀ l a w, I l a w → stop l = true → wpAnyH P md ops Q S (unl l) l a w) :
  ∀ (k : Nat) (l : Array Bool) (a : Act) (w : World), unl l = k → I l a w → wpAnyH P md ops Q S k l a w := by
 intro k
 induction k with
 | zero =>
  intro l a w hk hI
  cases hs : stop l with
  | true => have := hstop l a w hI hs; rw [hk] at this; exact this
  | false =>
   obtain ⟨hne, _⟩ := hstep l a w hI hs
   cases hr : Region.ready md ops l with
   | nil => exact absurd hr hne
   | cons i r =>
    have := unl_set (ready_at (md := md) (ops := ops) (l := l) (i := i) (by rw [hr]; exact List.mem_cons_self))
    omega
 | succ k ih =>
  intro l a w hk hI
  cases hs : stop l with
  | true => have := hstop l a w hI hs; rw [hk] at this; exact this
  | false =>
   obtain ⟨hne, hall⟩ := hstep l a w hI hs
   refine ⟨fun h0 => absurd h0 hne, fun i hi => ?_⟩
   have hu := unl_set (ready_at hi)
   exact wpOp_mono (fun a' w' h => ⟨h.1, ih _ a' w' (by omega) h.2⟩) (hall i hi)
theorem wpOp_inv {P : Program} {ops : Array Oper} {Q : Exit → Act → World → Prop} {i : Nat} {o : Oper} {a : Act} {w : World} {K : Act → World → Prop} (ho : ops[i]? = some o)
  (h : ∀ K' : Act → World → Prop, Shut (∀ a w, K a w → K' a w) → if Region.wanted o (yielded ops a.tmps) = true then Oper.wp P o a w K' Q else K' (a.put o.dst undef) w) : wpOp P ops Q i K a w :=
 wpOp_step ho (fun K' hK => h K' hK)
theorem inv_step {P : Program} {ops : Array Oper} {Q : Exit → Act → World → Prop} {md : Region.Mode} {l : Array Bool} {a : Act} {w : World} {K : Nat → Act → World → Prop} (alt : Nat → Bool) (hr : (!(Region.ready md ops l).isEmpty && (Region.ready md ops l).all alt) = true)
  (h : ∀ j, alt j = true → wpOp P ops Q j (K j) a w) : Region.ready md ops l ≠ [] ∧ ∀ i ∈ Region.ready md ops l, wpOp P ops Q i (K i) a w := by
 rw [Bool.and_eq_true, List.all_eq_true] at hr
 refine ⟨fun h0 => ?_, fun i hi => h i (hr.2 i hi)⟩
 rw [h0] at hr
 exact absurd hr.1 (by simp)
end Go.Proofs.Ytgnkplbefclpgaa