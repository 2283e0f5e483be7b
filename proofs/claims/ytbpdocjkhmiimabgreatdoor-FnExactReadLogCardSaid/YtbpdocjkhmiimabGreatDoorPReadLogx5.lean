/- Several texts in one, in their order. -/
import Derived.Test.YtbpdocjkhmiimabGreatDoorProg
import Derived.Test.YtbpdocjkhmiimabGreatDoorPReadLogx1
import Derived.Deep.QuietTactic
import Derived.BigQuiet
import Derived.Test.YtbpdocjkhmiimabGreatDoorPReadLogx4
import Derived.WalkSmall
/- The walk of laws.eqByteS. -/
namespace Go.Proofs.YtbpdocjkhmiimabGreatDoor
open Go.RowKit

set_option maxHeartbeats 400000 in
/-- Two slices that read alike are alike. -/
theorem eqByteS_same (a b : Option Addr) (ca cb : Nat) (zs : List Int) (w : World) (ha : Reads w a zs) (hb : Reads w b zs) (hl : zs.length ≤ 140737488351232) :
    Calls Tryz.prog 15 #[.slice a zs.length ca, .slice b zs.length cb] w fun e w' => e = .returned (.bool true) ∧ ∃ n, w' = w.drewN n := by
  rcases ha.cases with rfl | ⟨b1, o1, rfl, hpos, hc1⟩
  · go_enter Tryz.func15, Tryz.ntmps15
    go_wp2
    refine wp_loop_rounds 1 ?_
    rw [rounds_succ]
    go_wp2
    go_ret
    exact ⟨rfl, 0, rfl⟩
  · rcases hb.cases with rfl | ⟨b2, o2, rfl, _, hc2⟩
    · simp at hpos
    · go_enter Tryz.func15, Tryz.ntmps15
      go_wp2
      go_loopw [5] (fun i wr => ∃ k : Nat, k ≤ zs.length ∧ i = .int .i64 k ∧ ∃ n, wr = w.drewN n) (fun i _ => zs.length - (intOf i).toNat)
      case atStart => exact ⟨0, Nat.zero_le _, rfl, 0, rfl⟩
      case round =>
        obtain ⟨k, hk, rfl, n, rfl⟩ := hrel
        by_cases hlt : k < zs.length
        · have h1 := hc1 k hlt
          have h2 := hc2 k hlt
          clear hc1 hc2
          generalize zs.getD k 0 = z at *
          go_wp2
          go_quiet (fail)
          go_wp2
          go_roundw
          case rel => exact ⟨k + 1, by omega, by go_num, _, rfl⟩
          case measure => simp [intOf]; omega
        · go_wp2
          go_ret
          exact ⟨rfl, n, rfl⟩
end Go.Proofs.YtbpdocjkhmiimabGreatDoor

/- What is owned stays so while another row is written; marks by OwnB. -/
namespace Go.Proofs.YtbpdocjkhmiimabGreatDoor
open Go.RowKit

theorem OwnB.kept {w w' : World} {base : Nat} {a : Option Addr} {c : Nat} {ys : List Int} {row : Option Nat} (h : OwnB w base a c ys) (hg : w.grownBy w' row)
    (hne : ∀ k, (Value.slice a ys.length c).ownBlock = some k → row ≠ some k) : OwnB w' base a c ys := by
  refine ⟨h.1, h.2.kept hg ?_⟩
  cases hv : (Value.slice a ys.length c).ownBlock with
  | none => exact .inl rfl
  | some k => exact .inr fun e => hne k hv e.symm

theorem OwnB.drewN {w : World} {base : Nat} {a : Option Addr} {c : Nat} {ys : List Int} (h : OwnB w base a c ys) (n : Nat) : OwnB (w.drewN n) base a c ys := h.below (below_drewN (Below.refl _ _) n)

theorem OwnB.lt {w : World} {base : Nat} {a : Option Addr} {c : Nat} {ys : List Int} (h : OwnB w base a c ys) : ∀ k, (Value.slice a ys.length c).ownBlock = some k → base ≤ k ∧ k < w.heap.size := h.2.lt

theorem toByteS_own (a : Option Addr) (cap : Nat) (zs : List Int) (w : World) (hr : Reads w a zs) (hl : zs.length ≤ 140737488351232) :
    Calls Tryz.prog 19 #[.slice a zs.length cap] w fun e w' => ∃ a' c', e = .returned (.slice a' zs.length c') ∧ OwnB w' w.heap.size a' c' zs ∧ Below w.heap.size w w' := by
  refine (toByteS_any a cap zs w hr hl).mono ?_
  rintro e w' ⟨rfl, ho, hb⟩
  exact ⟨_, _, rfl, ⟨hr.byte, ho⟩, hb⟩

theorem markByteS_own (base : Nat) (a : Option Addr) (cap : Nat) (k0 : Int) (xs : List Int) (w : World) (ho : OwnB w base a cap xs) (h0 : 0 ≤ k0) (hl : k0 + xs.length ≤ 4611686018427387904) :
    Calls Tryz.prog 16 #[.slice a xs.length cap, .int .i64 k0] w fun e w' => ∃ ms, e = .returned (.int .i64 (k0 + xs.length)) ∧ Hid (ms = marks k0 xs.length ∧ ms.length = xs.length) ∧ OwnB w' base a cap ms ∧ w.grownBy w' (Value.slice a xs.length cap).ownBlock := by
  refine (markByteS_any base a cap k0 xs w ho.2 h0 hl).mono ?_
  rintro e w' ⟨rfl, h1, h2⟩
  refine ⟨marks k0 xs.length, rfl, ⟨rfl, marks_len _ _⟩, ⟨marks_byte _ _, ?_⟩, h2⟩
  rw [marks_len]
  exact h1

theorem heldByteS_own (base : Nat) (a : Option Addr) (cap : Nat) (k0 : Int) (n : Nat) (ms : List Int) (w : World) (ho : OwnB w base a cap ms) (hm : Hid (ms = marks k0 n ∧ ms.length = n)) (h0 : 0 ≤ k0) (hl : k0 + n ≤ 4611686018427387904) :
    Calls Tryz.prog 17 #[.slice a n cap, .int .i64 k0] w fun e w' => e = .returned (.int .i64 (k0 + n)) ∧ w' = w :=
  heldByteS_any a cap k0 n w (by have h := ho.reads; rw [hm.out.1] at h; exact h) h0 hl

end Go.Proofs.YtbpdocjkhmiimabGreatDoor

/- No longer than its capacity; a beginning of what is owned. -/
namespace Go.Proofs.YtbpdocjkhmiimabGreatDoor
open Go.RowKit

theorem OwnB.len_cap {w : World} {base : Nat} {a : Option Addr} {c : Nat} {ys : List Int} (h : OwnB w base a c ys) : ys.length ≤ c := by
  rcases h.2.2 with ⟨hv, h0⟩ | ⟨g, cap, cur, hv, _, _, hn, _⟩
  · omega
  · simp only [Value.slice.injEq] at hv
    omega

theorem own_prefix {w : World} {base : Nat} {a : Option Addr} {c : Nat} {ys : List Int} (h : OwnB w base a c ys) (k : Nat) : Reads w a (ys.take k) := by
  refine ⟨fun z hz => h.1 z (List.mem_of_mem_take hz), fun hne => ?_⟩
  have hy : ys ≠ [] := by intro e; simp [e] at hne
  obtain ⟨b, off, ha, hc⟩ := h.reads.2 hy
  refine ⟨b, off, ha, fun i hi => ?_⟩
  have hi2 : i < k ∧ i < ys.length := by simp at hi; omega
  rw [hc i hi2.2]
  have : (ys.take k).getD i 0 = ys.getD i 0 := by simp [List.getD, hi2.1]
  rw [this]

end Go.Proofs.YtbpdocjkhmiimabGreatDoor

/- Rows of bytes by spans: what is owned from lo up to hi; marks. -/
namespace Go.Proofs.YtbpdocjkhmiimabGreatDoor
open Go.RowKit

/-- The slice at a owns the bytes ys; its row lies from lo up to hi. -/
def OwnR (w : World) (lo hi : Nat) (a : Option Addr) (c : Nat) (ys : List Int) : Prop := OwnB w lo a c ys ∧ hi ≤ w.heap.size ∧ ∀ k, (Value.slice a ys.length c).ownBlock = some k → k < hi

theorem OwnB.spanned {w : World} {lo : Nat} {a : Option Addr} {c : Nat} {ys : List Int} (h : OwnB w lo a c ys) : OwnR w lo w.heap.size a c ys := ⟨h, Nat.le_refl _, fun k hk => (h.2.lt k hk).2⟩
theorem OwnR.lt {w : World} {lo hi : Nat} {a : Option Addr} {c : Nat} {ys : List Int} (h : OwnR w lo hi a c ys) : ∀ k, (Value.slice a ys.length c).ownBlock = some k → lo ≤ k ∧ k < hi := fun k hk => ⟨(h.1.2.lt k hk).1, h.2.2 k hk⟩
theorem OwnR.reads {w : World} {lo hi : Nat} {a : Option Addr} {c : Nat} {ys : List Int} (h : OwnR w lo hi a c ys) : Reads w a ys := h.1.reads
theorem OwnR.within {w w' : World} {lo hi l r : Nat} {a : Option Addr} {c : Nat} {ys : List Int} (h : OwnR w lo hi a c ys) (hw : Within l r w w') (hd : hi ≤ l ∨ r ≤ lo) : OwnR w' lo hi a c ys :=
  ⟨⟨h.1.1, ownsRow_block h.1.2 (fun k hk => hw.block k (by have := h.2.2 k hk; have := h.2.1; omega) (by have := h.lt k hk; omega))⟩, Nat.le_trans h.2.1 hw.size, h.2.2⟩
theorem OwnR.below {w w' : World} {lo hi : Nat} {a : Option Addr} {c : Nat} {ys : List Int} (h : OwnR w lo hi a c ys) (hb : Below w.heap.size w w') : OwnR w' lo hi a c ys :=
  h.within (Within.of_below (lo := w.heap.size) (hi := w.heap.size) hb) (.inl h.2.1)

theorem markByteS_r (lo hi : Nat) (a : Option Addr) (cap : Nat) (k0 : Int) (xs : List Int) (w : World) (ho : OwnR w lo hi a cap xs) (h0 : 0 ≤ k0) (hl : k0 + xs.length ≤ 4611686018427387904) :
    Calls Tryz.prog 16 #[.slice a xs.length cap, .int .i64 k0] w fun e w' => ∃ ms, e = .returned (.int .i64 (k0 + xs.length)) ∧ Hid (ms = marks k0 xs.length ∧ ms.length = xs.length) ∧ OwnR w' lo hi a cap ms ∧ Within lo hi w w' := by
  refine (markByteS_own lo a cap k0 xs w ho.1 h0 hl).mono ?_
  rintro e w' ⟨ms, rfl, hm, ho', hg⟩
  refine ⟨ms, rfl, hm, ⟨ho', Nat.le_trans ho.2.1 hg.size, ?_⟩, Within.of_grown hg (fun k hk => ho.lt k hk)⟩
  rw [hm.out.2]
  exact ho.2.2
theorem heldByteS_r (lo hi : Nat) (a : Option Addr) (cap : Nat) (k0 : Int) (n : Nat) (ms : List Int) (w : World) (ho : OwnR w lo hi a cap ms) (hm : Hid (ms = marks k0 n ∧ ms.length = n)) (h0 : 0 ≤ k0) (hl : k0 + n ≤ 4611686018427387904) :
    Calls Tryz.prog 17 #[.slice a n cap, .int .i64 k0] w fun e w' => e = .returned (.int .i64 (k0 + n)) ∧ w' = w :=
  heldByteS_own lo a cap k0 n ms w ho.1 hm h0 hl
end Go.Proofs.YtbpdocjkhmiimabGreatDoor
