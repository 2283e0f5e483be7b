/- Several texts in one, in their order. -/
import Derived.Test.YtajcffchopcamaaGreatDoorPFnPathsx24
import Derived.Deep.RegionHeld3
import Derived.Test.YtajcffchopcamaaGreatDoorPFnPathsx17
import Derived.Test.YtajcffchopcamaaGreatDoorPFnPathsx15
import Derived.Shelf.Lay
import Derived.Test.YtajcffchopcamaaGreatDoorPFnPathsx22
import Derived.Test.YtajcffchopcamaaGreatDoorPFnPathsx23
import Derived.Test.YtajcffchopcamaaGreatDoorPFnPathsx14
import Derived.Lib.SlKeysI
import Derived.Maps.OwnSet
/- The walks of the ways of a path's steps: (impl.walk).nth, all, deep, ofKind, over. -/
namespace Go.Proofs.YtajcffchopcamaaGreatDoor
open Go.RowKit

set_option maxHeartbeats 2000000 in
set_option maxRecDepth 100000 in
theorem ofKind_any (b off c : Nat) (vs : List SlotV) (k : Nat) (hk : k < 32) (n : Int) (w : World) (hv : VwI w b off vs) :
    Calls Tryz.prog 87 #[.agg #[.slice (some ⟨b, off, none⟩) 32 c], .int .i64 (k : Int), .int .i64 n] w fun e w' => ReachAns w (comesL vs ⟨4, n⟩ k) e w' := by
  obtain ⟨W, hW, b0, hbW, hsW⟩ := boxes1 w [.slice (some ⟨b, off, none⟩) 32 c] 70
  have q0 := b0.cell 0 _ rfl
  obtain ⟨aI, cI, aR, cR, hO⟩ := hv.obj k hk
  obtain ⟨o1, -, -, -, -⟩ := hO W hbW
  have hkI : (k : Int) < 32 := by omega
  rw [comes_4]
  have C : ∀ is : Bool, Calls Tryz.prog 110 #[.bool is, .int .i64 (k : Int)] W fun e w' => ReachAns W (if is = true then [(k : Int)] else []) e w' := fun is => onlyIf_any is k W
  have HOUT : Hid (∀ R e w', ReachAns W R e w' → ReachAns w R e w') := fun R e w' ⟨a, c, h1, h2, h3⟩ => ⟨a, c, h1, h2.widen hbW.size (Nat.le_refl _) (Nat.le_refl _), hbW.trans (h3.mono hbW.size)⟩
  clear b0 hsW hv hO
  generalize kindM vs k = kn at *
  by_cases hkn : kn = n
  · subst hkn
    rw [if_pos rfl]
    have CT := C true
    rw [if_pos rfl] at CT
    clear C
    go_enter Tryz.func87, Tryz.ntmps87
    go_upto_region 1 with fail
    rw [hW.out]
    clear hW
    go_wp2_with fail
    refine CT.mono ?_
    rintro e w1 hA
    obtain ⟨a, c', rfl, h2, h3⟩ := HOUT.out _ _ _ hA
    clear HOUT hA CT
    go_wp2
    go_ret
    exact ⟨a, c', rfl, h2, h3⟩
  · rw [if_neg hkn]
    have CT := C false
    rw [if_neg (by decide)] at CT
    have e1 : (kn == n) = false := by simpa using hkn
    clear C hkn
    go_enter Tryz.func87, Tryz.ntmps87
    go_upto_region 1 with fail
    rw [hW.out]
    clear hW
    go_wp2_with fail
    refine CT.mono ?_
    rintro e w1 hA
    obtain ⟨a, c', rfl, h2, h3⟩ := HOUT.out _ _ _ hA
    clear HOUT hA CT
    go_wp2
    go_ret
    exact ⟨a, c', rfl, h2, h3⟩

set_option maxHeartbeats 2000000 in
set_option maxRecDepth 100000 in
theorem over_any (b off c : Nat) (vs : List SlotV) (k : Nat) (hk : k < 32) (n : Int) (w : World) (hv : VwI w b off vs) :
    Calls Tryz.prog 88 #[.agg #[.slice (some ⟨b, off, none⟩) 32 c], .int .i64 (k : Int), .int .i64 n] w fun e w' => ReachAns w (comesL vs ⟨5, n⟩ k) e w' := by
  obtain ⟨W, hW, b0, b1, hbW, hsW⟩ := boxes2 w [.slice (some ⟨b, off, none⟩) 32 c] [.int .i64 n] 70 3
  have q0 := b0.cell 0 _ rfl
  obtain ⟨aI, cI, aR, cR, hO⟩ := hv.obj k hk
  obtain ⟨-, o2, -, hI, -⟩ := hO W hbW
  have hkI : (k : Int) < 32 := by omega
  rw [comes_5]
  have CF := containsFunc_any n (w.heap.size + 1) (intsM vs k) aI cI W hI (by have := hv.ints k; omega) (b1.cell 0 _ rfl)
  have C := onlyIf_any (overB n (intsM vs k)) k W
  have HOUT : Hid (∀ R e w', ReachAns W R e w' → ReachAns w R e w') := fun R e w' ⟨a, c, h1, h2, h3⟩ => ⟨a, c, h1, h2.widen hbW.size (Nat.le_refl _) (Nat.le_refl _), hbW.trans (h3.mono hbW.size)⟩
  clear b0 b1 hsW hv hO hI
  generalize (if overB n (intsM vs k) = true then [(k : Int)] else []) = RR at *
  generalize overB n (intsM vs k) = B at *
  generalize (intsM vs k).length = ln at *
  go_enter Tryz.func88, Tryz.ntmps88
  go_upto_region 1 with fail
  rw [hW.out]
  clear hW
  go_wp2_with fail
  refine CF.mono ?_
  rintro e w1 ⟨rfl, rfl⟩
  clear CF
  go_wp2_with fail
  refine C.mono ?_
  rintro e w2 hA
  obtain ⟨a, c', rfl, h2, h3⟩ := HOUT.out _ _ _ hA
  clear HOUT hA C
  go_wp2
  go_ret
  exact ⟨a, c', rfl, h2, h3⟩

set_option maxHeartbeats 2000000 in
set_option maxRecDepth 100000 in
theorem deep_any (b off c : Nat) (vs : List SlotV) (k : Nat) (n : Int) (w : World) (hR : ∀ u, Below w.heap.size w u → Calls Tryz.prog 13 #[.slice (some ⟨b, off, none⟩) 32 c, .int .i64 (k : Int)] u fun e w' => ReachAns u (reachL (runM vs 40 k).met) e w') :
    Calls Tryz.prog 86 #[.agg #[.slice (some ⟨b, off, none⟩) 32 c], .int .i64 (k : Int), .int .i64 n] w fun e w' => ReachAns w (comesL vs ⟨3, n⟩ k) e w' := by
  obtain ⟨W, hW, b0, hbW, hsW⟩ := boxes1 w [.slice (some ⟨b, off, none⟩) 32 c] 70
  have q0 := b0.cell 0 _ rfl
  rw [comes_3]
  have C := hR W hbW
  have HOUT : Hid (∀ R e w', ReachAns W R e w' → ReachAns w R e w') := fun R e w' ⟨a, c, h1, h2, h3⟩ => ⟨a, c, h1, h2.widen hbW.size (Nat.le_refl _) (Nat.le_refl _), hbW.trans (h3.mono hbW.size)⟩
  clear b0 hsW hR
  generalize reachL (runM vs 40 k).met = RR at *
  go_enter Tryz.func86, Tryz.ntmps86
  go_upto_region 1 with fail
  rw [hW.out]
  clear hW
  go_wp2_with fail
  refine C.mono ?_
  rintro e w2 hA
  obtain ⟨a, c', rfl, h2, h3⟩ := HOUT.out _ _ _ hA
  clear HOUT hA C
  go_wp2
  go_ret
  exact ⟨a, c', rfl, h2, h3⟩

set_option maxHeartbeats 2000000 in
set_option maxRecDepth 100000 in
theorem all_any (b off c : Nat) (vs : List SlotV) (k : Nat) (hk : k < 32) (n : Int) (w : World) (hv : VwI w b off vs) :
    Calls Tryz.prog 85 #[.agg #[.slice (some ⟨b, off, none⟩) 32 c], .int .i64 (k : Int), .int .i64 n] w fun e w' => ReachAns w (comesL vs ⟨2, n⟩ k) e w' := by
  obtain ⟨W, hW, b0, hbW, hsW⟩ := boxes1 w [.slice (some ⟨b, off, none⟩) 32 c] 70
  obtain ⟨aI, cI, aR, cR, hO⟩ := hv.obj k hk
  have hkI : (k : Int) < 32 := by omega
  rw [comes_2]
  have HC : Hid (∀ u, Below W.heap.size W u → Calls Tryz.prog 34 #[.agg #[.slice (some ⟨b, off, none⟩) 32 c], .slice aR (refsM vs k).length cR] u fun e w' => ReachAns u ((refsM vs k).filter (hasM vs)) e w') := fun u hu => there_any b off c vs (refsM vs k) aR cR u (hv.below (hbW.trans (hu.mono hbW.size))) (hO u (hbW.trans (hu.mono hbW.size))).2.2.2.2 (hv.rng k) (by have := hv.refs k; omega)
  have HOUT : Hid (∀ u R e w', Below W.heap.size W u → ReachAns u R e w' → ReachAns w R e w') := fun u R e w' hu ⟨a, c, h1, h2, h3⟩ => ⟨a, c, h1, h2.widen (Nat.le_trans hbW.size hu.size) (Nat.le_refl _) (Nat.le_refl _), (hbW.trans (hu.mono hbW.size)).trans (h3.mono (Nat.le_trans hbW.size hu.size))⟩
  have HK : Hid (∀ u, Below W.heap.size W u → u.cell? ⟨w.heap.size, 0, none⟩ = some (.slice (some ⟨b, off, none⟩) 32 c) ∧ u.cell? ⟨b, off + k * 4 + 3, none⟩ = some (.slice aR (refsM vs k).length cR)) := fun u hu => ⟨(b0.below hu b0.lt).cell 0 _ rfl, (hO u (hbW.trans (hu.mono hbW.size))).2.2.1⟩
  clear b0 hsW hv hO
  generalize (refsM vs k).filter (hasM vs) = RR at *
  generalize (refsM vs k).length = ln at *
  go_enter Tryz.func85, Tryz.ntmps85
  go_upto_region 1 with fail
  rw [hW.out]
  clear hW
  have hh := HK.out W (Below.refl _ _)
  go_region_held3 (fun u => u.cell? ⟨w.heap.size, 0, none⟩ = some (.slice (some ⟨b, off, none⟩) 32 c) ∧ u.cell? ⟨b, off + k * 4 + 3, none⟩ = some (.slice aR ln cR))
    (first | exact HK.out _ hw1 | go_keep)
    (first
    | (go_at_call 34; refine (HC.out _ ((Below.refl _ _).drew)).mono ?_; rintro e w1 ⟨a, c', rfl, h2, h3⟩; have hw1 : Below W.heap.size W w1 := (Below.refl _ _).drew.trans h3)
    | fail)
  obtain ⟨a', c'', e', h2', h3'⟩ := HOUT.out _ _ _ _ ((Below.refl _ _).drew) ⟨a, c', rfl, h2, h3⟩
  go_wp2
  go_ret
  exact ⟨a', c'', e', h2', h3'⟩

set_option maxHeartbeats 2000000 in
set_option maxRecDepth 100000 in
theorem nth_any (b off c : Nat) (vs : List SlotV) (k : Nat) (hk : k < 32) (m : Nat) (w : World) (hv : VwI w b off vs) :
    Calls Tryz.prog 84 #[.agg #[.slice (some ⟨b, off, none⟩) 32 c], .int .i64 (k : Int), .int .i64 (m : Int)] w fun e w' => ReachAns w (comesL vs ⟨1, m⟩ k) e w' := by
  obtain ⟨W, hW, b0, hbW, hsW⟩ := boxes1 w [.slice (some ⟨b, off, none⟩) 32 c] 70
  have q0 := b0.cell 0 _ rfl
  obtain ⟨aI, cI, aR, cR, hO⟩ := hv.obj k hk
  obtain ⟨-, -, o3, -, hR⟩ := hO W hbW
  have hkI : (k : Int) < 32 := by omega
  rw [comes_1, Int.toNat_natCast]
  have hL5 := hv.refs k
  by_cases hm : m < (refsM vs k).length
  · rw [if_pos hm]
    obtain ⟨bf, of, rfl, hcf⟩ := hR (by intro e; rw [e] at hm; simp at hm)
    have f0 := hcf m hm
    have hrr := hv.rng k _ (mem_getDM hm)
    have HC : Hid (∀ u, Below W.heap.size W u → ∀ g, ReadsI u (some ⟨g, 0, none⟩) [(refsM vs k).getD m 0] → Calls Tryz.prog 34 #[.agg #[.slice (some ⟨b, off, none⟩) 32 c], .slice (some ⟨g, 0, none⟩) 1 1] u fun e w' => ReachAns u ([(refsM vs k).getD m 0].filter (hasM vs)) e w') := fun u hu g hg => there_any b off c vs [(refsM vs k).getD m 0] (some ⟨g, 0, none⟩) 1 u (hv.below (hbW.trans (hu.mono hbW.size))) hg (fun r hr => by simp at hr; rw [hr]; simpa [List.getD] using hrr) (by simp)
    have HOUT : Hid (∀ u R e w', Below W.heap.size W u → ReachAns u R e w' → ReachAns w R e w') := fun u R e w' hu ⟨a, c, h1, h2, h3⟩ => ⟨a, c, h1, h2.widen (Nat.le_trans hbW.size hu.size) (Nat.le_refl _) (Nat.le_refl _), (hbW.trans (hu.mono hbW.size)).trans (h3.mono (Nat.le_trans hbW.size hu.size))⟩
    have HK : Hid (∀ u, Below W.heap.size W u → u.cell? ⟨w.heap.size, 0, none⟩ = some (.slice (some ⟨b, off, none⟩) 32 c) ∧ u.cell? ⟨bf, of + m, none⟩ = some (.int .i64 ((refsM vs k).getD m 0))) := fun u hu => by
      refine ⟨(b0.below hu b0.lt).cell 0 _ rfl, ?_⟩
      rw [hu.cell (p := ⟨bf, of + m, none⟩) (block_lt f0)]
      exact f0
    clear b0 hsW hv hO hR hcf f0 hrr
    have hmI : (m : Int) < ((refsM vs k).length : Int) := by omega
    have hmN : ¬ (m : Int) ≥ ((refsM vs k).length : Int) := by omega
    generalize (refsM vs k).getD m 0 = y at *
    generalize (refsM vs k).length = ln at *
    generalize [y].filter (hasM vs) = RR at *
    go_enter Tryz.func84, Tryz.ntmps84
    go_upto_region 1 with fail
    rw [hW.out]
    clear hW
    go_wp2_with fail
    have HBD : Hid (Below W.heap.size W (W.alloc (.cells #[.int .i64 y] 3)).drew) := ((Below.refl _ _).alloc (Nat.le_refl _) _).drew
    have HRD : Hid (ReadsI (W.alloc (.cells #[.int .i64 y] 3)).drew (some ⟨W.heap.size, 0, none⟩) [y]) := (readsI_one W y _).below ((Below.refl _ _).drew)
    have hh := HK.out W (Below.refl _ _)
    go_region_held3 (fun u => u.cell? ⟨w.heap.size, 0, none⟩ = some (.slice (some ⟨b, off, none⟩) 32 c) ∧ u.cell? ⟨bf, of + m, none⟩ = some (.int .i64 y))
      (first | exact HK.out _ hw1 | go_keep)
      (first
      | (go_at_call 34; refine (HC.out _ HBD.out _ HRD.out).mono ?_; rintro e w1 ⟨a, c', rfl, h2, h3⟩; have hw1 : Below W.heap.size W w1 := HBD.out.trans (h3.mono HBD.out.size))
      | fail)
    obtain ⟨a', c'', e', h2', h3'⟩ := HOUT.out _ _ _ _ HBD.out ⟨a, c', rfl, h2, h3⟩
    go_wp2
    go_ret
    exact ⟨a', c'', e', h2', h3'⟩
  · rw [if_neg hm]
    have hmN : (m : Int) ≥ ((refsM vs k).length : Int) := by omega
    have HA : Hid (ReachAns w [] (.returned (.slice none 0 0)) W) := ⟨none, 0, rfl, ownI_nil _ _ _ (Nat.le_refl _), hbW⟩
    clear b0 hsW hv hO hR
    generalize (refsM vs k).length = ln at *
    go_enter Tryz.func84, Tryz.ntmps84
    go_upto_region 1 with fail
    rw [hW.out]
    clear hW
    go_wp2
    go_ret
    exact HA.out
end Go.Proofs.YtajcffchopcamaaGreatDoor

/- The walk of (impl.walk).step; what it calls comes as a premise. -/
namespace Go.Proofs.YtajcffchopcamaaGreatDoor
open Go.RowKit

theorem comesL_len {vs : List SlotV} (h : ∀ k, (refsM vs k).length ≤ 5) (s : StepV) (k : Int) : (comesL vs s k).length ≤ 32 := by
  unfold comesL
  have h1 := h k
  split
  · split
    · exact Nat.le_trans (List.length_filter_le _ _) (by simp)
    · simp
  split
  · exact Nat.le_trans (List.length_filter_le _ _) (by omega)
  split
  · exact reachTo_len _ 32
  split
  · split <;> simp
  · split <;> simp

theorem comesL_rng {vs : List SlotV} (hv : RngM vs) (s : StepV) {k : Int} (hk : 0 ≤ k ∧ k ≤ 31) : ∀ x ∈ comesL vs s k, 0 ≤ x ∧ x ≤ 31 := by
  intro x hx
  unfold comesL at hx
  split at hx
  · split at hx
    · obtain ⟨h1, h2⟩ := List.mem_filter.1 hx
      rename_i hlt
      simp only [List.mem_singleton] at h1
      rw [h1]
      exact hv _ _ (mem_getDM hlt)
    · cases hx
  split at hx
  · exact hv _ _ (List.mem_filter.1 hx).1
  split at hx
  · unfold reachL at hx
    obtain ⟨h1, _⟩ := List.mem_filter.1 hx
    obtain ⟨i, hi, rfl⟩ := List.mem_map.1 h1
    have := List.mem_range.1 hi
    omega
  split at hx
  · split at hx
    · simp only [List.mem_singleton] at hx; subst hx; exact hk
    · cases hx
  · split at hx
    · simp only [List.mem_singleton] at hx; subst hx; exact hk
    · cases hx

/-- What keys and sorting give of a set. -/
def KeysGive : Prop := ∀ (u : World) (B : Nat) (A : List Bool), A.length = 32 → SetAt u B A →
  (Calls Tryz.prog 62 #[.map (some B)] u fun e w' => e = .returned (.func (.func 91) #[] #[.pointer (some ⟨u.heap.size, 0, none⟩)]) ∧ w' = u.alloc (.cells #[.map (some B)] 106)) ∧
  (Calls Tryz.prog 61 #[.func (.func 91) #[] #[.pointer (some ⟨u.heap.size, 0, none⟩)]] (u.alloc (.cells #[.map (some B)] 106)) fun e w' => ReachAns u (reachL A) e w')

/-- What a way does. -/
structure WayI (w : World) (b off c : Nat) (vs : List SlotV) (s : StepV) (F : Nat) : Prop where
  look : ∃ j, findW s.kd theWays 0 = some (j, .func (.func F) #[] #[])
  ent : ∀ args u, (callFunc F args).run Tryz.prog u = .ok (.enter F args) u
  does : ∀ u, Below w.heap.size w u → ∀ k : Nat, 1 ≤ k → k < 32 → Calls Tryz.prog F #[.agg #[.slice (some ⟨b, off, none⟩) 32 c], .int .i64 (k : Int), .int .i64 s.num] u fun e w' => ReachAns u (comesL vs s k) e w'

theorem way_of (w : World) (b off c : Nat) (vs : List SlotV) (s : StepV) (hs : stepB s = true) (hv : VwI w b off vs)
    (hR : ∀ u, Below w.heap.size w u → ∀ k : Nat, 1 ≤ k → k < 32 → Calls Tryz.prog 13 #[.slice (some ⟨b, off, none⟩) 32 c, .int .i64 (k : Int)] u fun e w' => ReachAns u (reachL (runM vs 40 k).met) e w') : ∃ F, WayI w b off c vs s F := by
  have hsm := stepB_num hs
  have hs1 := hs
  obtain ⟨kd, num⟩ := s
  rcases stepB_kd hs with e | e | e | e | e
  · simp only at e
    subst e
    obtain ⟨m, rfl⟩ : ∃ m : Nat, num = m := ⟨num.toNat, by have := hs1; simp [stepB, inB] at this; omega⟩
    exact ⟨84, ⟨0, rfl⟩, enters_of Tryz.func84 (by kernel_rfl) rfl, fun u hu k _ hk => nth_any b off c vs k hk m u (hv.below hu)⟩
  · simp only at e
    subst e
    exact ⟨85, ⟨1, rfl⟩, enters_of Tryz.func85 (by kernel_rfl) rfl, fun u hu k _ hk => all_any b off c vs k hk num u (hv.below hu)⟩
  · simp only at e
    subst e
    exact ⟨86, ⟨2, rfl⟩, enters_of Tryz.func86 (by kernel_rfl) rfl, fun u hu k h1 hk => deep_any b off c vs k num u (fun u' hu' => hR u' (hu.trans (hu'.mono hu.size)) k h1 hk)⟩
  · simp only at e
    subst e
    exact ⟨87, ⟨3, rfl⟩, enters_of Tryz.func87 (by kernel_rfl) rfl, fun u hu k _ hk => ofKind_any b off c vs k hk num u (hv.below hu)⟩
  · simp only at e
    subst e
    exact ⟨88, ⟨4, rfl⟩, enters_of Tryz.func88 (by kernel_rfl) rfl, fun u hu k _ hk => over_any b off c vs k hk num u (hv.below hu)⟩

/-- The set that is being filled: it lies above V. -/
structure FlI (V wr : World) (B : Nat) (A : List Bool) : Prop where
  set : SetAt wr B A
  len : A.length = 32
  hi : V.heap.size ≤ B
  bel : Below V.heap.size V wr
theorem FlI.below {V wr u : World} {B : Nat} {A : List Bool} (h : FlI V wr B A) (hu : Below wr.heap.size wr u) : FlI V u B A := ⟨h.set.below hu, h.len, h.hi, h.bel.trans (hu.mono h.bel.size)⟩
theorem FlI.add {V wr u : World} {B : Nat} {A : List Bool} {x : Int} (h : FlI V wr B A) (hs : SetAt u B (A.set x.toNat true)) (hg : wr.grownBy u (some B)) : FlI V u B (A.set x.toNat true) :=
  ⟨hs, by rw [List.length_set]; exact h.len, h.hi, h.bel.grown hg h.bel.size (fun k hk => by cases hk; exact h.hi)⟩

set_option maxHeartbeats 4000000 in
set_option maxRecDepth 100000 in
theorem step_any (hKG : KeysGive) (b off c : Nat) (vs : List SlotV) (l : List Int) (al : Option Addr) (cl : Nat) (s : StepV) (F : Nat) (w : World) (hv : VwI w b off vs) (hF : WayI w b off c vs s F) (hr : ReadsI w al l) (hl : ∀ x ∈ l, 1 ≤ x ∧ x ≤ 31) (hn : l.length ≤ 32) :
    Calls Tryz.prog 35 #[.agg #[.slice (some ⟨b, off, none⟩) 32 c], .slice al l.length cl, .agg #[.int .i64 s.kd, .int .i64 s.num]] w fun e w' => ReachAns w (reachL (l.foldl (comesS vs s) noneS)) e w' := by
  obtain ⟨W, hW, b0, b1, hbW, hsW⟩ := boxes2 w [.slice (some ⟨b, off, none⟩) 32 c] [.int .i64 s.kd, .int .i64 s.num] 70 44
  have HBX : Hid (∀ u, Below W.heap.size W u → u.cell? ⟨w.heap.size, 0, none⟩ = some (.slice (some ⟨b, off, none⟩) 32 c) ∧ u.cell? ⟨w.heap.size + 1, 0, none⟩ = some (.int .i64 s.kd) ∧ u.cell? ⟨w.heap.size + 1, 1, none⟩ = some (.int .i64 s.num)) := fun u hu => ⟨(b0.below hu b0.lt).cell 0 _ rfl, (b1.below hu b1.lt).cell 0 _ rfl, (b1.below hu b1.lt).cell 1 _ rfl⟩
  have HRD : Hid (∀ u, Below W.heap.size W u → ReadsI u al l) := fun u hu => (hr.below hbW).below hu
  have HRG : Hid (∀ x ∈ l, 1 ≤ x ∧ x ≤ 31) := hl
  have HWAY : Hid (∀ u, Below W.heap.size W u → ∀ k : Nat, 1 ≤ k → k < 32 → Calls Tryz.prog F #[.agg #[.slice (some ⟨b, off, none⟩) 32 c], .int .i64 (k : Int), .int .i64 s.num] u fun e w' => ReachAns u (comesL vs s k) e w') := fun u hu k h1 hk => hF.does u (hbW.trans (hu.mono hbW.size)) k h1 hk
  have HLEN : Hid (∀ k, (comesL vs s k).length ≤ 32) := comesL_len hv.refs s
  have HCR : Hid (∀ k : Nat, 1 ≤ k → k < 32 → ∀ x ∈ comesL vs s k, 0 ≤ x ∧ x ≤ 31) := fun k h1 hk => comesL_rng hv.rng s (by omega)
  obtain ⟨j, hj⟩ := hF.look
  have hent := hF.ent
  have HLK : Hid (∀ (u : World) (M : Nat), WaysAt u M theWays → (Instr.lookup 103 (.map (some M)) (.int .i64 s.kd) false).run Tryz.prog u = .ok (.func (.func F) #[] #[]) u) := fun u M h => run_look_w h s.kd _ j hj
  clear b0 b1 hsW hv hF hr hl hj
  have hh := HBX.out W (Below.refl _ _)
  go_enter Tryz.func35, Tryz.ntmps35
  go_upto_region 1 with fail
  rw [hW.out]
  clear hW
  go_region_held3 (fun u => u.cell? ⟨w.heap.size, 0, none⟩ = some (.slice (some ⟨b, off, none⟩) 32 c) ∧ u.cell? ⟨w.heap.size + 1, 0, none⟩ = some (.int .i64 s.kd) ∧ u.cell? ⟨w.heap.size + 1, 1, none⟩ = some (.int .i64 s.num))
    (first | exact HBX.out _ hw1 | go_keep)
    (first
    | (go_at_call 59; refine (stepWays_any _).mono ?_; rintro e w1 ⟨M, rfl, m1, h3⟩; have hw1 : Below W.heap.size W w1 := (Below.refl _ _).drew.trans h3; have hlk := HLK.out w1 M m1)
    | fail)
  have hmm := @run_makeMap Tryz.prog
  obtain ⟨W2, hW2⟩ : ∃ W2, Hid (w1.alloc (.map #[] 0) = W2) := ⟨_, rfl⟩
  have HF0 : Hid (FlI w1 W2 w1.heap.size noneS) := by
    rw [Hid, ← hW2.out]
    exact ⟨setAt_none (keysAt_made w1), noneS_len, Nat.le_refl _, (Below.refl _ _).alloc (Nat.le_refl _) _⟩
  have HW1 : Hid (∀ u, Below w1.heap.size w1 u → Below W.heap.size W u) := fun u hu => hw1.trans (hu.mono hw1.size)
  have HOUT : Hid (∀ u R e w', Below W.heap.size W u → ReachAns u R e w' → ReachAns w R e w') := fun u R e w' hu ⟨a, c, h1, h2, h3⟩ => ⟨a, c, h1, h2.widen (Nat.le_trans hbW.size hu.size) (Nat.le_refl _) (Nat.le_refl _), (hbW.trans (hu.mono hbW.size)).trans (h3.mono (Nat.le_trans hbW.size hu.size))⟩
  have HKG : Hid (_) := hKG
  clear hlk m1 h3 hw1 HLK hh hKG hbW
  obtain ⟨B, hB⟩ : ∃ B, Hid (w1.heap.size = B) := ⟨_, rfl⟩
  go_upto_region 3 with fail
  rw [hW2.out, hB.out]
  rw [hB.out] at HF0
  clear hW2 hmm hB
  go_wp2_with fail
  go_loopw [20] (fun iv wr => ∃ i : Nat, i ≤ l.length ∧ iv = .int .i64 i ∧ Hid (FlI w1 wr B ((l.take i).foldl (comesS vs s) noneS))) (fun iv _ => l.length - (RowKit.intOf iv).toNat)
  case atStart => exact ⟨0, Nat.zero_le _, rfl, HF0⟩
  case round =>
    obtain ⟨i, hi, rfl, hJ⟩ := hrel
    clear HF0
    by_cases hlt : i < l.length
    · obtain ⟨bl, ol, rfl, hcl⟩ := HRD.out wr (HW1.out wr hJ.out.bel) (by intro e; rw [e] at hlt; simp at hlt)
      have f0 := hcl i hlt
      obtain ⟨k, hke, hk1, hk32⟩ : ∃ k : Nat, l.getD i 0 = k ∧ 1 ≤ k ∧ k < 32 := by
        have := HRG.out _ (mem_getDM hlt)
        exact ⟨(l.getD i 0).toNat, by omega, by omega, by omega⟩
      have HTS : Hid ((l.take (i + 1)).foldl (comesS vs s) noneS = setAll ((l.take i).foldl (comesS vs s) noneS) (comesL vs s k)) := by
        rw [Hid, take_stepE l i hlt, hke, List.foldl_append]
        rfl
      rw [hke] at f0
      obtain ⟨x0, x1, x2⟩ := HBX.out wr (HW1.out wr hJ.out.bel)
      have C := HWAY.out wr (HW1.out wr hJ.out.bel) k hk1 hk32
      have HN32 := HLEN.out k
      have HNR : Hid (_) := HCR.out k hk1 hk32
      clear hcl hke
      generalize comesL vs s k = N at *
      generalize (l.take i).foldl (comesS vs s) noneS = A at *
      obtain ⟨A2, HA2⟩ : ∃ A2, Hid ((l.take (i + 1)).foldl (comesS vs s) noneS = A2) := ⟨_, rfl⟩
      rw [HA2.out] at HTS
      go_wp2_with fail
      refine C.mono ?_
      clear C
      rintro e w2 ⟨aN, cN, rfl, hoN, hb2⟩
      have HJ2 : Hid (FlI w1 w2 B (setAll A (N.take 0))) := hJ.out.below hb2
      have HRN : Hid (∀ u, Below w2.heap.size w2 u ∨ w2.grownBy u (some B) → True) := fun _ _ => trivial
      clear HRN
      have hBlt : B < wr.heap.size := hJ.out.set.lt
      have HRN : Hid (∀ u, Touch [B] w2 u → ReadsI u aN N) := fun u hu => (hoN.touch hu (fun q hq => by have := (hoN.lt q hq).1; simp; omega)).reads
      clear hJ hoN hb2 f0 x0 x1 x2
      have HJ3 : Hid (FlI w1 w2 B (setAll A (N.take 0)) ∧ Touch [B] w2 w2) := ⟨HJ2.out, Touch.refl _ _⟩
      clear HJ2
      generalize wr = wp at *
      go_wp2_with fail
      go_loopw [31] (fun jv wr => ∃ j : Nat, j ≤ N.length ∧ jv = .int .i64 j ∧ Hid (FlI w1 wr B (setAll A (N.take j)) ∧ Touch [B] w2 wr)) (fun jv _ => N.length - (RowKit.intOf jv).toNat)
      case atStart => exact ⟨0, Nat.zero_le _, rfl, HJ3⟩
      case round =>
        obtain ⟨j, hjl, rfl, hK⟩ := hrel
        clear HJ3
        by_cases hjt : j < N.length
        · obtain ⟨bN, oN, rfl, hcN⟩ := HRN.out wr hK.out.2 (by intro e; rw [e] at hjt; simp at hjt)
          have g0 := hcN j hjt
          have hr31 := HNR.out _ (mem_getDM hjt)
          have HTJ : Hid (setAll A (N.take (j + 1)) = (setAll A (N.take j)).set (N.getD j 0).toNat true) := by
            rw [Hid, take_stepE N j hjt, setAll_app]
            rfl
          have CA := setAdd_any B (setAll A (N.take j)) hK.out.1.len (N.getD j 0) hr31 wr hK.out.1.set
          clear hcN
          generalize N.getD j 0 = y at *
          go_wp2_with fail
          refine CA.mono ?_
          clear CA
          rintro e w3 ⟨⟨v3, rfl⟩, hs3, hg3⟩
          have HN3 : Hid (FlI w1 w3 B (setAll A (N.take (j + 1))) ∧ Touch [B] w2 w3) := by
            rw [HTJ.out]
            exact ⟨hK.out.1.add hs3 hg3, hK.out.2.trans (Touch.of_grown hg3 (fun q hq => by cases hq; simp))⟩
          clear hK hs3 hg3 g0 HTJ
          go_wp2_with fail
          go_roundw
          case rel => exact ⟨j + 1, by omega, by go_num, HN3⟩
          case measure => simp [RowKit.intOf]; omega
        · have HN : Hid (FlI w1 wr B ((l.take (i + 1)).foldl (comesS vs s) noneS)) := by
            have h1 := hK.out.1
            rw [List.take_of_length_le (by omega)] at h1
            rw [HA2.out, HTS.out]
            exact h1
          clear hK HTS HRN HNR HA2
          go_wp2_with fail
          go_roundw
          case rel => exact ⟨i + 1, by omega, by go_num, HN⟩
          case measure => simp [RowKit.intOf]; omega
    · have HFL : Hid (FlI w1 wr B (l.foldl (comesS vs s) noneS)) := by
        have := hJ.out
        rw [List.take_of_length_le (by omega)] at this
        exact this
      clear hJ
      have hWr := HW1.out wr HFL.out.bel
      obtain ⟨CK, CS⟩ := HKG.out wr B _ HFL.out.len HFL.out.set
      obtain ⟨A, HA⟩ : ∃ A, Hid (l.foldl (comesS vs s) noneS = A) := ⟨_, rfl⟩
      rw [HA.out] at CS
      clear HFL HRD HRG HWAY HLEN HCR HBX HKG
      go_wp2_with fail
      refine CK.mono ?_
      rintro e w2 ⟨rfl, rfl⟩
      clear CK
      go_wp2_with fail
      refine CS.mono ?_
      intro e w3 hA
      obtain ⟨a, c', rfl, h2, h3⟩ := HOUT.out _ _ _ _ hWr hA
      clear CS hA HOUT
      go_wp2
      go_ret
      exact ⟨a, c', by rw [HA.out]; rfl, by rw [HA.out]; exact h2, h3⟩
end Go.Proofs.YtajcffchopcamaaGreatDoor

/- The walks of impl.stepOk, allStepsOk, PathOk. -/
namespace Go.Proofs.YtajcffchopcamaaGreatDoor
open Go.RowKit

set_option maxHeartbeats 400000 in
theorem oidOk_path (x : Int) (w : World) : Calls Tryz.prog 39 #[.int .i64 x] w fun e w' => e = .returned (.bool (inB x 1 31)) ∧ w' = w := by
  by_cases h1 : 1 ≤ x
  · by_cases h2 : x ≤ 31
    · have HB : Hid (inB x 1 31 = true) := by simp [Hid, inB]; omega
      go_enter Tryz.func39, Tryz.ntmps39
      go_wp2
      go_ret
      exact ⟨ret_bool HB.out.symm, rfl⟩
    · have HB : Hid (inB x 1 31 = false) := by simp [Hid, inB]; omega
      go_enter Tryz.func39, Tryz.ntmps39
      go_wp2
      go_ret
      exact ⟨ret_bool HB.out.symm, rfl⟩
  · have HB : Hid (inB x 1 31 = false) := by simp [Hid, inB]; omega
    go_enter Tryz.func39, Tryz.ntmps39
    go_wp2
    go_ret
    exact ⟨ret_bool HB.out.symm, rfl⟩

set_option maxHeartbeats 1000000 in
set_option maxRecDepth 100000 in
theorem implStepOk_any (s : StepV) (w : World) :
    Calls Tryz.prog 67 #[.agg #[.int .i64 s.kd, .int .i64 s.num]] w fun e w' => e = .returned (.bool (stepB s)) ∧ Below w.heap.size w w' := by
  obtain ⟨x, y⟩ := s
  obtain ⟨W, hW, b0, hbW, hsW⟩ := boxes1 w [.int .i64 x, .int .i64 y] 44
  have q0 := b0.cell 0 _ rfl
  have q1 := b0.cell 1 _ rfl
  clear b0 hsW
  simp only [stepB]
  by_cases h1 : x = 1
  · subst h1
    rw [if_pos rfl]
    by_cases g1 : 0 ≤ y
    · by_cases g2 : y ≤ 9
      · have HB : Hid (inB y 0 9 = true) := by simp [Hid, inB]; omega
        generalize inB y 0 9 = R at *
        go_enter Tryz.func67, Tryz.ntmps67
        go_upto_region 1 with fail
        rw [hW.out]
        clear hW
        go_wp2
        go_ret
        exact ⟨ret_bool HB.out.symm, hbW⟩
      · have HB : Hid (inB y 0 9 = false) := by simp [Hid, inB]; omega
        generalize inB y 0 9 = R at *
        go_enter Tryz.func67, Tryz.ntmps67
        go_upto_region 1 with fail
        rw [hW.out]
        clear hW
        go_wp2
        go_ret
        exact ⟨ret_bool HB.out.symm, hbW⟩
    · have HB : Hid (inB y 0 9 = false) := by simp [Hid, inB]; omega
      generalize inB y 0 9 = R at *
      go_enter Tryz.func67, Tryz.ntmps67
      go_upto_region 1 with fail
      rw [hW.out]
      clear hW
      go_wp2
      go_ret
      exact ⟨ret_bool HB.out.symm, hbW⟩
  rw [if_neg h1]
  have k1 : (x == 1) = false := by simpa using h1
  by_cases h2 : x = 2
  · subst h2
    rw [if_pos rfl]
    go_enter Tryz.func67, Tryz.ntmps67
    go_upto_region 1 with fail
    rw [hW.out]
    clear hW
    go_wp2
    go_ret
    exact ⟨rfl, hbW⟩
  rw [if_neg h2]
  have k2 : (x == 2) = false := by simpa using h2
  by_cases h3 : x = 3
  · subst h3
    rw [if_pos rfl]
    go_enter Tryz.func67, Tryz.ntmps67
    go_upto_region 1 with fail
    rw [hW.out]
    clear hW
    go_wp2
    go_ret
    exact ⟨rfl, hbW⟩
  rw [if_neg h3]
  have k3 : (x == 3) = false := by simpa using h3
  by_cases h4 : x = 4
  · subst h4
    rw [if_pos rfl]
    by_cases g1 : 1 ≤ y
    · by_cases g2 : y ≤ 99
      · have HB : Hid (inB y 1 99 = true) := by simp [Hid, inB]; omega
        generalize inB y 1 99 = R at *
        go_enter Tryz.func67, Tryz.ntmps67
        go_upto_region 1 with fail
        rw [hW.out]
        clear hW
        go_wp2
        go_ret
        exact ⟨ret_bool HB.out.symm, hbW⟩
      · have HB : Hid (inB y 1 99 = false) := by simp [Hid, inB]; omega
        generalize inB y 1 99 = R at *
        go_enter Tryz.func67, Tryz.ntmps67
        go_upto_region 1 with fail
        rw [hW.out]
        clear hW
        go_wp2
        go_ret
        exact ⟨ret_bool HB.out.symm, hbW⟩
    · have HB : Hid (inB y 1 99 = false) := by simp [Hid, inB]; omega
      generalize inB y 1 99 = R at *
      go_enter Tryz.func67, Tryz.ntmps67
      go_upto_region 1 with fail
      rw [hW.out]
      clear hW
      go_wp2
      go_ret
      exact ⟨ret_bool HB.out.symm, hbW⟩
  rw [if_neg h4]
  have k4 : (x == 4) = false := by simpa using h4
  by_cases h5 : x = 5
  · subst h5
    rw [if_pos rfl]
    by_cases g1 : -1000000 ≤ y
    · by_cases g2 : y ≤ 1000000
      · have HB : Hid (inB y (-1000000) 1000000 = true) := by simp [Hid, inB]; omega
        generalize inB y (-1000000) 1000000 = R at *
        go_enter Tryz.func67, Tryz.ntmps67
        go_upto_region 1 with fail
        rw [hW.out]
        clear hW
        go_wp2
        go_ret
        exact ⟨ret_bool HB.out.symm, hbW⟩
      · have HB : Hid (inB y (-1000000) 1000000 = false) := by simp [Hid, inB]; omega
        generalize inB y (-1000000) 1000000 = R at *
        go_enter Tryz.func67, Tryz.ntmps67
        go_upto_region 1 with fail
        rw [hW.out]
        clear hW
        go_wp2
        go_ret
        exact ⟨ret_bool HB.out.symm, hbW⟩
    · have HB : Hid (inB y (-1000000) 1000000 = false) := by simp [Hid, inB]; omega
      generalize inB y (-1000000) 1000000 = R at *
      go_enter Tryz.func67, Tryz.ntmps67
      go_upto_region 1 with fail
      rw [hW.out]
      clear hW
      go_wp2
      go_ret
      exact ⟨ret_bool HB.out.symm, hbW⟩
  rw [if_neg h5]
  have k5 : (x == 5) = false := by simpa using h5
  clear h1 h2 h3 h4 h5
  go_enter Tryz.func67, Tryz.ntmps67
  go_upto_region 1 with fail
  rw [hW.out]
  clear hW
  go_wp2
  go_ret
  exact ⟨rfl, hbW⟩

set_option maxHeartbeats 1000000 in
set_option maxRecDepth 100000 in
theorem allStepsOk_any (a : Option Addr) (c : Nat) (ls : List StepV) (w : World) (hr : ReadsPh w a ls) (hl : ls.length ≤ 1099511627776) :
    Calls Tryz.prog 40 #[.slice a ls.length c] w fun e w' => e = .returned (.bool (ls.all stepB)) ∧ Below w.heap.size w w' := by
  have HC : Hid (∀ u, Below w.heap.size w u → ∀ k, k < ls.length → ∃ b off, a = some ⟨b, off, none⟩ ∧ u.cell? ⟨b, off + k * 2, none⟩ = some (.int .i64 (ls.getD k zeroPh).kd) ∧ u.cell? ⟨b, off + k * 2 + 1, none⟩ = some (.int .i64 (ls.getD k zeroPh).num)) := fun u hu k hk => by
    obtain ⟨b, off, ha, hc⟩ := (hr.below hu) (by intro e; rw [e] at hk; simp at hk)
    exact ⟨b, off, ha, hc k hk⟩
  have HHIT : Hid (∀ k, k < ls.length → stepB (ls.getD k zeroPh) = false → ls.all stepB = false) := fun k hk h => all_hit (k := k) hk h
  have HSTEP : Hid (∀ k, k < ls.length → (ls.take k).all stepB = true → stepB (ls.getD k zeroPh) = true → (ls.take (k + 1)).all stepB = true) := fun k hk h h1 => all_step hk h h1
  have HEND : Hid (∀ k, ¬ k < ls.length → (ls.take k).all stepB = true → ls.all stepB = true) := fun k hk h => all_end hk h
  clear hr
  generalize ls.all stepB = R at *
  go_enter Tryz.func40, Tryz.ntmps40
  go_wp2
  go_loopw [7] (fun i wr => ∃ k : Nat, k ≤ ls.length ∧ i = .int .i64 k ∧ Hid ((ls.take k).all stepB = true) ∧ Below w.heap.size w wr) (fun i _ => ls.length - (RowKit.intOf i).toNat)
  case atStart => exact ⟨0, Nat.zero_le _, rfl, (show (ls.take 0).all stepB = true by simp), Below.refl _ _⟩
  case round =>
    obtain ⟨k, hk, rfl, hall, hbl⟩ := hrel
    by_cases hlt : k < ls.length
    · obtain ⟨b, off, rfl, c0, c1⟩ := HC.out wr hbl k hlt
      have HH1 : Hid (stepB (ls.getD k zeroPh) = false → R = false) := fun h => HHIT.out k hlt h
      have HH2 : Hid (stepB (ls.getD k zeroPh) = true → (ls.take (k + 1)).all stepB = true) := fun h => HSTEP.out k hlt hall.out h
      clear HC HHIT HSTEP HEND hall
      generalize ls.getD k zeroPh = z at *
      obtain ⟨V, hV, bz, hbV, hsV⟩ := boxes1 wr [.int .i64 z.kd, .int .i64 z.num] 44
      have q0 := bz.cell 0 _ rfl
      have q1 := bz.cell 1 _ rfl
      have C := implStepOk_any z V
      have hB : Below w.heap.size w V := hbl.trans (hbV.mono hbl.size)
      generalize stepB z = zb at *
      clear bz hsV hbV
      cases zb with
      | false =>
        have HR : Hid (R = false) := HH1.out rfl
        clear HH1 HH2
        go_wp2_with fail
        rw [hV.out]
        go_wp2_with fail
        refine C.mono ?_
        rintro e w1 ⟨rfl, hb1⟩
        go_wp2
        go_ret
        exact ⟨ret_bool HR.out.symm, hB.trans (hb1.mono hB.size)⟩
      | true =>
        have HN : Hid ((ls.take (k + 1)).all stepB = true) := HH2.out rfl
        clear HH1 HH2
        go_wp2_with fail
        rw [hV.out]
        go_wp2_with fail
        refine C.mono ?_
        rintro e w1 ⟨rfl, hb1⟩
        have hB1 : Below w.heap.size w w1 := hB.trans (hb1.mono hB.size)
        clear C hV hb1 hB
        go_wp2_with fail
        go_roundw
        case rel => exact ⟨k + 1, by omega, by go_num, HN, hB1⟩
        case measure => simp [RowKit.intOf]; omega
    · have HR : Hid (R = true) := HEND.out k hlt hall.out
      clear HC HHIT HSTEP HEND hall
      go_wp2
      go_ret
      exact ⟨ret_bool HR.out.symm, hbl⟩

set_option maxHeartbeats 1000000 in
set_option maxRecDepth 100000 in
theorem implPathOk_any (x : Int) (T : List StepV) (a : Option Addr) (c : Nat) (w : World) (hr : ReadsPh w a T) (hl : T.length ≤ 1099511627776) :
    Calls Tryz.prog 12 #[.agg #[.int .i64 x, .slice a T.length c]] w fun e w' => e = .returned (.bool (pathB x T)) ∧ Below w.heap.size w w' := by
  obtain ⟨W, hW, b0, hbW, hsW⟩ := boxes1 w [.int .i64 x, .slice a T.length c] 27
  have q0 := b0.cell 0 _ rfl
  have q1 := b0.cell 1 _ rfl
  have CO := oidOk_path x W
  have CA := allStepsOk_any a c T W (hr.below hbW) hl
  have HB : Hid (pathB x T = (T.all stepB && (inB x 1 31 && decide (T.length ≤ 8)))) := rfl
  clear b0 hsW hr
  generalize pathB x T = R at *
  generalize inB x 1 31 = I at *
  generalize T.all stepB = A at *
  cases I with
  | false =>
    have HR : Hid (R = false) := by rw [Hid, HB.out]; cases A <;> rfl
    clear HB CA
    go_enter Tryz.func12, Tryz.ntmps12
    go_upto_region 1 with fail
    rw [hW.out]
    clear hW
    go_wp2_with fail
    refine CO.mono ?_
    rintro e w1 ⟨rfl, rfl⟩
    go_wp2
    go_ret
    exact ⟨ret_bool HR.out.symm, hbW⟩
  | true =>
    by_cases h8 : T.length ≤ 8
    · have HR : Hid (R = A) := by rw [Hid, HB.out]; simp [h8]
      have k8 : (T.length : Int) ≤ 8 := by omega
      clear HB
      go_enter Tryz.func12, Tryz.ntmps12
      go_upto_region 1 with fail
      rw [hW.out]
      clear hW
      go_wp2_with fail
      refine CO.mono ?_
      rintro e w1 ⟨rfl, rfl⟩
      go_wp2_with fail
      refine CA.mono ?_
      rintro e w2 ⟨rfl, hb2⟩
      go_wp2
      go_ret
      exact ⟨ret_bool HR.out.symm, hbW.trans (hb2.mono hbW.size)⟩
    · have HR : Hid (R = false) := by rw [Hid, HB.out]; simp [h8]
      have k8 : ¬ (T.length : Int) ≤ 8 := by omega
      clear HB CA
      go_enter Tryz.func12, Tryz.ntmps12
      go_upto_region 1 with fail
      rw [hW.out]
      clear hW
      go_wp2_with fail
      refine CO.mono ?_
      rintro e w1 ⟨rfl, rfl⟩
      go_wp2
      go_ret
      exact ⟨ret_bool HR.out.symm, hbW⟩
end Go.Proofs.YtajcffchopcamaaGreatDoor

/- The walk of impl.Eval; what its steps call comes as a premise. -/
namespace Go.Proofs.YtajcffchopcamaaGreatDoor
open Go.RowKit

theorem reachL_none : reachL noneS = [] := by decide
theorem reachL_oneE : ∀ x : Nat, x < 32 → reachL (noneS.set x true) = [(x : Int)] := by decide
theorem reachL_start {vs : List SlotV} (x : Nat) (hx : x < 32) : reachL (startS vs x) = [(x : Int)].filter (hasM vs) := by
  unfold startS
  rw [List.filter_cons, Int.toNat_natCast]
  cases hasM vs (x : Int) with
  | true => rw [reachL_oneE x hx]; rfl
  | false =>
    have e : noneS.set x false = noneS := by
      unfold noneS
      apply List.ext_getElem?
      intro i
      rw [List.getElem?_set, List.getElem?_replicate]
      repeat' split
      all_goals first | rfl | (simp only [List.length_replicate] at *; omega)
    rw [e, reachL_none]
    rfl
theorem evalTo_one {vs : List SlotV} (hv : viewB vs = true) {x : Int} (hx : 1 ≤ x ∧ x ≤ 31) (T : List StepV) (n : Nat) : ∀ y ∈ reachL (evalTo vs x T n), 1 ≤ y ∧ y ≤ 31 := by
  intro y hy
  obtain ⟨h1, h2⟩ := (evalTo_good (viewB_rng hv) hx T n).mem y hy
  have h3 := h2.has
  have h0 := viewB_none hv
  refine ⟨?_, h1.2⟩
  rcases Int.lt_or_le 0 y with g | g
  · omega
  · have : y = 0 := by omega
    subst this
    rw [hasM, show Int.toNat 0 = 0 from rfl, h0] at h3
    cases h3

set_option maxHeartbeats 4000000 in
set_option maxRecDepth 100000 in
theorem implEval_from (hKG : KeysGive) (a : Option Addr) (c : Nat) (ss : List SlotA) (x : Int) (T : List StepV) (aT : Option Addr) (cT : Nat) (w : World) (hg : ErrT w) (hr : ReadsVw w a ss) (hl : ss.length ≤ 1099511627776) (hf : Fit ss) (hT : ReadsPh w aT T) (hlT : T.length ≤ 1099511627776)
    (hR : viewB (vsOf ss) = true → ∀ u, Below w.heap.size w u → ∀ k : Nat, 1 ≤ k → k < 32 → Calls Tryz.prog 13 #[.slice a 32 c, .int .i64 (k : Int)] u fun e w' => ReachAns u (reachL (runM (vsOf ss) 40 k).met) e w') :
    Calls Tryz.prog 9 #[.slice a ss.length c, .agg #[.int .i64 x, .slice aT T.length cT]] w fun e w' => ReachAns w (evalV (vsOf ss) x T) e w' := by
  obtain ⟨V, hV, b0, hbV, hsV⟩ := boxes1 w [.int .i64 x, .slice aT T.length cT] 27
  have C1 := implViewOk_any a c ss V (hg.keep hbV) (hr.below hbV) hl hf
  have HC2 : Hid (∀ u, Below V.heap.size V u → Calls Tryz.prog 12 #[.agg #[.int .i64 x, .slice aT T.length cT]] u fun e w' => e = .returned (.bool (pathB x T)) ∧ Below u.heap.size u w') := fun u hu => implPathOk_any x T aT cT u ((hT.below hbV).below hu) hlT
  have HBX : Hid (∀ u, Below V.heap.size V u → u.cell? ⟨w.heap.size, 0, none⟩ = some (.int .i64 x) ∧ u.cell? ⟨w.heap.size, 1, none⟩ = some (.slice aT T.length cT)) := fun u hu => ⟨(b0.below hu b0.lt).cell 0 _ rfl, (b0.below hu b0.lt).cell 1 _ rfl⟩
  have HOUT : Hid (∀ u R e w', Below V.heap.size V u → ReachAns u R e w' → ReachAns w R e w') := fun u R e w' hu ⟨a, c, h1, h2, h3⟩ => ⟨a, c, h1, h2.widen (Nat.le_trans hbV.size hu.size) (Nat.le_refl _) (Nat.le_refl _), (hbV.trans (hu.mono hbV.size)).trans (h3.mono (Nat.le_trans hbV.size hu.size))⟩
  clear b0 hg
  cases hvb : viewB (vsOf ss) with
  | false =>
    rw [hvb] at C1
    have HR : Hid (evalV (vsOf ss) x T = []) := by rw [Hid, evalV, hvb]; rfl
    rw [HR.out]
    clear hvb HR hr hf hT HC2 HBX hR
    go_enter Tryz.func9, Tryz.ntmps9
    go_upto_region 1 with fail
    rw [hV.out]
    go_wp2_with fail
    refine C1.mono ?_
    rintro e w1 ⟨rfl, hb1⟩
    have HA : Hid (_) := HOUT.out w1 _ _ _ hb1 (reachAns_none (Below.refl _ _))
    clear C1 HOUT
    go_wp2_with fail
    go_ret
    exact HA.out
  | true =>
    rw [hvb] at C1
    cases hpb : pathB x T with
    | false =>
      have HR : Hid (evalV (vsOf ss) x T = []) := by rw [Hid, evalV, hpb, Bool.and_false]; rfl
      rw [HR.out]
      rw [hpb] at HC2
      clear hvb HR hr hf hT hpb hR
      go_enter Tryz.func9, Tryz.ntmps9
      go_upto_region 1 with fail
      rw [hV.out]
      go_wp2_with fail
      refine C1.mono ?_
      rintro e w1 ⟨rfl, hb1⟩
      obtain ⟨y0, y1⟩ := HBX.out w1 hb1
      have C2 := HC2.out w1 hb1
      clear C1 HC2 HBX
      go_wp2_with fail
      refine C2.mono ?_
      rintro e w2 ⟨rfl, hb2⟩
      have HA : Hid (_) := HOUT.out w2 _ _ _ (hb1.trans (hb2.mono hb1.size)) (reachAns_none (Below.refl _ _))
      clear C2 HOUT
      go_wp2_with fail
      go_ret
      exact HA.out
    | true =>
      have HR : Hid (evalV (vsOf ss) x T = reachL (evalTo (vsOf ss) x T T.length)) := by rw [Hid, evalV, hvb, hpb]; rfl
      rw [HR.out]
      rw [hpb] at HC2
      have h32 : ss.length = 32 := by have := viewB_len32 hvb; rwa [vsOf_len] at this
      obtain ⟨b, off, rfl, _⟩ := hr (by intro e; rw [e] at h32; simp at h32)
      have hx := (pathB_from' hpb)
      obtain ⟨xn, rfl⟩ : ∃ xn : Nat, x = xn := ⟨x.toNat, by omega⟩
      have hvi := vwI_of (hr.below hbV) h32 hvb
      have HLX : Hid (∀ n, ∀ y ∈ reachL (evalTo (vsOf ss) xn T n), 1 ≤ y ∧ y ≤ 31) := fun n => evalTo_one hvb hx T n
      have HLL : Hid (∀ n, (reachL (evalTo (vsOf ss) xn T n)).length ≤ 32) := fun n => reachTo_len _ 32
      have HR2 : Hid (∀ u, Below V.heap.size V u → ∀ k : Nat, 1 ≤ k → k < 32 → Calls Tryz.prog 13 #[.slice (some ⟨b, off, none⟩) 32 c, .int .i64 (k : Int)] u fun e w' => ReachAns u (reachL (runM (vsOf ss) 40 k).met) e w') := fun u hu k h1 hk => hR hvb u (hbV.trans (hu.mono hbV.size)) k h1 hk
      have HST : Hid (∀ k, k < T.length → stepB (T.getD k zeroPh) = true) := (pathB_info hpb).2.2
      have HTL := (pathB_info hpb).2.1
      have HTC : Hid (∀ u, Below V.heap.size V u → ∀ k, k < T.length → ∃ bt ot, aT = some ⟨bt, ot, none⟩ ∧ u.cell? ⟨bt, ot + k * 2, none⟩ = some (.int .i64 (T.getD k zeroPh).kd) ∧ u.cell? ⟨bt, ot + k * 2 + 1, none⟩ = some (.int .i64 (T.getD k zeroPh).num)) := fun u hu k hk => by
        obtain ⟨bt, ot, ha, hc⟩ := ((hT.below hbV).below hu) (by intro e; rw [e] at hk; simp at hk)
        exact ⟨bt, ot, ha, hc k hk⟩
      rw [h32] at C1 ⊢
      have HSTEP : Hid (∀ u, Below V.heap.size V u → ∀ (i : Nat), i < T.length → ∀ (al : Option Addr) (cl : Nat), ReadsI u al (reachL (evalTo (vsOf ss) xn T i)) → Calls Tryz.prog 35 #[.agg #[.slice (some ⟨b, off, none⟩) 32 c], .slice al (reachL (evalTo (vsOf ss) xn T i)).length cl, .agg #[.int .i64 (T.getD i zeroPh).kd, .int .i64 (T.getD i zeroPh).num]] u fun e w' => ReachAns u (reachL (evalTo (vsOf ss) xn T (i + 1))) e w') := fun u hu i hi al cl hal => by
        obtain ⟨F, hF⟩ := way_of u b off c (vsOf ss) (T.getD i zeroPh) (HST.out i hi) (hvi.below hu) (fun u' hu' k h1 hk => HR2.out u' (hu.trans (hu'.mono hu.size)) k h1 hk)
        have := step_any hKG b off c (vsOf ss) (reachL (evalTo (vsOf ss) xn T i)) al cl (T.getD i zeroPh) F u (hvi.below hu) hF hal (HLX.out i) (HLL.out i)
        rw [evalTo_step (vsOf ss) xn T hi]
        exact this
      have HTHERE : Hid (∀ u, Below V.heap.size V u → ∀ g, ReadsI u (some ⟨g, 0, none⟩) [(xn : Int)] → Calls Tryz.prog 34 #[.agg #[.slice (some ⟨b, off, none⟩) 32 c], .slice (some ⟨g, 0, none⟩) 1 1] u fun e w' => ReachAns u (reachL (evalTo (vsOf ss) xn T 0)) e w') := fun u hu g hgr => by
        have := there_any b off c (vsOf ss) [(xn : Int)] (some ⟨g, 0, none⟩) 1 u (hvi.below hu) hgr (fun r hr => by simp at hr; omega) (by simp)
        rw [show evalTo (vsOf ss) xn T 0 = startS (vsOf ss) xn from rfl, reachL_start xn (by omega)]
        exact this
      clear hf hT hvb hpb HR hr h32 hR HR2 HST HLX hvi hKG
      generalize vsOf ss = vs at *
      go_enter Tryz.func9, Tryz.ntmps9
      go_upto_region 1 with fail
      rw [hV.out]
      clear hV
      go_wp2_with fail
      refine C1.mono ?_
      rintro e w1 ⟨rfl, hb1⟩
      obtain ⟨y0, y1⟩ := HBX.out w1 hb1
      have C2 := HC2.out w1 hb1
      clear C1 HC2
      go_wp2_with fail
      refine C2.mono ?_
      rintro e w2 ⟨rfl, hb2⟩
      have B2 : Below V.heap.size V w2 := hb1.trans (hb2.mono hb1.size)
      clear C2 y0 y1 hb1 hb2
      obtain ⟨W3, hW3, bw, hbW3, hsW3⟩ := boxes1 w2 [.slice (some ⟨b, off, none⟩) 32 c] 70
      have B3 : Below V.heap.size V W3 := B2.trans (hbW3.mono B2.size)
      have HBW : Hid (∀ u, Below W3.heap.size W3 u → u.cell? ⟨w2.heap.size, 0, none⟩ = some (.slice (some ⟨b, off, none⟩) 32 c) ∧ Below V.heap.size V u) := fun u hu => ⟨(bw.below hu bw.lt).cell 0 _ rfl, B3.trans (hu.mono B3.size)⟩
      go_upto_region 4 with fail
      rw [hW3.out]
      clear hW3 hsW3 bw hbW3
      obtain ⟨p0, -⟩ := HBW.out W3 (Below.refl _ _)
      obtain ⟨y0, y1⟩ := HBX.out W3 B3
      have CT := HTHERE.out (W3.alloc (.cells #[.int .i64 (xn : Int)] 3)) (B3.alloc B3.size _) W3.heap.size (readsI_one W3 xn _)
      clear HTHERE
      have ha4 : Below W3.heap.size W3 (W3.alloc (.cells #[.int .i64 (xn : Int)] 3)) := (Below.refl _ _).alloc (Nat.le_refl _) _
      have HA4 : Hid (Below W3.heap.size W3 (W3.alloc (.cells #[.int .i64 (xn : Int)] 3))) := ha4
      clear ha4
      go_wp2_with fail
      refine CT.mono ?_
      clear CT
      rintro e w4 ⟨a4, c4, rfl, ho4, hb4⟩
      have HI4 : Hid (OwnI w4 W3.heap.size w4.heap.size a4 c4 (reachL (evalTo vs xn T 0)) ∧ Below W3.heap.size W3 w4) := ⟨ho4.widen HA4.out.size (Nat.le_refl _) (Nat.le_refl _), HA4.out.trans (hb4.mono HA4.out.size)⟩
      clear ho4 hb4 HA4 y0 y1 p0
      obtain ⟨y0, y1⟩ := HBX.out w4 (HBW.out w4 HI4.out.2).2
      go_wp2_with fail
      clear y0 y1
      go_loopw [6, 28] (fun v6 v28 wr => ∃ (i : Nat) (al : Option Addr) (cl : Nat), i ≤ T.length ∧ v6 = .slice al (reachL (evalTo vs xn T i)).length cl ∧ v28 = .int .i64 i ∧ Hid (OwnI wr W3.heap.size wr.heap.size al cl (reachL (evalTo vs xn T i)) ∧ Below W3.heap.size W3 wr)) (fun _ v28 _ => T.length - (RowKit.intOf v28).toNat)
      case atStart => exact ⟨0, a4, c4, Nat.zero_le _, rfl, rfl, HI4⟩
      case round =>
        obtain ⟨i, al, cl, hi, rfl, rfl, hJ⟩ := hrel
        clear HI4
        obtain ⟨p0, hBw⟩ := HBW.out wr hJ.out.2
        by_cases hlt : i < T.length
        · obtain ⟨bt, ot, rfl, t0, t1⟩ := HTC.out wr hBw i hlt
          obtain ⟨U, hU, bz, hbU, hsU⟩ := boxes1 wr [.int .i64 (T.getD i zeroPh).kd, .int .i64 (T.getD i zeroPh).num] 44
          have z0 := bz.cell 0 _ rfl
          have z1 := bz.cell 1 _ rfl
          have hoU := hJ.out.1.below hbU
          have CS := HSTEP.out U (hBw.trans (hbU.mono hBw.size)) i hlt al cl hoU.reads
          have BU : Below W3.heap.size W3 U := hJ.out.2.trans (hbU.mono hJ.out.2.size)
          obtain ⟨p0', -⟩ := HBW.out U BU
          obtain ⟨L1, HL1⟩ : ∃ L1, Hid (reachL (evalTo vs xn T i) = L1) := ⟨_, rfl⟩
          have HIL : Hid ((i : Int) < (T.length : Int)) := by rw [Hid]; omega
          rw [HL1.out] at CS ⊢
          generalize T.getD i zeroPh = sv at *
          clear bz hsU hbU hJ hoU HL1
          go_upto_region 8 with fail
          rw [hU.out]
          clear hU t0 t1 p0
          go_wp2_with fail
          refine CS.mono ?_
          clear CS
          rintro e w6 ⟨a6, c6, rfl, ho6, hb6⟩
          have HN : Hid (OwnI w6 W3.heap.size w6.heap.size a6 c6 (reachL (evalTo vs xn T (i + 1))) ∧ Below W3.heap.size W3 w6) := ⟨ho6.widen BU.size (Nat.le_refl _) (Nat.le_refl _), BU.trans (hb6.mono BU.size)⟩
          clear ho6 hb6 BU z0 z1 p0'
          go_wp2_with fail
          go_roundw
          case rel => exact ⟨i + 1, a6, c6, by omega, rfl, by go_num, HN⟩
          case measure => simp [RowKit.intOf]; omega
        · obtain rfl : i = T.length := by omega
          have HQ : Hid (ReachAns w (reachL (evalTo vs xn T T.length)) (.returned (.slice al (reachL (evalTo vs xn T T.length)).length cl)) wr) := HOUT.out W3 _ _ _ B3 ⟨al, cl, rfl, hJ.out.1, hJ.out.2⟩
          clear hJ HOUT HTC HSTEP HBX HBW
          go_wp2_with fail
          go_ret
          exact HQ.out
end Go.Proofs.YtajcffchopcamaaGreatDoor

/- A set as the kit's maps read: its keys are what is marked. -/
namespace Go.Proofs.YtajcffchopcamaaGreatDoor
open Go.RowKit Go.Maps Go.MapKept

theorem reachL_nodup (S : List Bool) : (reachL S).Nodup := by
  unfold reachL
  refine List.Pairwise.filter _ ?_
  rw [List.pairwise_map]
  exact List.pairwise_lt_range.imp (fun h => by omega)
theorem reachL_mem {S : List Bool} (hS : S.length = 32) (k : Int) : k ∈ reachL S ↔ (0 ≤ k ∧ metM S k = true) := by
  unfold reachL
  rw [List.mem_filter, List.mem_map]
  constructor
  · rintro ⟨⟨i, _, rfl⟩, h⟩
    exact ⟨by omega, h⟩
  · rintro ⟨h1, h2⟩
    refine ⟨⟨k.toNat, List.mem_range.2 ?_, by omega⟩, h2⟩
    rcases Nat.lt_or_ge k.toNat 32 with h | h
    · exact h
    · rw [metM_out hS (by omega)] at h2; cases h2
theorem reachL_sorted (S : List Bool) : (reachL S).Pairwise (fun a b => decide (a ≤ b) = true) := by
  unfold reachL
  refine List.Pairwise.filter _ ?_
  rw [List.pairwise_map]
  exact List.pairwise_lt_range.imp (fun h => by simp; omega)
theorem rd_set {e : MapEntry} {k : Int} (hk : 0 ≤ k ∧ k ≤ 31) (h1 : e.key = .int .i64 k) (h2 : e.val = .agg #[]) : WideElems.rd Tryz.prog 3 (unitElem (H := Unit)) e = some (.int .i64 k, .agg []) := by
  have hkey : keyOf Tryz.prog 3 e.key = some (.int .i64 k) := by rw [h1]; exact keyOf_int_mk Tryz.underlying3 (WalkArith.wf_i64 (by omega))
  have hv : unitElem (H := Unit) e.val = some (.agg [], []) := by rw [h2]; exact unitElem_mk
  simp [WideElems.rd, hkey, hv]
theorem SetAt.owns {w : World} {B : Nat} {S : List Bool} (hS : S.length = 32) (h : SetAt w B S) : ∃ (n : Nat) (D : DataW Unit), w.ownsMap Tryz.prog 3 (unitElem (H := Unit)) B n D ∧ Maps.size D ≤ 32 ∧ (intKeys D).Perm (reachL S) := by
  obtain ⟨ks, ⟨es, clock, hb, he, hbn⟩, hnd, hmem⟩ := h
  have hrng : ∀ k ∈ ks, 0 ≤ k ∧ k ≤ 31 := fun k hk => by
    obtain ⟨h1, h2⟩ := (hmem k).1 hk
    refine ⟨h1, ?_⟩
    rcases Int.lt_or_le k 32 with h | h
    · omega
    · rw [metM_out hS h] at h2; cases h2
  have hperm : ks.Perm (reachL S) := (List.perm_ext_iff_of_nodup hnd (reachL_nodup S)).2 (fun k => by rw [hmem k, reachL_mem hS k])
  have hlen : es.size = ks.length := by have := congrArg List.length he; simpa using this
  have hks : ks.length ≤ 32 := by
    rw [hperm.length_eq]
    exact reachTo_len S 32
  have each : ∀ e ∈ es.toList, ∃ k ∈ ks, e.key = .int .i64 k ∧ e.val = .agg #[] := fun e hm => by
    have : (e.key, e.val) ∈ es.toList.map (fun e => (e.key, e.val)) := List.mem_map.2 ⟨e, hm, rfl⟩
    rw [he] at this
    obtain ⟨k, hk, h⟩ := List.mem_map.1 this
    simp only [entK, Prod.mk.injEq] at h
    exact ⟨k, hk, h.1.symm, h.2.symm⟩
  have hkeys : (es.toList.map (·.key)).Nodup := by
    have e1 : es.toList.map (·.key) = ks.map (Value.int .i64) := by
      have := congrArg (List.map Prod.fst) he
      simpa [List.map_map, Function.comp_def, entK] using this
    rw [e1]
    refine List.pairwise_map.2 (hnd.imp (fun h e => h ?_))
    simpa using e
  refine ⟨es.size, _, ⟨es, clock, hb, ⟨by rw [hlen]; simp [maxLen]; omega, ⟨hbn.1, hbn.2, hkeys⟩, fun e hm => ?_⟩, Nat.le_refl _, rfl⟩, ?_, ?_⟩
  · obtain ⟨k, hk, h1, h2⟩ := each e hm
    exact ⟨_, rd_set (hrng k hk) h1 h2⟩
  · simp [Maps.size, length_sorted]; omega
  · have e1 : es.toList.map (WideElems.rg Tryz.prog 3 (unitElem (H := Unit))) = ks.map (fun k => (Lit.int .i64 k, (DataW.agg [] : DataW Unit))) := by
      have hk2 : ∀ (l : List MapEntry) (js : List Int), l.map (fun e => (e.key, e.val)) = js.map entK → (∀ k ∈ js, 0 ≤ k ∧ k ≤ 31) → l.map (WideElems.rg Tryz.prog 3 (unitElem (H := Unit))) = js.map (fun k => (Lit.int .i64 k, (DataW.agg [] : DataW Unit))) := by
        intro l
        induction l with
        | nil => intro js h _; cases js with
          | nil => rfl
          | cons => simp at h
        | cons e r ih =>
          intro js h hj
          cases js with
          | nil => simp at h
          | cons k js =>
            simp only [List.map_cons, List.cons.injEq, entK, Prod.mk.injEq] at h
            rw [List.map_cons, List.map_cons, ih js (by simpa [entK] using h.2) (fun x hx => hj x (by simp [hx])), WideElems.rg_of (rd_set (hj k (by simp)) h.1.1 h.1.2)]
      exact hk2 _ _ he hrng
    rw [e1]
    refine List.Perm.trans ?_ hperm
    show (List.map (fun p : Lit × DataW Unit => Go.intOf p.1) _).Perm ks
    refine ((WideShapes.sorted_perm _).map _).trans ?_
    rw [List.map_map]
    have : ((fun p : Lit × DataW Unit => Go.intOf p.1) ∘ fun k => (Lit.int .i64 k, (DataW.agg [] : DataW Unit))) = id := by funext k; rfl
    rw [this, List.map_id]
end Go.Proofs.YtajcffchopcamaaGreatDoor
