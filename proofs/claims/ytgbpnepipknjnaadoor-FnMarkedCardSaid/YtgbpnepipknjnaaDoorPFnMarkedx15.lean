/- Several texts in one, in their order. -/
import Derived.Test.YtgbpnepipknjnaaDoorPFnMarkedx11
import Derived.Lib.SlKeysI
import Derived.Maps.OwnSet
import Derived.Test.YtgbpnepipknjnaaDoorShelf
import Derived.Test.YtgbpnepipknjnaaDoorPFnMarkedx14
import Derived.Test.YtgbpnepipknjnaaDoorProg
import Derived.Test.YtgbpnepipknjnaaDoorPFnMarkedx1
import Derived.ProofKit
import Derived.OpenShut
import Derived.ChangeOld
import Derived.Test.YtgbpnepipknjnaaDoorPFnMarkedx10
import Derived.Test.YtgbpnepipknjnaaDoorRows
import Derived.LaidLaws
import Derived.LaidHandle
import Derived.Stop.Joined
import Derived.ChangeVars
/- A set as the kit's maps read: its keys are what is marked. -/
namespace Go.Proofs.YtgbpnepipknjnaaDoor
open Go.RowKit Go.Maps Go.MapKept

theorem reachL_nodup (S : List Bool) : (reachL S).Nodup := by
  unfold reachL
  refine List.Pairwise.filter _ ?_
  rw [List.pairwise_map]
  exact List.pairwise_lt_range.imp (fun h => by omega)
theorem reachL_mem {S : List Bool} (hS : S.length = 32) (k : Int) : k ∈ reachL S ↔ (0 ≤ k ∧ metM S k = true) := by
  unfold reachL
  rw [List.mem_filter, List.mem_map]
  constructor
  · rintro ⟨⟨i, _, rfl⟩, h⟩
    exact ⟨by omega, h⟩
  · rintro ⟨h1, h2⟩
    refine ⟨⟨k.toNat, List.mem_range.2 ?_, by omega⟩, h2⟩
    rcases Nat.lt_or_ge k.toNat 32 with h | h
    · exact h
    · rw [metM_out hS (by omega)] at h2; cases h2
theorem reachL_sorted (S : List Bool) : (reachL S).Pairwise (fun a b => decide (a ≤ b) = true) := by
  unfold reachL
  refine List.Pairwise.filter _ ?_
  rw [List.pairwise_map]
  exact List.pairwise_lt_range.imp (fun h => by simp; omega)
theorem rd_set {e : MapEntry} {k : Int} (hk : 0 ≤ k ∧ k ≤ 31) (h1 : e.key = .int .i64 k) (h2 : e.val = .agg #[]) : WideElems.rd Tryd.prog 3 (unitElem (H := Unit)) e = some (.int .i64 k, .agg []) := by
  have hkey : keyOf Tryd.prog 3 e.key = some (.int .i64 k) := by rw [h1]; exact keyOf_int_mk Tryd.underlying3 (WalkArith.wf_i64 (by omega))
  have hv : unitElem (H := Unit) e.val = some (.agg [], []) := by rw [h2]; exact unitElem_mk
  simp [WideElems.rd, hkey, hv]
theorem SetAt.owns {w : World} {B : Nat} {S : List Bool} (hS : S.length = 32) (h : SetAt w B S) : ∃ (n : Nat) (D : DataW Unit), w.ownsMap Tryd.prog 3 (unitElem (H := Unit)) B n D ∧ Maps.size D ≤ 32 ∧ (intKeys D).Perm (reachL S) := by
  obtain ⟨ks, ⟨es, clock, hb, he, hbn⟩, hnd, hmem⟩ := h
  have hrng : ∀ k ∈ ks, 0 ≤ k ∧ k ≤ 31 := fun k hk => by
    obtain ⟨h1, h2⟩ := (hmem k).1 hk
    refine ⟨h1, ?_⟩
    rcases Int.lt_or_le k 32 with h | h
    · omega
    · rw [metM_out hS h] at h2; cases h2
  have hperm : ks.Perm (reachL S) := (List.perm_ext_iff_of_nodup hnd (reachL_nodup S)).2 (fun k => by rw [hmem k, reachL_mem hS k])
  have hlen : es.size = ks.length := by have := congrArg List.length he; simpa using this
  have hks : ks.length ≤ 32 := by
    rw [hperm.length_eq]
    exact reachTo_len S 32
  have each : ∀ e ∈ es.toList, ∃ k ∈ ks, e.key = .int .i64 k ∧ e.val = .agg #[] := fun e hm => by
    have : (e.key, e.val) ∈ es.toList.map (fun e => (e.key, e.val)) := List.mem_map.2 ⟨e, hm, rfl⟩
    rw [he] at this
    obtain ⟨k, hk, h⟩ := List.mem_map.1 this
    simp only [entK, Prod.mk.injEq] at h
    exact ⟨k, hk, h.1.symm, h.2.symm⟩
  have hkeys : (es.toList.map (·.key)).Nodup := by
    have e1 : es.toList.map (·.key) = ks.map (Value.int .i64) := by
      have := congrArg (List.map Prod.fst) he
      simpa [List.map_map, Function.comp_def, entK] using this
    rw [e1]
    refine List.pairwise_map.2 (hnd.imp (fun h e => h ?_))
    simpa using e
  refine ⟨es.size, _, ⟨es, clock, hb, ⟨by rw [hlen]; simp [maxLen]; omega, ⟨hbn.1, hbn.2, hkeys⟩, fun e hm => ?_⟩, Nat.le_refl _, rfl⟩, ?_, ?_⟩
  · obtain ⟨k, hk, h1, h2⟩ := each e hm
    exact ⟨_, rd_set (hrng k hk) h1 h2⟩
  · simp [Maps.size, length_sorted]; omega
  · have e1 : es.toList.map (WideElems.rg Tryd.prog 3 (unitElem (H := Unit))) = ks.map (fun k => (Lit.int .i64 k, (DataW.agg [] : DataW Unit))) := by
      have hk2 : ∀ (l : List MapEntry) (js : List Int), l.map (fun e => (e.key, e.val)) = js.map entK → (∀ k ∈ js, 0 ≤ k ∧ k ≤ 31) → l.map (WideElems.rg Tryd.prog 3 (unitElem (H := Unit))) = js.map (fun k => (Lit.int .i64 k, (DataW.agg [] : DataW Unit))) := by
        intro l
        induction l with
        | nil => intro js h _; cases js with
          | nil => rfl
          | cons => simp at h
        | cons e r ih =>
          intro js h hj
          cases js with
          | nil => simp at h
          | cons k js =>
            simp only [List.map_cons, List.cons.injEq, entK, Prod.mk.injEq] at h
            rw [List.map_cons, List.map_cons, ih js (by simpa [entK] using h.2) (fun x hx => hj x (by simp [hx])), WideElems.rg_of (rd_set (hj k (by simp)) h.1.1 h.1.2)]
      exact hk2 _ _ he hrng
    rw [e1]
    refine List.Perm.trans ?_ hperm
    show (List.map (fun p : Lit × DataW Unit => Go.intOf p.1) _).Perm ks
    refine ((WideShapes.sorted_perm _).map _).trans ?_
    rw [List.map_map]
    have : ((fun p : Lit × DataW Unit => Go.intOf p.1) ∘ fun k => (Lit.int .i64 k, (DataW.agg [] : DataW Unit))) = id := by funext k; rfl
    rw [this, List.map_id]
end Go.Proofs.YtgbpnepipknjnaaDoor

/- A set's keys, sorted: slices.Sorted(maps.Keys(..)) of a marking. -/
namespace Go.Proofs.YtgbpnepipknjnaaDoor
open Go.RowKit Go.Maps Go.Sort Go.Shelf

/-- slices.Sort's two contracts here. -/
theorem sortsHere (m : Nat) : AnyZI.SortsIn Tryd.prog Tryd.sortedA_ren Fence.wide m :=
  ⟨fun blk off cap ss W hH hblk hsz => callsIn_wide.2 (AnyM.slices_Sort_int Tryd.sortA blk off cap ss W hH hblk hsz),
   fun p cap W => callsIn_wide.2 (AnyM.slices_Sort_int_none Tryd.sortA p cap W)⟩

theorem mergeSort_reachL {ss : List Int} {S : List Bool} (h : ss.Perm (reachL S)) : ss.mergeSort (fun x y => decide (x ≤ y)) = reachL S := by
  have e : ss.mergeSort leI = (reachL S).mergeSort leI := mergeSort_of_perm_i h
  have e2 : (reachL S).mergeSort leI = reachL S := List.mergeSort_of_pairwise (reachL_sorted S)
  exact e.trans e2

set_option maxHeartbeats 1000000 in
theorem reached_any {w0 w : World} {M mb most : Nat} {v : Value} {st : MSt} (hS : st.met.length = 32) (h : MkAt w0 w M mb v most st) :
    Calls Tryd.prog 38 #[.pointer (some ⟨M, 0, none⟩)] w fun e w' => ∃ a c, e = .returned (.slice a (reachL st.met).length c) ∧ OwnI w' w.heap.size w'.heap.size a c (reachL st.met) ∧ Below w.heap.size w w' := by
  obtain ⟨aS, cS, h⟩ := h
  have c1 := h.box.cell 1 _ rfl
  obtain ⟨nn, D0, hown, hsz, hpm⟩ := h.set.owns hS
  have hbl := hown.lt
  clear h
  refine (callsIn_wide (n := 6)).1 ?_
  have hseq : SeqGives Fence.wide 2 Tryd.prog 71 #[.pointer (some ⟨w.heap.size, 0, none⟩)] encZ (fun ss => ss.Perm (intKeys D0)) (Maps.size D0) (w.alloc (.cells #[.map (some mb)] 61)) :=
    AnyZI.keys_gives (ρ := Tryd.keysA_ren) { Tryd.keysA with } Fence.wide _ trivial rfl (by omega) w.heap.size mb nn D0 _ (by simp) (by simp) (by
      obtain ⟨es, clock, hb, Ft, hs, hD⟩ := hown
      exact ⟨es, clock, (Below.heap_alloc _ _ mb hbl).trans hb, Ft, hs, hD⟩)
  have cK : ∀ mb W, CallsIn Fence.wide 5 Tryd.prog 57 #[.map mb] W fun e w' => e = .returned (.func (.func 71) #[] #[.pointer (some ⟨W.heap.size, 0, none⟩)]) ∧ w' = W.alloc (.cells #[.map mb] 61) := fun mb W => AnyZI.keys_in Tryd.keysA Fence.wide 5 trivial rfl mb W
  have cS := AnyZI.sorted_in Tryd.sortedA Fence.wide 5 trivial trivial trivial trivial rfl (by omega) (sortsHere _) (enters_of Tryd.func70 (by kernel_rfl) rfl) 71 #[.pointer (some ⟨w.heap.size, 0, none⟩)] trivial (enters_of Tryd.func71 (by kernel_rfl) rfl) _ _ (by simp [maxLen]; omega) (by omega) _ hseq
  change CallsIn _ _ Tryd.prog 56 _ _ _ at cS
  have hfK : Fence.wide.fn 57 := trivial
  have hfS : Fence.wide.fn 56 := trivial
  clear hseq hown
  refine callsIn_of_wp Tryd.func38 rfl trivial ?_ rfl
  simp only [Tryd.ntmps38, List.size_toArray, List.length_cons, List.length_nil, Nat.reduceAdd, Nat.reduceSub, Array.replicate_succ, Array.replicate_zero, List.push_toArray, List.append_toArray, List.nil_append, List.cons_append]
  gi_wp2_with (first
    | (gi_at_call 57; refine (cK _ _).mono ?_; rintro e w' ⟨rfl, rfl⟩)
    | (gi_at_call 56; refine cS.mono ?_; rintro e w' ⟨vr, ss, rfl, hP, hrow, hnil, hb⟩))
  go_ret
  have hP2 := hP.trans hpm
  rw [mergeSort_reachL hP2, hP2.length_eq] at hrow
  have hB : Below w.heap.size w w' := ((Below.refl _ w).alloc (Nat.le_refl _) _).trans (hb.mono (by simp))
  have hrow2 : w'.ownsRow w.heap.size 3 1 vr (reachL st.met).length ((reachL st.met).map (Value.int .i64)) := ownsRow_base hrow (fun k hk => Nat.le_trans (by simp) (hrow.lt k hk).1)
  rcases hrow2.2 with ⟨hv, h0⟩ | ⟨g, cap, cur, hv, hrest⟩
  · have h0' : reachL st.met = [] := List.length_eq_zero_iff.1 h0
    refine ⟨none, 0, by rw [h0']; exact congrArg Ending.returned hv, ?_, hB⟩
    rw [h0']
    exact ownI_nil _ _ _ (Nat.le_refl _)
  · refine ⟨some ⟨g, 0, none⟩, cap, congrArg Ending.returned hv, ⟨?_, Nat.le_refl _, fun k hk => ?_⟩, hB⟩
    · rw [← hv]; exact hrow2
    · rw [← hv] at hk; exact (hrow2.lt k hk).2
end Go.Proofs.YtgbpnepipknjnaaDoor

/- The walk of impl.Reach. -/
namespace Go.Proofs.YtgbpnepipknjnaaDoor
open Go.RowKit

set_option maxHeartbeats 2000000 in
set_option maxRecDepth 100000 in
theorem implReach_any (a : Option Addr) (c : Nat) (ss : List SlotA) (root : Int) (w : World) (hg : ErrT w) (hr : ReadsVw w a ss) (hl : ss.length ≤ 1099511627776) (hf : Fit ss) :
    Calls Tryd.prog 12 #[.slice a ss.length c, .int .i64 root] w fun e w' => ReachAns w (reachV (vsOf ss) root) e w' := by
  have C := implViewOk_any a c ss w hg hr hl hf
  cases hvb : viewB (vsOf ss) with
  | false =>
    rw [hvb] at C
    have HR : Hid (reachV (vsOf ss) root = []) := by rw [Hid, reachV, hvb]; rfl
    rw [HR.out]
    clear hvb HR hr hf hg
    go_enter Tryd.func12, Tryd.ntmps12
    go_wp2_with fail
    refine C.mono ?_
    rintro e w1 ⟨rfl, hb1⟩
    have HA := reachAns_none hb1
    clear C
    go_wp2_with fail
    go_ret
    exact HA
  | true =>
    rw [hvb] at C
    have h32 : ss.length = 32 := by have := viewB_len32 hvb; rwa [vsOf_len] at this
    have H32 : Hid (ss.length = 32) := h32
    rw [h32] at C ⊢
    clear h32 hl
    by_cases hri : 1 ≤ root ∧ root ≤ 31
    · have CO := oidOk_in root hri.1 hri.2
      obtain ⟨rn, rfl⟩ : ∃ rn : Nat, root = rn := ⟨root.toNat, by omega⟩
      obtain ⟨b, off, rfl, _⟩ := hr (by intro e; have := H32.out; rw [e] at this; simp at this)
      have HR : Hid (reachV (vsOf ss) rn = reachL (runM (vsOf ss) 40 rn).met) := by rw [Hid, reachV, hvb]; simp [inB, hri.1, hri.2]
      have HLEN : Hid ((runM (vsOf ss) 40 rn).met.length = 32) := runM_len (viewB_rng hvb) (by omega) (by omega)
      have HFROM : Hid (∀ (w0 u : World) (M mb : Nat), Below w.heap.size w w0 → MkAt w0 u M mb (.slice (some ⟨b, off, none⟩) 32 c) 40 emptyM → Calls Tryd.prog 37 #[.pointer (some ⟨M, 0, none⟩), .int .i64 (rn : Int)] u fun e w' => (∃ v, e = .returned v) ∧ MkAt w0 w' M mb (.slice (some ⟨b, off, none⟩) 32 c) 40 (runM (vsOf ss) 40 rn)) := fun w0 u M mb hw h => from_any (by omega) (by omega) hvb rn (by omega) u (hr.below hw) H32.out h
      rw [HR.out]
      clear hvb HR hr hf hg H32
      generalize runM (vsOf ss) 40 rn = FN at *
      obtain ⟨RL, HRL⟩ : ∃ RL, Hid (reachL FN.met = RL) := ⟨_, rfl⟩
      rw [HRL.out]
      go_enter Tryd.func12, Tryd.ntmps12
      go_wp2_with fail
      refine C.mono ?_
      rintro e w1 ⟨rfl, hb1⟩
      clear C
      go_wp2_with fail
      refine (CO w1).mono ?_
      rintro e w2 ⟨rfl, rfl⟩
      clear CO
      go_wp2_with fail
      refine (markingOf_any (some ⟨b, off, none⟩) 32 c 40 w2).mono ?_
      rintro e w3 ⟨M, mb, rfl, hM3⟩
      have C3 := HFROM.out w2 w3 M mb hb1 hM3
      clear HFROM hM3
      go_wp2_with fail
      refine C3.mono ?_
      clear C3
      rintro e w4 ⟨⟨x4, rfl⟩, hM4⟩
      have C5 := reached_any HLEN.out hM4
      rw [HRL.out] at C5
      have hb4 := hM4.bel
      clear hM4
      go_wp2_with fail
      refine C5.mono ?_
      rintro e w5 ⟨a5, c5, rfl, ho5, hb5⟩
      have hB4 : Below w.heap.size w w4 := hb1.trans (hb4.mono hb1.size)
      have HA : Hid (ReachAns w RL (.returned (.slice a5 RL.length c5)) w5) := ⟨a5, c5, rfl, ho5.widen hB4.size (Nat.le_refl _) (Nat.le_refl _), hB4.trans (hb5.mono hB4.size)⟩
      clear C5 hb4 ho5 hb5 hB4
      go_wp2_with fail
      go_ret
      exact HA.out
    · have HR : Hid (reachV (vsOf ss) root = []) := by
        rw [Hid, reachV, if_neg]
        simp only [Bool.and_eq_true]
        exact fun h => hri (by simpa [inB] using h.2)
      have CO := oidOk_out root hri
      rw [HR.out]
      clear hvb HR hr hf hg hri
      go_enter Tryd.func12, Tryd.ntmps12
      go_wp2_with fail
      refine C.mono ?_
      rintro e w1 ⟨rfl, hb1⟩
      have HA := reachAns_none hb1
      clear C
      go_wp2_with fail
      refine (CO w1).mono ?_
      rintro e w2 ⟨rfl, rfl⟩
      clear CO
      go_wp2_with fail
      go_ret
      exact HA
end Go.Proofs.YtgbpnepipknjnaaDoor

/- What came in, read: a slice of bytes. -/
namespace Go.Proofs.YtgbpnepipknjnaaDoor
open Go.ChangeShapes Go.WideShapes Go.ChangeAt Go.RowKit

section
variable {H : Type} {enc : TypeId × Value → H} {w : World} {base : Nat} {spare : Nat → Bool} {held : Bool}

theorem trod_bytes {fuel : Nat} {cs : List Value} {x : DataW H × List MemPlace} (h : DataW.trod enc Tryd.prog w base spare held fuel 22 cs = some x) :
    ∃ (a : Option Addr) (c : Nat) (ns : List Int), cs = [.slice a ns.length c] ∧ Reads w a ns ∧ (a = none → c = 0) ∧ ns.length ≤ maxLen := by
  rcases open_ints Tryd.underlying22 Tryd.underlying5 (by kernel_rfl) h with ⟨rfl, _⟩ | ⟨a, len, cap, zs, rfl, _, hl, hm, hz, _, hcell, hwf⟩
  · exact ⟨none, 0, [], rfl, ⟨by simp, by simp⟩, fun _ => rfl, by simp⟩
  · have hlz : len ≤ zs.length := by rw [hz]; split <;> omega
    refine ⟨some a, cap, zs.take len, by simp; omega, ⟨fun z hzz => ?_, ?_⟩, (fun h => by cases h), by simp; omega⟩
    · have := hwf z (List.mem_of_mem_take hzz)
      simp [Lit.wf, IntKind.min, IntKind.max, IntKind.signed, IntKind.bits] at this
      omega
    · intro hne
      have hpos := List.length_pos_iff.2 hne
      simp at hpos
      obtain ⟨b, off, spot⟩ := a
      have hc0 := hcell 0 (by omega)
      have hspot : spot = none := by simpa [Addr.add] using World.cell?_spot hc0
      subst hspot
      refine ⟨b, off, rfl, fun i hi => ?_⟩
      have hi' : i < len := by simp at hi; omega
      have := hcell i (by omega)
      have e : (List.take len zs).getD i 0 = zs.getD i 0 := by simp [List.getD, hi']
      rw [e, ← Addr_add]
      exact this

set_option maxRecDepth 100000 in
/-- A slice of bytes that came in as an argument. -/
theorem open_bytes {b0 : Nat} {v : Value} {d : DataW H} {ps : List MemPlace} (hval : Value.okWide Tryd.prog w .any b0 22 v) (h : DataW.Trod enc Tryd.prog w base spare held 22 v d ps) :
    ∃ (a : Option Addr) (c : Nat) (ns : List Int), v = .slice a ns.length c ∧ Reads w a ns ∧ (a = none → c = 0) ∧ ns.length ≤ maxLen := by
  obtain ⟨a, len, cap, hv⟩ := okWide_slice (e := 5) Tryd.underlying22 hval
  subst hv
  obtain ⟨fuel, hf⟩ := h
  have e : (Value.slice a len cap).cells.toList = [Value.slice a len cap] := rfl
  rw [e] at hf
  obtain ⟨a', c', ns, hc, rest⟩ := trod_bytes hf
  simp only [List.cons.injEq, and_true] at hc
  exact ⟨a', c', ns, hc, rest⟩
end
end Go.Proofs.YtgbpnepipknjnaaDoor

/- The walk of laws.FnMarked. -/
namespace Go.Proofs.YtgbpnepipknjnaaDoor
open Go.RowKit

theorem reachL_any {S : List Bool} (hS : S.length = 32) (i : Nat) (hi : i < 32) : (reachL S).any (· == (i : Int)) = S.getD i false := by
  have e : metM S (i : Int) = S.getD i false := by rw [metM, Int.toNat_natCast]
  rw [← e, Bool.eq_iff_iff, List.any_eq_true]
  constructor
  · rintro ⟨x, hx, hb⟩
    rw [beq_iff_eq.1 hb] at hx
    exact ((reachL_mem hS _).1 hx).2
  · intro h
    exact ⟨_, (reachL_mem hS _).2 ⟨by omega, h⟩, by simp⟩

set_option maxHeartbeats 4000000 in
set_option maxRecDepth 100000 in
theorem lawMarked_walk (a : Option Addr) (c : Nat) (zs : List Int) (w : World) (hg : ErrT w) (hr : Reads w a zs) :
    Calls Tryd.prog 3 #[.slice a zs.length c] w fun e w' => e = .returned (.bool true) ∧ Below w.heap.size w w' := by
  have C0 := big_any a c zs.length w
  by_cases hbig : 1048576 < zs.length
  · rw [decide_eq_true hbig] at C0
    go_enter Tryd.func3, Tryd.ntmps3
    go_wp2_with fail
    refine C0.mono ?_
    rintro e w' ⟨rfl, rfl⟩
    go_wp2
    go_ret
    exact ⟨rfl, Below.refl _ _⟩
  rw [decide_eq_false hbig] at C0
  have hzl : zs.length ≤ 70368744177664 := by omega
  clear hbig
  go_enter Tryd.func3, Tryd.ntmps3
  go_wp2_with fail
  refine C0.mono ?_
  rintro e w0 ⟨rfl, rfl⟩
  clear C0
  go_wp2_with fail
  refine (drawHeap_any a c zs w0 hr hzl).mono ?_
  rintro e w1 ⟨g, ts, rfl, hts, ho1, hb1⟩
  go_wp2_with fail
  refine (at_any a c zs 2 w1 (hr.below hb1) hzl (by omega)).mono ?_
  rintro e w2 ⟨⟨n2, hn2, rfl⟩, rfl⟩
  obtain ⟨r, hr31, e2⟩ : ∃ r : Nat, r < 31 ∧ (n2 : Int).tmod 31 = (r : Int) := ⟨n2 % 31, Nat.mod_lt _ (by omega), by rw [Int.tmod_eq_emod_of_nonneg (by omega)]; omega⟩
  have hE1 : ErrT w2 := hg.keep hb1
  obtain ⟨root, hroot⟩ : ∃ root : Int, Hid (1 + (r : Int) = root) := ⟨_, rfl⟩
  have HRR : Hid (1 ≤ root ∧ root ≤ 31) := by rw [Hid, ← hroot.out]; omega
  obtain ⟨hT1, hT2, hT3⟩ := hts.out
  have HRV : Hid (reachV (vsOf ts) root = reachL (runM (vsOf ts) 40 root).met) := by
    rw [Hid, reachV, if_pos]
    rw [hT2]
    simp [inB, HRR.out.1, HRR.out.2]
  have C1 := implReach_any (some ⟨g, 0, none⟩) 32 ts root w2 hE1 ho1.reads (by omega) hT3
  rw [HRV.out, hT1] at C1
  clear hn2
  go_upto_region 5 with fail
  rw [hroot.out]
  clear e2
  go_wp2_with fail
  refine C1.mono ?_
  clear C1
  rintro e w3 ⟨a3, c3, rfl, ho3, hb3⟩
  obtain ⟨FM, HFM⟩ : ∃ FM, Hid ((runM (vsOf ts) 40 root).met = FM) := ⟨_, rfl⟩
  obtain ⟨HL, _, HRM⟩ := runM_reach (viewB_rng hT2) (most := 40) (by decide) (by decide) (show 0 ≤ root ∧ root ≤ 31 by have := HRR.out; omega)
  have HLEN : Hid (FM.length = 32) := by rw [Hid, ← HFM.out]; exact HL
  have HSAME : Hid (∀ mn : Nat, 1 ≤ mn → mn ≤ 40 → (runM (vsOf ts) mn root).met = FM ∧ 0 ≤ (runM (vsOf ts) mn root).anew) := fun mn h1 h2 => by
    obtain ⟨q1, q2, q3⟩ := runM_reach (viewB_rng hT2) (most := mn) h1 h2 (show 0 ≤ root ∧ root ≤ 31 by have := HRR.out; omega)
    refine ⟨?_, q2⟩
    rw [← HFM.out]
    exact met_ext q1 HL (fun i hi => (q3 i hi).trans (HRM i hi).symm)
  have H40 : Hid ((runM (vsOf ts) 40 root).anew = 0) := runM_forty (viewB_rng hT2) (show 0 ≤ root ∧ root ≤ 31 by have := HRR.out; omega)
  have HMV : Hid (∀ mn : Nat, 1 ≤ mn → mn ≤ 40 → markV (vsOf ts) root mn = (FM, (runM (vsOf ts) mn root).anew)) := fun mn h1 h2 => by
    rw [markV_yes (by rw [hT2]; simp [inB, HRR.out.1, HRR.out.2]; omega), Int.toNat_natCast, (HSAME.out mn h1 h2).1]
  rw [HFM.out] at ho3 ⊢
  have hRl : (reachL FM).length ≤ 32 := reachTo_len FM 32
  have HAM : Hid (∀ i : Nat, i < 32 → (reachL FM).any (· == (i : Int)) = FM.getD i false) := fun i hi => reachL_any HLEN.out i hi
  obtain ⟨RL, HRL⟩ : ∃ RL, Hid (reachL FM = RL) := ⟨_, rfl⟩
  rw [HRL.out] at ho3 hRl HAM ⊢
  have B3 : Below w0.heap.size w0 w3 := hb1.trans (hb3.mono hb1.size)
  have hv3 := ho1.below hb3
  have CM : Hid (∀ (u : World) (mn : Nat), 1 ≤ mn → mn ≤ 40 → Below w2.heap.size w2 u → Calls Tryd.prog 13 #[.slice (some ⟨g, 0, none⟩) 32 32, .int .i64 root, .int .i64 (mn : Int)] u fun e w' => ∃ a' c' t, e = .returned (.tuple #[.slice a' 32 c', .int .i64 t]) ∧ 0 ≤ t ∧ (mn = 40 → t = 0) ∧ OwnBl w' u.heap.size w'.heap.size a' c' FM ∧ Below u.heap.size u w') := fun u mn h1 h2 hu => by
    have h3 := implMark_any (some ⟨g, 0, none⟩) 32 ts root mn u (hE1.keep hu) (ho1.below hu).reads (by omega) hT3
    rw [hT1, HMV.out mn h1 h2] at h3
    refine h3.mono ?_
    rintro e w' ⟨a', c', rfl, h5, h6⟩
    exact ⟨a', c', _, by rw [HLEN.out], (HSAME.out mn h1 h2).2, fun e => by subst e; exact H40.out, h5, h6⟩
  have CV : Hid (∀ u : World, Below w2.heap.size w2 u → Calls Tryd.prog 15 #[.slice (some ⟨g, 0, none⟩) 32 32] u fun e w' => e = .returned (.bool true) ∧ Below u.heap.size u w') := fun u hu => by
    have h3 := implViewOk_any (some ⟨g, 0, none⟩) 32 ts u (hE1.keep hu) (ho1.below hu).reads (by omega) hT3
    rw [hT1, hT2] at h3
    exact h3
  clear HRM HL HMV H40 HSAME HFM HRL HRV hts hT1 hT2 hT3 hE1 ho1 hv3 hroot
  go_wp2_with fail
  refine (at_any a c zs 3 w3 (hr.below B3) hzl (by omega)).mono ?_
  rintro e w4 ⟨⟨n3, hn3, rfl⟩, rfl⟩
  obtain ⟨m, hm5, e3⟩ : ∃ m : Nat, m < 5 ∧ (n3 : Int).tmod 5 = (m : Int) := ⟨n3 % 5, Nat.mod_lt _ (by omega), by rw [Int.tmod_eq_emod_of_nonneg (by omega)]; omega⟩
  have C5 := CM.out w4 (1 + m) (by omega) (by omega) hb3
  rw [show ((1 + m : Nat) : Int) = 1 + (m : Int) by omega] at C5
  clear hn3
  go_wp2_with fail
  refine C5.mono ?_
  clear C5
  rintro e w5 ⟨a5, c5, t5, rfl, ht5, _, ho5, hb5⟩
  have hb35 := hb3.trans (hb5.mono hb3.size)
  have C6 := CM.out w5 40 (by omega) (by omega) hb35
  have ht5' : ¬ t5 < 0 := by omega
  clear e3 CM
  go_wp2_with fail
  refine C6.mono ?_
  clear C6
  rintro e w6 ⟨a6, c6, t6, rfl, _, ht6, ho6, hb6⟩
  have ht60 : t6 = 0 := ht6 trivial
  subst ht60
  have hb36 := hb35.trans (hb6.mono hb35.size)
  replace ho3 := (ho3.below hb5).below hb6
  replace ho5 := ho5.below hb6
  have hB6 : Below w0.heap.size w0 w6 := hb1.trans (hb36.mono hb1.size)
  have HRD : Hid (∀ u, Below w6.heap.size w6 u → ReadsI u a3 RL) := fun u hu => (ho3.below hu).reads
  obtain ⟨b5, o5, rfl, hc5⟩ := ho5.reads (by intro e; have := HLEN.out; rw [e] at this; simp at this)
  obtain ⟨b6, o6, rfl, hc6⟩ := ho6.reads (by intro e; have := HLEN.out; rw [e] at this; simp at this)
  have HC5 : Hid (∀ u, Below w6.heap.size w6 u → ∀ i, i < 32 → u.cell? ⟨b5, o5 + i, none⟩ = some (.bool (FM.getD i false))) := fun u hu i hi => (hu.cell (block_lt (hc5 i (by rw [HLEN.out]; exact hi)))).trans (hc5 i (by rw [HLEN.out]; exact hi))
  have HC6 : Hid (∀ u, Below w6.heap.size w6 u → ∀ i, i < 32 → u.cell? ⟨b6, o6 + i, none⟩ = some (.bool (FM.getD i false))) := fun u hu i hi => (hu.cell (block_lt (hc6 i (by rw [HLEN.out]; exact hi)))).trans (hc6 i (by rw [HLEN.out]; exact hi))
  clear hc5 hc6 ho3 ho5 ho6 hb5 hb6 hb35 ht6 ht5 hm5 hr31 HRR HLEN
  go_wp2_with fail
  go_loopg [10] 32 (fun k v10 wr => ∃ n : Nat, n ≤ 32 ∧ 32 - n ≤ k ∧ v10 = .int .i64 n ∧ Below w6.heap.size w6 wr)
  case atStart => exact ⟨0, by omega, by omega, rfl, Below.refl _ _⟩
  case round =>
    obtain ⟨n, hn, hnk, rfl, hbr⟩ := hrel
    by_cases hlt : n < 32
    · have x5 := HC5.out wr hbr n hlt
      have x6 := HC6.out wr hbr n hlt
      have hnI : (n : Int) < 32 := by omega
      have hA := HAM.out n hlt
      have HQ : Hid (∀ p, Calls Tryd.prog 14 #[.slice a3 RL.length c3, .int .i64 (n : Int)] (wr.drewN p) fun e w' => e = .returned (.bool (FM.getD n false)) ∧ w' = wr.drewN p) := fun p => by
        have := among_any a3 c3 RL n (wr.drewN p) (HRD.out _ (below_drewN hbr p)) (by omega)
        rwa [hA] at this
      clear hA HC5 HC6 HAM HRD CV
      generalize FM.getD n false = mt at *
      cases mt
      all_goals
        go_wp2_with fail
        go_quiet ((go_at_call 14; exact Calls.quiet_of_same (HQ.out _)))
        have hbn := below_drewN hbr nq
        go_wp2_with fail
        go_roundg (gk - 1)
        case rel => exact ⟨n + 1, by omega, by omega, by go_num, hbn⟩
        case measure => omega
    · obtain rfl : n = 32 := by omega
      have C9 := CV.out wr (hb36.trans (hbr.mono hb36.size))
      have hB9 := hB6.trans (hbr.mono hB6.size)
      clear HC5 HC6 HAM HRD CV
      go_wp2_with fail
      refine C9.mono ?_
      rintro e w9 ⟨rfl, hb9⟩
      go_wp2
      go_ret
      exact ⟨rfl, hB9.trans (hb9.mono hB9.size)⟩
end Go.Proofs.YtgbpnepipknjnaaDoor

/- What the row's condition on errors.errorType gives a walk; a world that meets it. -/
namespace Go.Proofs.YtgbpnepipknjnaaDoor
open Go.ChangeShapes Go.WideShapes Go.RowKit

theorem Tryd.et : Tryd.prog.globalNamed "errors.errorType" = some 0 := by kernel_rfl
theorem Tryd.rt : (Tryd.prog.cutTypes.find? (·.1 == "internal/reflectlite.rtype")).map (·.2) = some 144 := by kernel_rfl
theorem Tryd.oneRow : ((List.range 186).filter fun t => Tryd.prog.rowNamed t [101, 114, 114, 111, 114]) = [102] := by kernel_rfl
theorem Tryd.typesSize : Tryd.prog.types.size = 186 := by kernel_rfl

theorem errT_of_handles {W : World} {laid : List (String × DataW Unit)} (hm : ("errors.errorType", Rows.laid_errors_errorType) ∈ laid) (h : handlesMet Tryd.prog laid W) : ErrT W := by
  obtain ⟨name, u, ty, e1, e2, e3, e4, e5⟩ := h _ hm
  have en : name = [101, 114, 114, 111, 114] := (Option.some.inj e1).symm
  subst en
  obtain rfl := Option.some.inj (Tryd.rt.symm.trans e2)
  have hm : ty ∈ (List.range 186).filter fun t => Tryd.prog.rowNamed t [101, 114, 114, 111, 114] := List.mem_filter.2 ⟨List.mem_range.2 (by rw [← Tryd.typesSize]; exact e3), e4⟩
  rw [Tryd.oneRow] at hm
  obtain rfl := List.mem_singleton.1 hm
  have hh : typeHandle Tryd.prog 102 = .pointer (some ⟨1, 102, none⟩) := by kernel_rfl
  rw [hh] at e5
  unfold ErrT
  simpa using World.var?_cell Tryd.et e5 0

/-- The one listed variable. -/
def laid1 : List (String × DataW Unit) := [("errors.errorType", Rows.laid_errors_errorType)]
theorem errT_of_laid1 {W : World} (h : laidMetH Tryd.prog laid1 W) : ErrT W := by
  have h' : laidMet Tryd.prog [] W ∧ handlesMet Tryd.prog laid1 W := h
  exact errT_of_handles (List.mem_singleton.2 rfl) h'.2
end Go.Proofs.YtgbpnepipknjnaaDoor
