/- Several texts in one, in their order. -/
import Derived.Test.YtgbpnepipknjnaaDoorPReachx14
import Derived.Test.YtgbpnepipknjnaaDoorPReachx10
import Derived.Lib.SlKeysI
import Derived.Maps.OwnSet
import Derived.Test.YtgbpnepipknjnaaDoorShelf
import Derived.Test.YtgbpnepipknjnaaDoorPReachx11
import Derived.Test.YtgbpnepipknjnaaDoorPReachx12
/- The walk of spec.Reach. -/
namespace Go.Proofs.YtgbpnepipknjnaaDoor
open Go.RowKit

def reachV (vs : List SlotV) (root : Int) : List Int := if (viewB vs && inB root 1 31) = true then reachL (runM vs 40 root).met else []
def ReachAns (w : World) (R : List Int) (e : Ending) (w' : World) : Prop := ∃ a' c', e = .returned (.slice a' R.length c') ∧ OwnI w' w.heap.size w'.heap.size a' c' R ∧ Below w.heap.size w w'
theorem reachAns_none {w w1 : World} (hb : Below w.heap.size w w1) : ReachAns w [] (.returned (.slice (some ⟨w1.heap.size, 0, none⟩) 0 0)) (w1.alloc (.cells #[] 3)) := ⟨_, _, rfl, (ownI_lit0 w1).widen hb.size (by simp) (Nat.le_refl _), hb.alloc hb.size _⟩
theorem bl_cell {w : World} {lo hi g c : Nat} {S : List Bool} (h : OwnBl w lo hi (some ⟨g, 0, none⟩) c S) {k : Nat} (hk : k < S.length) : w.cell? ⟨g, k, none⟩ = some (.bool (S.getD k false)) := by
  obtain ⟨b, off, e, hc⟩ := h.reads (by intro e; rw [e] at hk; simp at hk)
  simp only [Option.some.injEq, Addr.mk.injEq, and_true] at e
  obtain ⟨rfl, rfl⟩ := e
  have := hc k hk
  rwa [Nat.zero_add] at this

set_option maxHeartbeats 2000000 in
set_option maxRecDepth 100000 in
theorem specReach_any (a : Option Addr) (c : Nat) (ss : List SlotA) (root : Int) (w : World) (hr : ReadsVw w a ss) (hf : Fit ss) :
    Calls Tryd.prog 23 #[.slice a ss.length c, .int .i64 root] w fun e w' => ReachAns w (reachV (vsOf ss) root) e w' := by
  obtain ⟨V, HVV, _, hbV, hsV⟩ := boxes1 w [] 3
  have hoV : OwnI V w.heap.size V.heap.size (some ⟨w.heap.size, 0, none⟩) 0 [] := by
    have := (ownI_lit0 w).widen (lo' := w.heap.size) (hi' := (w.alloc (.cells #[] 3)).heap.size) (Nat.le_refl _) (by simp) (Nat.le_refl _)
    rw [← HVV.out]
    exact this
  have C := l11Call_any a c ss root V (hr.below hbV) hf
  cases hvb : viewB (vsOf ss) && inB root 1 31 with
  | false =>
    rw [hvb] at C
    have HR : Hid (reachV (vsOf ss) root = []) := by rw [Hid, reachV, hvb]; rfl
    rw [HR.out]
    clear hvb HR hr hf hsV
    go_enter Tryd.func23, Tryd.ntmps23
    go_upto_region 2 with fail
    rw [HVV.out]
    go_wp2_with fail
    refine C.mono ?_
    rintro e w1 ⟨rfl, hb1⟩
    have HA : Hid (ReachAns w [] (.returned (.slice (some ⟨w.heap.size, 0, none⟩) 0 0)) w1) := ⟨_, _, rfl, (hoV.below hb1).widen (Nat.le_refl _) hb1.size (Nat.le_refl _), hbV.trans (hb1.mono hbV.size)⟩
    clear C
    go_wp2_with fail
    go_ret
    exact HA.out
  | true =>
    simp only [Bool.and_eq_true] at hvb
    obtain ⟨hv, hri⟩ := hvb
    have hri' : 1 ≤ root ∧ root ≤ 31 := by simpa [inB] using hri
    have h32 : ss.length = 32 := by have := viewB_len32 hv; rwa [vsOf_len] at this
    obtain ⟨rn, rfl⟩ : ∃ rn : Nat, root = rn := ⟨root.toNat, by omega⟩
    obtain ⟨b, off, rfl, _⟩ := hr (by intro e; rw [e] at h32; simp at h32)
    have HR : Hid (reachV (vsOf ss) rn = reachL (runM (vsOf ss) 40 rn).met) := by rw [Hid, reachV, hv, hri]; rfl
    have HLEN : Hid ((runM (vsOf ss) 40 rn).met.length = 32) := runM_len (viewB_rng hv) (by omega) (by omega)
    have HRE : Hid (∀ u, Below V.heap.size V u → Calls Tryd.prog 46 #[.slice (some ⟨b, off, none⟩) 32 c, .int .i64 (rn : Int)] u fun e w' => ∃ g, e = .returned (.slice (some ⟨g, 0, none⟩) 32 32) ∧ OwnBl w' u.heap.size w'.heap.size (some ⟨g, 0, none⟩) 32 (runM (vsOf ss) 40 rn).met ∧ Below u.heap.size u w') := fun u hu => l11Reach_any b off c ss rn (by omega) hv u ((hr.below hbV).below hu) h32
    rw [hv, hri, h32] at C
    rw [HR.out, h32]
    clear hr hf h32 hv hri HR hsV
    generalize (runM (vsOf ss) 40 rn).met = FM at *
    obtain ⟨hr1, hr2⟩ := hri'
    go_enter Tryd.func23, Tryd.ntmps23
    go_upto_region 2 with fail
    rw [HVV.out]
    clear HVV
    go_wp2_with fail
    refine C.mono ?_
    rintro e w1 ⟨rfl, hb1⟩
    have C2 := HRE.out w1 hb1
    clear C HRE
    go_wp2_with fail
    refine C2.mono ?_
    rintro e w2 ⟨g, rfl, ho2, hb2⟩
    have hg1 : w1.heap.size ≤ g := (ho2.1.lt g rfl).1
    have HS0 : Hid (OwnI w2 w.heap.size w2.heap.size (some ⟨w.heap.size, 0, none⟩) 0 (reachTo FM 0) ∧ OwnBl w2 w1.heap.size w2.heap.size (some ⟨g, 0, none⟩) 32 FM ∧ (∀ k, (Value.slice (some ⟨w.heap.size, 0, none⟩) (reachTo FM 0).length 0).ownBlock = some k → k ≠ g) ∧ Below w.heap.size w w2) := by
      have h1 := ((hoV.below hb1).below hb2).widen (Nat.le_refl _) (show V.heap.size ≤ w2.heap.size from Nat.le_trans hb1.size hb2.size) (Nat.le_refl _)
      refine ⟨h1, ho2, fun k hk => ?_, (hbV.trans (hb1.mono hbV.size)).trans (hb2.mono (Nat.le_trans hbV.size hb1.size))⟩
      have h3 := hoV.2.2 k (by simpa [Value.ownBlock] using hk)
      have := hb1.size
      omega
    have hlow : w.heap.size ≤ w1.heap.size := Nat.le_trans hbV.size hb1.size
    clear C2 ho2 hb2 hb1 hoV hbV
    go_wp2_with fail
    go_loopw [5, 7] (fun v5 i wr => ∃ (n : Nat) (a : Option Addr) (c : Nat), n ≤ 32 ∧ (reachTo FM n).length ≤ n ∧ i = .int .i64 n ∧ v5 = .slice a (reachTo FM n).length c ∧ Hid (OwnI wr w.heap.size wr.heap.size a c (reachTo FM n) ∧ OwnBl wr w1.heap.size wr.heap.size (some ⟨g, 0, none⟩) 32 FM ∧ (∀ k, (Value.slice a (reachTo FM n).length c).ownBlock = some k → k ≠ g) ∧ Below w.heap.size w wr)) (fun _ i _ => 32 - (intOf i).toNat)
    case atStart => exact ⟨0, _, _, by omega, by simp [reachTo], rfl, rfl, HS0⟩
    case round =>
      obtain ⟨n, a, c5, hn, hln, rfl, rfl, hI⟩ := hrel
      clear HS0
      by_cases hlt : n < 32
      · have m0 := bl_cell hI.out.2.1 (k := n) (by rw [HLEN.out]; exact hlt)
        have HST : Hid (_ = _) := reachTo_step FM n
        have hnI : (n : Int) < 32 := by omega
        have HLN2 : Hid (_) := reachTo_len FM (n + 1)
        generalize FM.getD n false = mt at *
        obtain ⟨R, HRR⟩ : ∃ R, Hid (reachTo FM n = R) := ⟨_, rfl⟩
        rw [HRR.out] at hI hln HST ⊢
        cases mt with
        | false =>
          have HQ : Hid (reachTo FM (n + 1) = R) := HST.out
          clear HST HRR
          go_wp2_with fail
          go_roundw
          case rel => exact ⟨n + 1, a, c5, by omega, by rw [HQ.out]; omega, by go_num, by rw [HQ.out], by rw [HQ.out]; exact hI⟩
          case measure => simp [intOf]; omega
        | true =>
          have HQ : Hid (reachTo FM (n + 1) = R ++ [(n : Int)]) := HST.out
          have hlo := hI.out.2.2.2.size
          have ha := (Below.refl wr.heap.size wr).alloc (Nat.le_refl _) (.cells #[.int .i64 (n : Int)] 3)
          have ho := hI.out.1.below ha
          clear HST HRR
          go_wp2_with (first | (at_builtin; refine append_intsM rfl _ _ rfl w.heap.size wr.heap.size a c5 R rfl ho _ _ [(n : Int)] rfl (readsI_one wr n _) (fun h => by cases h) (by simp; omega) (by simp; omega) ?_; intro a4 c4 y4 w4 hy4 ho4 hg4 hk4) | fail)
          have HN : Hid (reachTo FM (n + 1) = y4 ∧ OwnI w4 w.heap.size w4.heap.size a4 c4 y4 ∧ OwnBl w4 w1.heap.size w4.heap.size (some ⟨g, 0, none⟩) 32 FM ∧ (∀ k, (Value.slice a4 y4.length c4).ownBlock = some k → k ≠ g) ∧ Below w.heap.size w w4) := by
            obtain ⟨i1, i2, i3, i4⟩ := hI.out
            have hglt : g < wr.heap.size := i2.2.2 g rfl
            have hm := i2.below ha
            refine ⟨by rw [HQ.out, hy4.out], ho4, ⟨ownsRow_block hm.1 (fun k hk2 => hg4.block k (hm.1.lt k hk2).2 (fun e => by cases hk2; exact i3 g e.symm rfl)), Nat.le_refl _, fun k hk2 => Nat.lt_of_lt_of_le (hm.1.lt k hk2).2 hg4.size⟩, fun k hk2 => ?_, (i4.trans (ha.mono i4.size)).grown hg4 (Nat.le_trans i4.size ha.size) (fun j hj => (i1.1.lt j hj).1)⟩
            rcases hk4 k hk2 with h2 | h2
            · exact i3 k h2
            · simp at h2; omega
          clear ho4 hg4 hk4 hy4 ho hI HQ ha
          go_roundw
          case rel => exact ⟨n + 1, a4, c4, by omega, HLN2.out, by go_num, by rw [HN.out.1], by rw [HN.out.1]; exact HN.out.2⟩
          case measure => simp [intOf]; omega
      · obtain rfl : n = 32 := by omega
        have HQ : Hid (ReachAns w (reachL FM) (.returned (.slice a (reachTo FM 32).length c5)) wr) := ⟨a, c5, rfl, hI.out.1, hI.out.2.2.2⟩
        clear hI
        go_wp2_with fail
        go_ret
        exact HQ.out
end Go.Proofs.YtgbpnepipknjnaaDoor

/- A set as the kit's maps read: its keys are what is marked. -/
namespace Go.Proofs.YtgbpnepipknjnaaDoor
open Go.RowKit Go.Maps Go.MapKept

theorem reachL_nodup (S : List Bool) : (reachL S).Nodup := by
  unfold reachL
  refine List.Pairwise.filter _ ?_
  rw [List.pairwise_map]
  exact List.pairwise_lt_range.imp (fun h => by omega)
theorem reachL_mem {S : List Bool} (hS : S.length = 32) (k : Int) : k ∈ reachL S ↔ (0 ≤ k ∧ metM S k = true) := by
  unfold reachL
  rw [List.mem_filter, List.mem_map]
  constructor
  · rintro ⟨⟨i, _, rfl⟩, h⟩
    exact ⟨by omega, h⟩
  · rintro ⟨h1, h2⟩
    refine ⟨⟨k.toNat, List.mem_range.2 ?_, by omega⟩, h2⟩
    rcases Nat.lt_or_ge k.toNat 32 with h | h
    · exact h
    · rw [metM_out hS (by omega)] at h2; cases h2
theorem reachL_sorted (S : List Bool) : (reachL S).Pairwise (fun a b => decide (a ≤ b) = true) := by
  unfold reachL
  refine List.Pairwise.filter _ ?_
  rw [List.pairwise_map]
  exact List.pairwise_lt_range.imp (fun h => by simp; omega)
theorem rd_set {e : MapEntry} {k : Int} (hk : 0 ≤ k ∧ k ≤ 31) (h1 : e.key = .int .i64 k) (h2 : e.val = .agg #[]) : WideElems.rd Tryd.prog 3 (unitElem (H := Unit)) e = some (.int .i64 k, .agg []) := by
  have hkey : keyOf Tryd.prog 3 e.key = some (.int .i64 k) := by rw [h1]; exact keyOf_int_mk Tryd.underlying3 (WalkArith.wf_i64 (by omega))
  have hv : unitElem (H := Unit) e.val = some (.agg [], []) := by rw [h2]; exact unitElem_mk
  simp [WideElems.rd, hkey, hv]
theorem SetAt.owns {w : World} {B : Nat} {S : List Bool} (hS : S.length = 32) (h : SetAt w B S) : ∃ (n : Nat) (D : DataW Unit), w.ownsMap Tryd.prog 3 (unitElem (H := Unit)) B n D ∧ Maps.size D ≤ 32 ∧ (intKeys D).Perm (reachL S) := by
  obtain ⟨ks, ⟨es, clock, hb, he, hbn⟩, hnd, hmem⟩ := h
  have hrng : ∀ k ∈ ks, 0 ≤ k ∧ k ≤ 31 := fun k hk => by
    obtain ⟨h1, h2⟩ := (hmem k).1 hk
    refine ⟨h1, ?_⟩
    rcases Int.lt_or_le k 32 with h | h
    · omega
    · rw [metM_out hS h] at h2; cases h2
  have hperm : ks.Perm (reachL S) := (List.perm_ext_iff_of_nodup hnd (reachL_nodup S)).2 (fun k => by rw [hmem k, reachL_mem hS k])
  have hlen : es.size = ks.length := by have := congrArg List.length he; simpa using this
  have hks : ks.length ≤ 32 := by
    rw [hperm.length_eq]
    exact reachTo_len S 32
  have each : ∀ e ∈ es.toList, ∃ k ∈ ks, e.key = .int .i64 k ∧ e.val = .agg #[] := fun e hm => by
    have : (e.key, e.val) ∈ es.toList.map (fun e => (e.key, e.val)) := List.mem_map.2 ⟨e, hm, rfl⟩
    rw [he] at this
    obtain ⟨k, hk, h⟩ := List.mem_map.1 this
    simp only [entK, Prod.mk.injEq] at h
    exact ⟨k, hk, h.1.symm, h.2.symm⟩
  have hkeys : (es.toList.map (·.key)).Nodup := by
    have e1 : es.toList.map (·.key) = ks.map (Value.int .i64) := by
      have := congrArg (List.map Prod.fst) he
      simpa [List.map_map, Function.comp_def, entK] using this
    rw [e1]
    refine List.pairwise_map.2 (hnd.imp (fun h e => h ?_))
    simpa using e
  refine ⟨es.size, _, ⟨es, clock, hb, ⟨by rw [hlen]; simp [maxLen]; omega, ⟨hbn.1, hbn.2, hkeys⟩, fun e hm => ?_⟩, Nat.le_refl _, rfl⟩, ?_, ?_⟩
  · obtain ⟨k, hk, h1, h2⟩ := each e hm
    exact ⟨_, rd_set (hrng k hk) h1 h2⟩
  · simp [Maps.size, length_sorted]; omega
  · have e1 : es.toList.map (WideElems.rg Tryd.prog 3 (unitElem (H := Unit))) = ks.map (fun k => (Lit.int .i64 k, (DataW.agg [] : DataW Unit))) := by
      have hk2 : ∀ (l : List MapEntry) (js : List Int), l.map (fun e => (e.key, e.val)) = js.map entK → (∀ k ∈ js, 0 ≤ k ∧ k ≤ 31) → l.map (WideElems.rg Tryd.prog 3 (unitElem (H := Unit))) = js.map (fun k => (Lit.int .i64 k, (DataW.agg [] : DataW Unit))) := by
        intro l
        induction l with
        | nil => intro js h _; cases js with
          | nil => rfl
          | cons => simp at h
        | cons e r ih =>
          intro js h hj
          cases js with
          | nil => simp at h
          | cons k js =>
            simp only [List.map_cons, List.cons.injEq, entK, Prod.mk.injEq] at h
            rw [List.map_cons, List.map_cons, ih js (by simpa [entK] using h.2) (fun x hx => hj x (by simp [hx])), WideElems.rg_of (rd_set (hj k (by simp)) h.1.1 h.1.2)]
      exact hk2 _ _ he hrng
    rw [e1]
    refine List.Perm.trans ?_ hperm
    show (List.map (fun p : Lit × DataW Unit => Go.intOf p.1) _).Perm ks
    refine ((WideShapes.sorted_perm _).map _).trans ?_
    rw [List.map_map]
    have : ((fun p : Lit × DataW Unit => Go.intOf p.1) ∘ fun k => (Lit.int .i64 k, (DataW.agg [] : DataW Unit))) = id := by funext k; rfl
    rw [this, List.map_id]
end Go.Proofs.YtgbpnepipknjnaaDoor

/- A set's keys, sorted: slices.Sorted(maps.Keys(..)) of a marking. -/
namespace Go.Proofs.YtgbpnepipknjnaaDoor
open Go.RowKit Go.Maps Go.Sort Go.Shelf

/-- slices.Sort's two contracts here. -/
theorem sortsHere (m : Nat) : AnyZI.SortsIn Tryd.prog Tryd.sortedA_ren Fence.wide m :=
  ⟨fun blk off cap ss W hH hblk hsz => callsIn_wide.2 (AnyM.slices_Sort_int Tryd.sortA blk off cap ss W hH hblk hsz),
   fun p cap W => callsIn_wide.2 (AnyM.slices_Sort_int_none Tryd.sortA p cap W)⟩

theorem mergeSort_reachL {ss : List Int} {S : List Bool} (h : ss.Perm (reachL S)) : ss.mergeSort (fun x y => decide (x ≤ y)) = reachL S := by
  have e : ss.mergeSort leI = (reachL S).mergeSort leI := mergeSort_of_perm_i h
  have e2 : (reachL S).mergeSort leI = reachL S := List.mergeSort_of_pairwise (reachL_sorted S)
  exact e.trans e2

set_option maxHeartbeats 1000000 in
theorem reached_any {w0 w : World} {M mb most : Nat} {v : Value} {st : MSt} (hS : st.met.length = 32) (h : MkAt w0 w M mb v most st) :
    Calls Tryd.prog 38 #[.pointer (some ⟨M, 0, none⟩)] w fun e w' => ∃ a c, e = .returned (.slice a (reachL st.met).length c) ∧ OwnI w' w.heap.size w'.heap.size a c (reachL st.met) ∧ Below w.heap.size w w' := by
  obtain ⟨aS, cS, h⟩ := h
  have c1 := h.box.cell 1 _ rfl
  obtain ⟨nn, D0, hown, hsz, hpm⟩ := h.set.owns hS
  have hbl := hown.lt
  clear h
  refine (callsIn_wide (n := 6)).1 ?_
  have hseq : SeqGives Fence.wide 2 Tryd.prog 71 #[.pointer (some ⟨w.heap.size, 0, none⟩)] encZ (fun ss => ss.Perm (intKeys D0)) (Maps.size D0) (w.alloc (.cells #[.map (some mb)] 61)) :=
    AnyZI.keys_gives (ρ := Tryd.keysA_ren) { Tryd.keysA with } Fence.wide _ trivial rfl (by omega) w.heap.size mb nn D0 _ (by simp) (by simp) (by
      obtain ⟨es, clock, hb, Ft, hs, hD⟩ := hown
      exact ⟨es, clock, (Below.heap_alloc _ _ mb hbl).trans hb, Ft, hs, hD⟩)
  have cK : ∀ mb W, CallsIn Fence.wide 5 Tryd.prog 57 #[.map mb] W fun e w' => e = .returned (.func (.func 71) #[] #[.pointer (some ⟨W.heap.size, 0, none⟩)]) ∧ w' = W.alloc (.cells #[.map mb] 61) := fun mb W => AnyZI.keys_in Tryd.keysA Fence.wide 5 trivial rfl mb W
  have cS := AnyZI.sorted_in Tryd.sortedA Fence.wide 5 trivial trivial trivial trivial rfl (by omega) (sortsHere _) (enters_of Tryd.func70 (by kernel_rfl) rfl) 71 #[.pointer (some ⟨w.heap.size, 0, none⟩)] trivial (enters_of Tryd.func71 (by kernel_rfl) rfl) _ _ (by simp [maxLen]; omega) (by omega) _ hseq
  change CallsIn _ _ Tryd.prog 56 _ _ _ at cS
  have hfK : Fence.wide.fn 57 := trivial
  have hfS : Fence.wide.fn 56 := trivial
  clear hseq hown
  refine callsIn_of_wp Tryd.func38 rfl trivial ?_ rfl
  simp only [Tryd.ntmps38, List.size_toArray, List.length_cons, List.length_nil, Nat.reduceAdd, Nat.reduceSub, Array.replicate_succ, Array.replicate_zero, List.push_toArray, List.append_toArray, List.nil_append, List.cons_append]
  gi_wp2_with (first
    | (gi_at_call 57; refine (cK _ _).mono ?_; rintro e w' ⟨rfl, rfl⟩)
    | (gi_at_call 56; refine cS.mono ?_; rintro e w' ⟨vr, ss, rfl, hP, hrow, hnil, hb⟩))
  go_ret
  have hP2 := hP.trans hpm
  rw [mergeSort_reachL hP2, hP2.length_eq] at hrow
  have hB : Below w.heap.size w w' := ((Below.refl _ w).alloc (Nat.le_refl _) _).trans (hb.mono (by simp))
  have hrow2 : w'.ownsRow w.heap.size 3 1 vr (reachL st.met).length ((reachL st.met).map (Value.int .i64)) := ownsRow_base hrow (fun k hk => Nat.le_trans (by simp) (hrow.lt k hk).1)
  rcases hrow2.2 with ⟨hv, h0⟩ | ⟨g, cap, cur, hv, hrest⟩
  · have h0' : reachL st.met = [] := List.length_eq_zero_iff.1 h0
    refine ⟨none, 0, by rw [h0']; exact congrArg Ending.returned hv, ?_, hB⟩
    rw [h0']
    exact ownI_nil _ _ _ (Nat.le_refl _)
  · refine ⟨some ⟨g, 0, none⟩, cap, congrArg Ending.returned hv, ⟨?_, Nat.le_refl _, fun k hk => ?_⟩, hB⟩
    · rw [← hv]; exact hrow2
    · rw [← hv] at hk; exact (hrow2.lt k hk).2
end Go.Proofs.YtgbpnepipknjnaaDoor

/- The walk of impl.Reach. -/
namespace Go.Proofs.YtgbpnepipknjnaaDoor
open Go.RowKit

set_option maxHeartbeats 2000000 in
set_option maxRecDepth 100000 in
theorem implReach_any (a : Option Addr) (c : Nat) (ss : List SlotA) (root : Int) (w : World) (hg : ErrT w) (hr : ReadsVw w a ss) (hl : ss.length ≤ 1099511627776) (hf : Fit ss) :
    Calls Tryd.prog 12 #[.slice a ss.length c, .int .i64 root] w fun e w' => ReachAns w (reachV (vsOf ss) root) e w' := by
  have C := implViewOk_any a c ss w hg hr hl hf
  cases hvb : viewB (vsOf ss) with
  | false =>
    rw [hvb] at C
    have HR : Hid (reachV (vsOf ss) root = []) := by rw [Hid, reachV, hvb]; rfl
    rw [HR.out]
    clear hvb HR hr hf hg
    go_enter Tryd.func12, Tryd.ntmps12
    go_wp2_with fail
    refine C.mono ?_
    rintro e w1 ⟨rfl, hb1⟩
    have HA := reachAns_none hb1
    clear C
    go_wp2_with fail
    go_ret
    exact HA
  | true =>
    rw [hvb] at C
    have h32 : ss.length = 32 := by have := viewB_len32 hvb; rwa [vsOf_len] at this
    have H32 : Hid (ss.length = 32) := h32
    rw [h32] at C ⊢
    clear h32 hl
    by_cases hri : 1 ≤ root ∧ root ≤ 31
    · have CO := oidOk_in root hri.1 hri.2
      obtain ⟨rn, rfl⟩ : ∃ rn : Nat, root = rn := ⟨root.toNat, by omega⟩
      obtain ⟨b, off, rfl, _⟩ := hr (by intro e; have := H32.out; rw [e] at this; simp at this)
      have HR : Hid (reachV (vsOf ss) rn = reachL (runM (vsOf ss) 40 rn).met) := by rw [Hid, reachV, hvb]; simp [inB, hri.1, hri.2]
      have HLEN : Hid ((runM (vsOf ss) 40 rn).met.length = 32) := runM_len (viewB_rng hvb) (by omega) (by omega)
      have HFROM : Hid (∀ (w0 u : World) (M mb : Nat), Below w.heap.size w w0 → MkAt w0 u M mb (.slice (some ⟨b, off, none⟩) 32 c) 40 emptyM → Calls Tryd.prog 37 #[.pointer (some ⟨M, 0, none⟩), .int .i64 (rn : Int)] u fun e w' => (∃ v, e = .returned v) ∧ MkAt w0 w' M mb (.slice (some ⟨b, off, none⟩) 32 c) 40 (runM (vsOf ss) 40 rn)) := fun w0 u M mb hw h => from_any (by omega) (by omega) hvb rn (by omega) u (hr.below hw) H32.out h
      rw [HR.out]
      clear hvb HR hr hf hg H32
      generalize runM (vsOf ss) 40 rn = FN at *
      obtain ⟨RL, HRL⟩ : ∃ RL, Hid (reachL FN.met = RL) := ⟨_, rfl⟩
      rw [HRL.out]
      go_enter Tryd.func12, Tryd.ntmps12
      go_wp2_with fail
      refine C.mono ?_
      rintro e w1 ⟨rfl, hb1⟩
      clear C
      go_wp2_with fail
      refine (CO w1).mono ?_
      rintro e w2 ⟨rfl, rfl⟩
      clear CO
      go_wp2_with fail
      refine (markingOf_any (some ⟨b, off, none⟩) 32 c 40 w2).mono ?_
      rintro e w3 ⟨M, mb, rfl, hM3⟩
      have C3 := HFROM.out w2 w3 M mb hb1 hM3
      clear HFROM hM3
      go_wp2_with fail
      refine C3.mono ?_
      clear C3
      rintro e w4 ⟨⟨x4, rfl⟩, hM4⟩
      have C5 := reached_any HLEN.out hM4
      rw [HRL.out] at C5
      have hb4 := hM4.bel
      clear hM4
      go_wp2_with fail
      refine C5.mono ?_
      rintro e w5 ⟨a5, c5, rfl, ho5, hb5⟩
      have hB4 : Below w.heap.size w w4 := hb1.trans (hb4.mono hb1.size)
      have HA : Hid (ReachAns w RL (.returned (.slice a5 RL.length c5)) w5) := ⟨a5, c5, rfl, ho5.widen hB4.size (Nat.le_refl _) (Nat.le_refl _), hB4.trans (hb5.mono hB4.size)⟩
      clear C5 hb4 ho5 hb5 hB4
      go_wp2_with fail
      go_ret
      exact HA.out
    · have HR : Hid (reachV (vsOf ss) root = []) := by
        rw [Hid, reachV, if_neg]
        simp only [Bool.and_eq_true]
        exact fun h => hri (by simpa [inB] using h.2)
      have CO := oidOk_out root hri
      rw [HR.out]
      clear hvb HR hr hf hg hri
      go_enter Tryd.func12, Tryd.ntmps12
      go_wp2_with fail
      refine C.mono ?_
      rintro e w1 ⟨rfl, hb1⟩
      have HA := reachAns_none hb1
      clear C
      go_wp2_with fail
      refine (CO w1).mono ?_
      rintro e w2 ⟨rfl, rfl⟩
      clear CO
      go_wp2_with fail
      go_ret
      exact HA
end Go.Proofs.YtgbpnepipknjnaaDoor

/- The walk of spec.Mark. -/
namespace Go.Proofs.YtgbpnepipknjnaaDoor
open Go.RowKit

end Go.Proofs.YtgbpnepipknjnaaDoor

/- The walk of spec.Mark, whatever its arguments. -/
namespace Go.Proofs.YtgbpnepipknjnaaDoor
open Go.RowKit

end Go.Proofs.YtgbpnepipknjnaaDoor
