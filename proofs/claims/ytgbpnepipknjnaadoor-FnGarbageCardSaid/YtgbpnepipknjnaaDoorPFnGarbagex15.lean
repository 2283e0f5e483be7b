/- Several texts in one, in their order. -/
import Derived.Test.YtgbpnepipknjnaaDoorPFnGarbagex14
import Derived.Test.YtgbpnepipknjnaaDoorPFnGarbagex11
import Derived.Test.YtgbpnepipknjnaaDoorPFnGarbagex12
import Derived.Test.YtgbpnepipknjnaaDoorPFnGarbagex4
import Derived.Deep.Cut
import Derived.Test.YtgbpnepipknjnaaDoorPFnGarbagex9
import Derived.Lib.SlKeysI
import Derived.Maps.OwnSet
import Derived.Test.YtgbpnepipknjnaaDoorShelf
/- The walk of impl.Garbage of a view that is right, from a root that is one. -/
namespace Go.Proofs.YtgbpnepipknjnaaDoor
open Go.RowKit

def garbTo (vs : List SlotV) (S : List Bool) (n : Nat) : List Int := ((List.range n).map (fun i : Nat => (i : Int))).filter (fun i => hasM vs i && !metM S i)
theorem garbTo_step (vs : List SlotV) (S : List Bool) (n : Nat) : garbTo vs S (n + 1) = if (hasM vs n && !(S.getD n false)) = true then garbTo vs S n ++ [(n : Int)] else garbTo vs S n := by
  unfold garbTo
  rw [List.range_succ, List.map_append, List.filter_append]
  have e : metM S (n : Int) = S.getD n false := by rw [metM, Int.toNat_natCast]
  simp only [List.map_cons, List.map_nil, List.filter_cons, List.filter_nil, e]
  split
  · rfl
  · simp
theorem garbTo_len (vs : List SlotV) (S : List Bool) (n : Nat) : (garbTo vs S n).length ≤ n := by
  unfold garbTo
  exact Nat.le_trans (List.length_filter_le _ _) (by simp)
theorem reachL_anyG {S : List Bool} (i : Nat) (hi : i < 32) : (reachL S).any (fun z => (i : Int) == z) = S.getD i false := by
  have e : metM S (i : Int) = S.getD i false := by rw [metM, Int.toNat_natCast]
  rw [← e, Bool.eq_iff_iff, List.any_eq_true]
  unfold reachL
  constructor
  · rintro ⟨x, hx, hb⟩
    rw [← beq_iff_eq.1 hb] at hx
    exact (List.mem_filter.1 hx).2
  · intro h
    exact ⟨_, List.mem_filter.2 ⟨List.mem_map.2 ⟨i, List.mem_range.2 hi, rfl⟩, h⟩, by simp⟩
/-- A row of numbers that the call makes. -/
structure GiI (w0 w : World) (a : Option Addr) (c : Nat) (L : List Int) : Prop where
  own : OwnI w w0.heap.size w.heap.size a c L
  bel : Below w0.heap.size w0 w
theorem GiI.below {w0 w w' : World} {a : Option Addr} {c : Nat} {L : List Int} (h : GiI w0 w a c L) (hb : Below w.heap.size w w') : GiI w0 w' a c L := ⟨(h.own.below hb).widen (Nat.le_refl _) hb.size (Nat.le_refl _), h.bel.trans (hb.mono h.bel.size)⟩

/-- Beside it another row of numbers, which is read. -/
structure GrI (w0 : World) (lo : Nat) (w : World) (a : Option Addr) (c : Nat) (L : List Int) (a2 : Option Addr) (c2 : Nat) (RL : List Int) : Prop where
  own : OwnI w w0.heap.size w.heap.size a c L
  rl : OwnI w lo w.heap.size a2 c2 RL
  ne : ∀ k, (Value.slice a L.length c).ownBlock = some k → (Value.slice a2 RL.length c2).ownBlock ≠ some k
  bel : Below w0.heap.size w0 w
theorem GrI.below {w0 w w' : World} {lo : Nat} {a : Option Addr} {c : Nat} {L : List Int} {a2 : Option Addr} {c2 : Nat} {RL : List Int} (h : GrI w0 lo w a c L a2 c2 RL) (hb : Below w.heap.size w w') : GrI w0 lo w' a c L a2 c2 RL :=
  ⟨(h.own.below hb).widen (Nat.le_refl _) hb.size (Nat.le_refl _), (h.rl.below hb).widen (Nat.le_refl _) hb.size (Nat.le_refl _), h.ne, h.bel.trans (hb.mono h.bel.size)⟩
theorem GrI.push {w0 w w4 : World} {o : Obj} {lo : Nat} {a a4 : Option Addr} {c c4 : Nat} {L y4 : List Int} {a2 : Option Addr} {c2 : Nat} {RL : List Int} (h : GrI w0 lo w a c L a2 c2 RL) (ho : OwnI w4 w0.heap.size w4.heap.size a4 c4 y4) (hg : (w.alloc o).grownBy w4 (Value.slice a L.length c).ownBlock) (hk : ∀ k, (Value.slice a4 y4.length c4).ownBlock = some k → (Value.slice a L.length c).ownBlock = some k ∨ k = (w.alloc o).heap.size) : GrI w0 lo w4 a4 c4 y4 a2 c2 RL := by
  have ha := (Below.refl w.heap.size w).alloc (Nat.le_refl _) o
  have hr := h.rl.below ha
  refine ⟨ho, ⟨ownsRow_block hr.1 (fun k hk2 => hg.block k (hr.1.lt k hk2).2 (fun e => h.ne k e.symm hk2)), Nat.le_refl _, fun k hk2 => Nat.lt_of_lt_of_le (hr.1.lt k hk2).2 hg.size⟩, fun k hk2 e => ?_, (h.bel.trans (ha.mono h.bel.size)).grown hg (Nat.le_trans h.bel.size ha.size) (fun j hj => (h.own.1.lt j hj).1)⟩
  rcases hk k hk2 with h2 | h2
  · exact h.ne k h2 e
  · have := h.rl.2.2 k e
    simp at h2
    omega

set_option maxHeartbeats 4000000 in
set_option maxRecDepth 100000 in
theorem implGarbage_ok (b off c : Nat) (ss : List SlotA) (root : Int) (FM : List Bool) (w : World) (hr : ReadsVw w (some ⟨b, off, none⟩) ss) (h32 : ss.length = 32)
    (HVO : ∀ u, Below w.heap.size w u → Calls Tryd.prog 15 #[.slice (some ⟨b, off, none⟩) 32 c] u fun e w' => e = .returned (.bool true) ∧ Below u.heap.size u w')
    (HRE : ∀ u, Below w.heap.size w u → Calls Tryd.prog 12 #[.slice (some ⟨b, off, none⟩) 32 c, .int .i64 root] u fun e w' => ReachAns u (reachL FM) e w') :
    Calls Tryd.prog 16 #[.slice (some ⟨b, off, none⟩) 32 c, .int .i64 root] w fun e w' => ReachAns w (garbTo (vsOf ss) FM 32) e w' := by
  obtain ⟨V, HVV, _, hbV, hsV⟩ := boxes1 w [] 3
  have HDV : Hid (GiI w V (some ⟨w.heap.size, 0, none⟩) 0 []) := by
    refine ⟨?_, hbV⟩
    have := (ownI_lit0 w).widen (lo' := w.heap.size) (hi' := (w.alloc (.cells #[] 3)).heap.size) (Nat.le_refl _) (by simp) (Nat.le_refl _)
    rw [← HVV.out]
    exact this
  have HS : Hid (∀ k : Nat, k < 32 → ∃ kd aI nI cI aR nR cR, ∀ u, Below w.heap.size w u → u.cell? ⟨b, off + k * 4, none⟩ = some (.bool (hasM (vsOf ss) k)) ∧ u.cell? ⟨b, off + k * 4 + 1, none⟩ = some (.int .i64 kd) ∧ u.cell? ⟨b, off + k * 4 + 2, none⟩ = some (.slice aI nI cI) ∧ u.cell? ⟨b, off + k * 4 + 3, none⟩ = some (.slice aR nR cR)) := fun k hk => by
    refine ⟨(ss.getD k zeroS).v.o.kind, (ss.getD k zeroS).aI, (ss.getD k zeroS).v.o.ints.length, (ss.getD k zeroS).cI, (ss.getD k zeroS).aR, (ss.getD k zeroS).v.o.refs.length, (ss.getD k zeroS).cR, fun u hu => ?_⟩
    obtain ⟨b', off', e, hc⟩ := (hr.below hu) (by intro e; rw [e] at h32; simp at h32)
    simp only [Option.some.injEq, Addr.mk.injEq, and_true] at e
    obtain ⟨rfl, rfl⟩ := e
    obtain ⟨h1, h2⟩ := hc k (by omega)
    rw [hasM, Int.toNat_natCast, vsOf_at]
    exact ⟨h1 0 _ rfl, h1 1 _ rfl, h1 2 _ rfl, h1 3 _ rfl⟩
  have HCO : Hid (∀ i : Nat, i < 32 → (reachL FM).any (fun z => (i : Int) == z) = FM.getD i false) := fun i hi => reachL_anyG i hi
  have hRl : (reachL FM).length ≤ 32 := reachTo_len FM 32
  have C := HVO V hbV
  have HRE' : Hid (_) := HRE
  generalize vsOf ss = vs at *
  generalize reachL FM = RL at *
  clear hr h32 HVO HRE
  go_enter Tryd.func16, Tryd.ntmps16
  go_upto_region 2 with fail
  rw [HVV.out]
  clear HVV
  go_wp2_with fail
  refine C.mono ?_
  rintro e w1 ⟨rfl, hb1⟩
  have HD1 := HDV.out.below hb1
  have HW1 : Hid (w.heap.size < w1.heap.size) := by have := hb1.size; rw [Hid]; omega
  have C2 := HRE'.out w1 HD1.bel
  clear C hb1 HRE' hsV
  go_wp2_with fail
  refine C2.mono ?_
  rintro e w2 ⟨a2, c2, rfl, ho2, hb2⟩
  have HD2 : Hid (GrI w w1.heap.size w2 (some ⟨w.heap.size, 0, none⟩) 0 (garbTo vs FM 0) a2 c2 RL) := by
    have h1 := HD1.below hb2
    refine ⟨h1.own, ho2, fun k hk e => ?_, h1.bel⟩
    have h2 := (ho2.lt k e).1
    cases hk
    have h3 := HW1.out
    simp at h2
    omega
  clear C2 ho2 hb2 HD1 HDV hbV
  go_wp2_with fail
  go_loopw [5, 19] (fun v5 i wr => ∃ (n : Nat) (L : List Int) (a : Option Addr) (c : Nat), n ≤ 32 ∧ L.length ≤ n ∧ i = .int .i64 n ∧ v5 = .slice a L.length c ∧ Hid (GrI w w1.heap.size wr a c L a2 c2 RL ∧ garbTo vs FM n = L)) (fun _ i _ => 32 - (intOf i).toNat)
  case atStart => exact ⟨0, [], _, _, by omega, by simp, rfl, rfl, HD2.out, rfl⟩
  case round =>
    obtain ⟨n, L, a3, c3, hn, hL, rfl, rfl, hI⟩ := hrel
    clear HD2
    by_cases hlt : n < 32
    · obtain ⟨kd, aI, nI, cI, aR, nR, cR, hcl⟩ := HS.out n hlt
      obtain ⟨v0, v1, v2, v3⟩ := hcl wr hI.out.1.bel
      have HST : Hid (garbTo vs FM (n + 1) = if (hasM vs n && !(FM.getD n false)) = true then L ++ [(n : Int)] else L) := by
        rw [Hid, garbTo_step, hI.out.2]
      generalize hasM vs (n : Int) = hb at *
      obtain ⟨U, hU, bz, hbU, hsU⟩ := boxes1 wr [.bool hb, .int .i64 kd, .slice aI nI cI, .slice aR nR cR] 37
      have y0 := bz.cell 0 _ rfl
      have HDU : Hid (GrI w w1.heap.size U a3 c3 L a2 c2 RL) := hI.out.1.below hbU
      have hnI : (n : Int) < 32 := by omega
      have CC := containsInt_any a2 c2 RL n U HDU.out.rl.reads (by omega)
      rw [HCO.out n hlt] at CC
      clear hcl hI HS bz hbU hsU HCO
      generalize FM.getD n false = mt at *
      cases hb with
      | false =>
        have HQ : Hid (GrI w w1.heap.size U a3 c3 L a2 c2 RL ∧ garbTo vs FM (n + 1) = L) := ⟨HDU.out, HST.out⟩
        clear HST HDU CC
        go_upto_region 8 with fail
        rw [hU.out]
        clear hU v0 v1 v2 v3
        go_wp2_with fail
        go_roundw
        case rel => exact ⟨n + 1, L, a3, c3, by omega, by omega, by go_num, rfl, HQ⟩
        case measure => simp [intOf]; omega
      | true =>
        cases mt with
        | true =>
          have HQ : Hid (GrI w w1.heap.size U a3 c3 L a2 c2 RL ∧ garbTo vs FM (n + 1) = L) := ⟨HDU.out, HST.out⟩
          clear HST HDU
          go_upto_region 8 with fail
          rw [hU.out]
          clear hU v0 v1 v2 v3
          go_wp2_with fail
          refine CC.mono ?_
          rintro e w8 ⟨rfl, rfl⟩
          clear CC
          go_wp2_with fail
          go_roundw
          case rel => exact ⟨n + 1, L, a3, c3, by omega, by omega, by go_num, rfl, HQ⟩
          case measure => simp [intOf]; omega
        | false =>
          have HQ0 : Hid (garbTo vs FM (n + 1) = L ++ [(n : Int)]) := HST.out
          have hlo := HDU.out.bel.size
          clear HST
          go_upto_region 8 with fail
          rw [hU.out]
          clear hU v0 v1 v2 v3
          go_wp2_with fail
          refine CC.mono ?_
          rintro e w8 ⟨rfl, rfl⟩
          clear CC
          have ho := HDU.out.own.below ((Below.refl _ _).alloc (Nat.le_refl _) (.cells #[.int .i64 (n : Int)] 3))
          go_wp2_with (first | (at_builtin; refine append_intsM rfl _ _ rfl w.heap.size w8.heap.size a3 c3 L rfl ho _ _ [(n : Int)] rfl (readsI_one w8 n _) (fun h => by cases h) (by simp; omega) (by simp; omega) ?_; intro a5 c5 y5 w5 hy5 ho5 hg5 hk5) | fail)
          have HQ : Hid ((GrI w w1.heap.size w5 a5 c5 y5 a2 c2 RL ∧ garbTo vs FM (n + 1) = y5) ∧ y5.length ≤ n + 1) := by
            refine ⟨⟨HDU.out.push ho5 hg5 hk5, by rw [HQ0.out, hy5.out]⟩, ?_⟩
            rw [hy5.out]
            simp
            omega
          clear ho5 hg5 hk5 hy5 ho HDU HQ0
          go_roundw
          case rel => exact ⟨n + 1, y5, a5, c5, by omega, HQ.out.2, by go_num, rfl, HQ.out.1⟩
          case measure => simp [intOf]; omega
    · obtain rfl : n = 32 := by omega
      have HQ : Hid (ReachAns w (garbTo vs FM 32) (.returned (.slice a3 L.length c3)) wr) := by
        rw [hI.out.2]
        exact ⟨a3, c3, rfl, hI.out.1.own, hI.out.1.bel⟩
      clear hI HS HCO
      go_wp2_with fail
      go_ret
      exact HQ.out
end Go.Proofs.YtgbpnepipknjnaaDoor

/- A view without its garbage. -/
namespace Go.Proofs.YtgbpnepipknjnaaDoor

/-- vs without what is in G. -/
def cutV (vs : List SlotV) (G : List Int) : List SlotV := G.foldl (fun l r => l.set r.toNat noS) vs
theorem cutV_len (G : List Int) : ∀ vs : List SlotV, (cutV vs G).length = vs.length := by
  induction G with
  | nil => intro vs; rfl
  | cons r G ih => intro vs; rw [cutV, List.foldl_cons]; exact (ih _).trans (by simp)
theorem cutV_at (G : List Int) (i : Nat) : ∀ vs : List SlotV, (∀ r ∈ G, 0 ≤ r ∧ r ≤ 31) → vs.length = 32 → (cutV vs G).getD i noS = if (i : Int) ∈ G then noS else vs.getD i noS := by
  induction G with
  | nil => intro vs _ _; simp [cutV]
  | cons r G ih =>
    intro vs hr hl
    rw [cutV, List.foldl_cons]
    rw [show List.foldl (fun l r => l.set r.toNat noS) (vs.set r.toNat noS) G = cutV (vs.set r.toNat noS) G from rfl, ih _ (fun x hx => hr x (by simp [hx])) (by simp [hl])]
    have h0 := hr r (by simp)
    by_cases h1 : (i : Int) ∈ G
    · rw [if_pos h1, if_pos (by simp [h1])]
    · rw [if_neg h1]
      by_cases e : (i : Int) = r
      · rw [if_pos (by simp [e])]
        have : r.toNat = i := by omega
        rw [this]
        simp [List.getD, hl, show i < 32 by omega]
      · rw [if_neg (by simp [e, h1])]
        have : r.toNat ≠ i := by omega
        simp [List.getD, List.getElem?_set_ne this]
theorem garb_mem {vs : List SlotV} {S : List Bool} {i : Int} : i ∈ garbTo vs S 32 ↔ (0 ≤ i ∧ i ≤ 31 ∧ hasM vs i = true ∧ metM S i = false) := by
  unfold garbTo
  rw [List.mem_filter, List.mem_map]
  constructor
  · rintro ⟨⟨n, hn, rfl⟩, h⟩
    simp only [Bool.and_eq_true, Bool.not_eq_true'] at h
    have := List.mem_range.1 hn
    exact ⟨by omega, by omega, h.1, h.2⟩
  · rintro ⟨h1, h2, h3, h4⟩
    exact ⟨⟨i.toNat, List.mem_range.2 (by omega), by omega⟩, by rw [h3, h4]; rfl⟩
/-- A view that is right, a root, and what is reached of it. -/
structure CutH (vs : List SlotV) (root : Int) (FM : List Bool) : Prop where
  hv : viewB vs = true
  hr : 0 ≤ root ∧ root ≤ 31
  hM : ∀ i, 0 ≤ i → (metM FM i = true ↔ ReachM vs root i)
  hF : FM.length = 32
theorem cut_has {vs : List SlotV} {root : Int} {FM : List Bool} (H : CutH vs root FM) (i : Nat) (hi : i < 32) : hasM (cutV vs (garbTo vs FM 32)) i = metM FM i := by
  have hat := cutV_at (garbTo vs FM 32) i vs (fun r h => ⟨(garb_mem.1 h).1, (garb_mem.1 h).2.1⟩) (viewB_len32 H.hv)
  rw [hasM, Int.toNat_natCast, hat]
  cases hm : metM FM (i : Int)
  · by_cases h : (i : Int) ∈ garbTo vs FM 32
    · rw [if_pos h]; rfl
    · rw [if_neg h]
      cases hh : (vs.getD i noS).has
      · rfl
      · exact absurd (garb_mem.2 ⟨by omega, by omega, by rw [hasM, Int.toNat_natCast]; exact hh, hm⟩) h
  · have h1 := ((H.hM i (by omega)).1 hm).has
    rw [hasM, Int.toNat_natCast] at h1
    rw [if_neg (fun h => by have := (garb_mem.1 h).2.2.2; rw [hm] at this; cases this), h1]
theorem cut_refs {vs : List SlotV} {root : Int} {FM : List Bool} (H : CutH vs root FM) (i : Nat) (hi : i < 32) : refsM (cutV vs (garbTo vs FM 32)) i = if metM FM i = true then refsM vs i else [] := by
  have hat := cutV_at (garbTo vs FM 32) i vs (fun r h => ⟨(garb_mem.1 h).1, (garb_mem.1 h).2.1⟩) (viewB_len32 H.hv)
  rw [refsM, Int.toNat_natCast, hat]
  cases hm : metM FM (i : Int)
  · change _ = ([] : List Int)
    by_cases h : (i : Int) ∈ garbTo vs FM 32
    · rw [if_pos h]; rfl
    · rw [if_neg h]
      have hs := viewB_slot H.hv i
      cases hh : (vs.getD i noS).has
      · rw [slotB_not hh hs]; rfl
      · exact absurd (garb_mem.2 ⟨by omega, by omega, by rw [hasM, Int.toNat_natCast]; exact hh, hm⟩) h
  · rw [if_pos rfl, if_neg (fun h => by have := (garb_mem.1 h).2.2.2; rw [hm] at this; cases this), refsM, Int.toNat_natCast]
theorem cut_view {vs : List SlotV} {root : Int} {FM : List Bool} (H : CutH vs root FM) : viewB (cutV vs (garbTo vs FM 32)) = true := by
  have hl : (cutV vs (garbTo vs FM 32)).length = 32 := (cutV_len _ _).trans (viewB_len32 H.hv)
  have hat : ∀ i, (cutV vs (garbTo vs FM 32)).getD i noS = if ((i : Nat) : Int) ∈ garbTo vs FM 32 then noS else vs.getD i noS := fun i => cutV_at (garbTo vs FM 32) i vs (fun r h => ⟨(garb_mem.1 h).1, (garb_mem.1 h).2.1⟩) (viewB_len32 H.hv)
  rw [viewB_zero hl, hat 0]
  have h0 : (if ((0 : Nat) : Int) ∈ garbTo vs FM 32 then noS else vs.getD 0 noS).has = false := by
    split
    · rfl
    · exact viewB_none H.hv
  rw [h0]
  simp only [Bool.not_false, Bool.true_and, List.all_eq_true]
  intro s hs
  obtain ⟨i, hi, rfl⟩ := List.mem_iff_getElem.1 hs
  have e : (cutV vs (garbTo vs FM 32))[i] = (cutV vs (garbTo vs FM 32)).getD i noS := by simp [List.getD, hi]
  rw [e, hat i]
  split
  · rfl
  · exact viewB_slot H.hv i
theorem cut_reach {vs : List SlotV} {root : Int} {FM : List Bool} (H : CutH vs root FM) : (runM (cutV vs (garbTo vs FM 32)) 40 root).met = FM := by
  have hv' := cut_view H
  obtain ⟨h1, _, h3⟩ := runM_reach (viewB_rng hv') (most := 40) (by decide) (by decide) H.hr
  refine met_ext h1 H.hF (fun i hi => ?_)
  rw [h3 i hi, H.hM i hi]
  have hrng : ∀ {j}, ReachM (cutV vs (garbTo vs FM 32)) root j → 0 ≤ j ∧ j ≤ 31 := fun h => h.rng (viewB_rng hv') H.hr
  have hrng2 : ∀ {j}, ReachM vs root j → 0 ≤ j ∧ j ≤ 31 := fun h => h.rng (viewB_rng H.hv) H.hr
  have toN : ∀ {j : Int}, 0 ≤ j ∧ j ≤ 31 → ∃ n : Nat, n < 32 ∧ j = n := fun {j} h => ⟨j.toNat, by omega, by omega⟩
  constructor
  · intro h
    have hm : ∀ {j}, ReachM (cutV vs (garbTo vs FM 32)) root j → metM FM j = true := fun {j} hj => by
      obtain ⟨n, hn, rfl⟩ := toN (hrng hj)
      rw [← cut_has H n hn]
      exact hj.has
    exact (H.hM i hi).1 (hm h)
  · intro h
    clear hi
    induction h with
    | root hh =>
      obtain ⟨n, hn, rfl⟩ := toN H.hr
      refine .root ?_
      rw [cut_has H n hn]
      exact (H.hM _ H.hr.1).2 (.root hh)
    | step h1 h2 h3 ih =>
      rename_i i r
      obtain ⟨n, hn, rfl⟩ := toN (hrng2 h1)
      have hrr : ReachM vs root r := .step h1 h2 h3
      obtain ⟨m, hm, rfl⟩ := toN (hrng2 hrr)
      refine .step ih ?_ ?_
      · rw [cut_refs H n hn, if_pos ((H.hM _ (by omega)).2 h1)]
        exact h2
      · rw [cut_has H m hm]
        exact (H.hM _ (by omega)).2 hrr
theorem cut_garb {vs : List SlotV} {root : Int} {FM : List Bool} (H : CutH vs root FM) : garbTo (cutV vs (garbTo vs FM 32)) FM 32 = [] := by
  rw [List.eq_nil_iff_forall_not_mem]
  intro i hi
  obtain ⟨h1, h2, h3, h4⟩ := garb_mem.1 hi
  obtain ⟨n, hn, rfl⟩ : ∃ n : Nat, n < 32 ∧ i = n := ⟨i.toNat, by omega, by omega⟩
  rw [cut_has H n hn, h4] at h3
  cases h3
theorem cut_dang {vs : List SlotV} {root : Int} {FM : List Bool} (H : CutH vs root FM) : ∀ n, n ≤ 32 → (dangTo (cutV vs (garbTo vs FM 32)) n).length ≤ (dangTo vs n).length := by
  intro n
  induction n with
  | zero => intro _; exact Nat.le_refl _
  | succ n ih =>
    intro hn
    have h1 := ih (by omega)
    have h2 : (dangIn (cutV vs (garbTo vs FM 32)) n (refsM (cutV vs (garbTo vs FM 32)) n)).length ≤ (dangIn vs n (refsM vs n)).length := by
      rw [cut_refs H n (by omega)]
      split
      · rename_i hm
        have hre := (H.hM _ (by omega)).1 hm
        unfold dangIn
        rw [List.length_map, List.length_map, ← List.countP_eq_length_filter, ← List.countP_eq_length_filter]
        refine List.countP_mono_left (fun r hrm hd => ?_)
        have hrg := viewB_rng H.hv n r hrm
        obtain ⟨m, hm32, rfl⟩ : ∃ m : Nat, m < 32 ∧ r = m := ⟨r.toNat, by omega, by omega⟩
        unfold dangB at hd ⊢
        rw [cut_has H m hm32] at hd
        simp only [Bool.and_eq_true, Bool.not_eq_true', decide_eq_true_eq] at hd ⊢
        refine ⟨hd.1, ?_⟩
        cases hh : hasM vs (m : Int)
        · rfl
        · have := (H.hM _ (by omega)).2 (.step hre hrm hh)
          rw [hd.2] at this
          cases this
      · simp [dangIn]
    simp only [dangTo, List.length_append]
    omega
theorem garb_not {vs : List SlotV} {root : Int} {FM : List Bool} (H : CutH vs root FM) (x r : Int) (hx : x ∈ reachL FM) (hrx : r ∈ refsM vs x) : (garbTo vs FM 32).any (· == r) = false := by
  rw [List.any_eq_false]
  intro y hy hb
  rw [beq_iff_eq.1 hb] at hy
  obtain ⟨h1, _, h3, h4⟩ := garb_mem.1 hy
  have hxm : metM FM x = true ∧ 0 ≤ x := by
    unfold reachL at hx
    rw [List.mem_filter, List.mem_map] at hx
    obtain ⟨⟨n, _, rfl⟩, h⟩ := hx
    exact ⟨h, by omega⟩
  have := (H.hM r h1).2 (.step ((H.hM x hxm.2).1 hxm.1) hrx h3)
  rw [h4] at this
  cases this
/-- How many of the first n are there. -/
theorem count_all {vs : List SlotV} {root : Int} {FM : List Bool} (H : CutH vs root FM) : ∀ n, n ≤ 32 → (reachTo FM n).length + (garbTo vs FM n).length = ((List.range n).filter (fun i : Nat => hasM vs i)).length := by
  intro n
  induction n with
  | zero => intro _; rfl
  | succ n ih =>
    intro hn
    have h1 := ih (by omega)
    rw [reachTo_step, garbTo_step, List.range_succ, List.filter_append, List.length_append]
    have e : metM FM (n : Int) = FM.getD n false := by rw [metM, Int.toNat_natCast]
    simp only [List.filter_cons, List.filter_nil]
    cases hm : FM.getD n false
    · cases hh : hasM vs (n : Int)
      · simp; omega
      · simp; omega
    · have hh : hasM vs (n : Int) = true := ((H.hM n (by omega)).1 (e.trans hm)).has
      rw [hh]
      simp
      omega
end Go.Proofs.YtgbpnepipknjnaaDoor

/- A view copied by append, and slots of it emptied. -/
namespace Go.Proofs.YtgbpnepipknjnaaDoor
open Go.RowKit

theorem append_view {w : World} {ops : Array Oper} {rest : List Oper} {o : Oper} {act : Act} {Q : Exit → Act → World → Prop} (hgd : o.guard = none) (s x : Operand)
    (ho : o.op = .call { callee := .builtin .append, args := #[s, x], argTypes := #[24, 24] })
    (lo g0 g : Nat) (hs : act.eval s = .slice (some ⟨g0, 0, none⟩) 0 0) (h0 : w.ownsRow lo 37 4 (.slice (some ⟨g0, 0, none⟩) 0 0) 0 [])
    (ts : List SlotA) (hts : ts.length = 32) (hx : act.eval x = .slice (some ⟨g, 0, none⟩) 32 32) (lo2 : Nat) (hv : w.ownsRow lo2 37 4 (.slice (some ⟨g, 0, none⟩) 32 32) 32 (cellsVw ts)) (hlo : lo ≤ w.heap.size)
    (h : ∀ g2 cap w', w'.ownsRow lo 37 4 (.slice (some ⟨g2, 0, none⟩) 32 cap) 32 (cellsVw ts) → w.grownBy w' (some g0) → wpList Tryd.prog ops Q rest (act.put o.dst (.slice (some ⟨g2, 0, none⟩) 32 cap)) w') :
    wpList Tryd.prog ops Q (o :: rest) act w := by
  obtain ⟨i0, hi0, hz0, hz1, hz2⟩ := info_parts Tryd.infoSlotV
  refine wpList_append_own w hgd s x 24 ho lo 37 i0 (.agg zeroS.cells.toArray) 4 64 Tryd.underlying24 hi0 hz0 hz1 hz2 rfl (by decide) _ _ _ hs h0 ⟨g, 0, none⟩ 32 32 (cellsVw ts) hx (by rw [cellsVw_len, hts]) (fun j u hj => ?_) (oneVw ts) (by simp [maxLen]) (by omega) hlo ?_
  · have hl : j < 32 * 4 := by have := (List.getElem?_eq_some_iff.1 hj).1; rw [cellsVw_len, hts] at this; exact this
    have := hv.cellAt j hl
    rw [hj] at this
    by_cases e : j = 0
    · subst e; simpa [Addr.add] using this
    · simpa [Addr.add, e] using this
  · intro v' w' h1 h2 _
    rw [List.nil_append, Nat.zero_add] at h1
    rcases h1.2 with ⟨_, h3⟩ | ⟨g2, cap, cur, rfl, _⟩
    · cases h3
    · exact h g2 cap w' h1 h2
theorem ownV_lit0 (w : World) : (w.alloc (.cells #[] 37)).ownsRow w.heap.size 37 4 (.slice (some ⟨w.heap.size, 0, none⟩) 0 0) 0 [] :=
  ⟨rfl, .inr ⟨w.heap.size, 0, #[], rfl, Nat.le_refl _, heap_alloc_new w _, Nat.le_refl _, by simp [maxLen], rfl, rfl⟩⟩
/-- The copy at g2, whose slots are of ts or empty; made since w0. -/
structure CpI (w0 w : World) (g2 cap : Nat) (ts rs : List SlotA) : Prop where
  row : w.ownsRow w0.heap.size 37 4 (.slice (some ⟨g2, 0, none⟩) 32 cap) 32 (cellsVw rs)
  len : rs.length = 32
  mem : ∀ r ∈ rs, r ∈ ts ∨ r = zeroS
  bel : Below w0.heap.size w0 w
theorem CpI.below {w0 w w' : World} {g2 cap : Nat} {ts rs : List SlotA} (h : CpI w0 w g2 cap ts rs) (hb : Below w.heap.size w w') : CpI w0 w' g2 cap ts rs :=
  ⟨ownsRow_block h.row (fun k hk => hb.block k (h.row.lt k hk).2), h.len, h.mem, h.bel.trans (hb.mono h.bel.size)⟩
theorem CpI.reads {w0 w : World} {g2 cap : Nat} {ts rs : List SlotA} (h : CpI w0 w g2 cap ts rs) (hr : ∀ u, Below w0.heap.size w0 u → ∀ t ∈ ts, t.reads u) : ReadsVw w (some ⟨g2, 0, none⟩) rs := by
  intro _
  refine ⟨g2, 0, rfl, fun k hk => ?_⟩
  rw [Nat.zero_add]
  refine ⟨(row_slot h.row h.len k (by rw [← h.len]; exact hk)).1, ?_⟩
  rcases h.mem _ (slotD_mem rs k hk) with h1 | h1
  · exact hr w h.bel _ h1
  · rw [h1]
    exact ⟨fun h => absurd rfl h, fun h => absurd rfl h, fun _ => rfl, fun _ => rfl⟩
theorem CpI.clear {w0 w : World} {g2 cap : Nat} {ts rs : List SlotA} (h : CpI w0 w g2 cap ts rs) (k : Nat) (hk : k < 32) : w.there g2 (k * 4) 4 ∧ ∃ W, Hid (w.setCells g2 (k * 4) zeroS.cells = W) ∧ CpI w0 W g2 cap ts (rs.set k zeroS) ∧ w.grownBy W (some g2) := by
  have hkr : k < rs.length := by rw [h.len]; exact hk
  have hsp := slotD_split rs k hkr
  have hrow := h.row
  rw [hsp, cellsVw_app, cellsVw_cons] at hrow
  have hA : (cellsVw (rs.take k)).length = k * 4 := by rw [cellsVw_len, List.length_take]; congr 1; omega
  obtain ⟨h1, h2⟩ := row_setCellsV zeroS.cells (cellsVw (rs.take k)) (rs.getD k zeroS).cells (cellsVw (rs.drop (k + 1))) w hrow rfl
  rw [hA] at h1 h2
  have e : rs.set k zeroS = rs.take k ++ zeroS :: rs.drop (k + 1) := by rw [List.set_eq_take_append_cons_drop, if_pos hkr]
  have hlo : w0.heap.size ≤ g2 := (h.row.lt g2 rfl).1
  refine ⟨(row_slot h.row h.len k hk).2, _, rfl, ⟨?_, by simp [h.len], fun r hr => ?_, h.bel.grown h2 h.bel.size (fun j hj => by cases hj; exact hlo)⟩, h2⟩
  · rw [e, cellsVw_app, cellsVw_cons]
    exact h1
  · rcases List.mem_or_eq_of_mem_set hr with h3 | h3
    · exact h.mem r h3
    · exact .inr h3
theorem vsOf_set (rs : List SlotA) (k : Nat) : vsOf (rs.set k zeroS) = (vsOf rs).set k noS := by
  unfold vsOf
  rw [List.map_set]
  rfl
end Go.Proofs.YtgbpnepipknjnaaDoor

/- The walk of impl.Dangling. -/
namespace Go.Proofs.YtgbpnepipknjnaaDoor
open Go.RowKit

theorem view_hasD {w0 u : World} {b off : Nat} {ss : List SlotA} (hr : ReadsVw w0 (some ⟨b, off, none⟩) ss) (h32 : ss.length = 32) (hu : Below w0.heap.size w0 u) (k : Nat) (hk : k < 32) : u.cell? ⟨b, off + k * 4, none⟩ = some (.bool (hasM (vsOf ss) k)) := by
  obtain ⟨b', off', e, hc⟩ := (hr.below hu) (by intro e; rw [e] at h32; simp at h32)
  simp only [Option.some.injEq, Addr.mk.injEq, and_true] at e
  obtain ⟨rfl, rfl⟩ := e
  rw [hasM, Int.toNat_natCast, vsOf_at]
  exact (hc k (by omega)).1 0 _ rfl
theorem view_slotD {w0 : World} {b off : Nat} {ss : List SlotA} (hr : ReadsVw w0 (some ⟨b, off, none⟩) ss) (h32 : ss.length = 32) (k : Nat) (hk : k < 32) :
    ∃ hs kd aI nI cI aR cR, ∀ u, Below w0.heap.size w0 u → u.cell? ⟨b, off + k * 4, none⟩ = some (.bool hs) ∧ u.cell? ⟨b, off + k * 4 + 1, none⟩ = some (.int .i64 kd) ∧ u.cell? ⟨b, off + k * 4 + 2, none⟩ = some (.slice aI nI cI) ∧ u.cell? ⟨b, off + k * 4 + 3, none⟩ = some (.slice aR (refsM (vsOf ss) k).length cR) ∧ ReadsI u aR (refsM (vsOf ss) k) := by
  refine ⟨(ss.getD k zeroS).v.has, (ss.getD k zeroS).v.o.kind, (ss.getD k zeroS).aI, (ss.getD k zeroS).v.o.ints.length, (ss.getD k zeroS).cI, (ss.getD k zeroS).aR, (ss.getD k zeroS).cR, fun u hu => ?_⟩
  obtain ⟨b', off', e, hc⟩ := (hr.below hu) (by intro e; rw [e] at h32; simp at h32)
  simp only [Option.some.injEq, Addr.mk.injEq, and_true] at e
  obtain ⟨rfl, rfl⟩ := e
  obtain ⟨h1, h2⟩ := hc k (by omega)
  rw [refsM, Int.toNat_natCast, vsOf_at]
  exact ⟨h1 0 _ rfl, h1 1 _ rfl, h1 2 _ rfl, h1 3 _ rfl, h2.refs⟩
theorem mem_getDD {F : List Int} {n : Nat} (h : n < F.length) : F.getD n 0 ∈ F := by simp [List.getD, h]

set_option maxHeartbeats 4000000 in
set_option maxRecDepth 100000 in
theorem implDangling_any (a : Option Addr) (c : Nat) (ss : List SlotA) (w : World) (hg : ErrT w) (hr : ReadsVw w a ss) (hl : ss.length ≤ 1099511627776) (hf : Fit ss) :
    Calls Tryd.prog 18 #[.slice a ss.length c] w fun e w' => DangAns w (dangV (vsOf ss)) e w' := by
  obtain ⟨V, HVV, _, hbV, hsV⟩ := boxes1 w [] 64
  have HDV : Hid (DgI w V (some ⟨w.heap.size, 0, none⟩) 0 []) := by
    refine ⟨?_, hbV⟩
    have := (ownD2_lit0 w).widen (lo' := w.heap.size) (hi' := (w.alloc (.cells #[] 64)).heap.size) (Nat.le_refl _) (by simp) (Nat.le_refl _)
    rw [← HVV.out]
    exact this
  have C := implViewOk_any a c ss V (hg.keep hbV) (hr.below hbV) hl hf
  cases hvb : viewB (vsOf ss) with
  | false =>
    rw [hvb] at C
    have HR : Hid (dangV (vsOf ss) = []) := by rw [Hid, dangV, hvb]; rfl
    rw [HR.out]
    clear hvb HR hr hf hg hsV
    go_enter Tryd.func18, Tryd.ntmps18
    go_upto_region 2 with fail
    rw [HVV.out]
    clear HVV
    go_wp2_with fail
    refine C.mono ?_
    rintro e w1 ⟨rfl, hb1⟩
    have HA : Hid (DangAns w [] (.returned (.slice (some ⟨w.heap.size, 0, none⟩) 0 0)) w1) := ⟨_, _, rfl, (HDV.out.below hb1).own, (HDV.out.below hb1).bel⟩
    clear C
    go_wp2_with fail
    go_ret
    exact HA.out
  | true =>
    rw [hvb] at C
    have h32 : ss.length = 32 := by have := viewB_len32 hvb; rwa [vsOf_len] at this
    obtain ⟨b, off, rfl, _⟩ := hr (by intro e; rw [e] at h32; simp at h32)
    have HR : Hid (dangV (vsOf ss) = dangTo (vsOf ss) 32) := by rw [Hid, dangV, hvb]; rfl
    have HH : Hid (∀ u, Below w.heap.size w u → ∀ k : Nat, k < 32 → u.cell? ⟨b, off + k * 4, none⟩ = some (.bool (hasM (vsOf ss) k))) := fun u hu k hk => view_hasD hr h32 hu k hk
    have HS : Hid (∀ k : Nat, k < 32 → ∃ hs kd aI nI cI aR cR, ∀ u, Below w.heap.size w u → u.cell? ⟨b, off + k * 4, none⟩ = some (.bool hs) ∧ u.cell? ⟨b, off + k * 4 + 1, none⟩ = some (.int .i64 kd) ∧ u.cell? ⟨b, off + k * 4 + 2, none⟩ = some (.slice aI nI cI) ∧ u.cell? ⟨b, off + k * 4 + 3, none⟩ = some (.slice aR (refsM (vsOf ss) k).length cR) ∧ ReadsI u aR (refsM (vsOf ss) k)) := fun k hk => view_slotD hr h32 k hk
    have HRG : Hid (RngM (vsOf ss)) := viewB_rng hvb
    have HLN : Hid (∀ i, (refsM (vsOf ss) i).length ≤ 5) := viewB_refs hvb
    have HTL : Hid (∀ n, (dangTo (vsOf ss) n).length ≤ 5 * n) := dangTo_len (viewB_refs hvb)
    rw [HR.out]
    rw [h32] at C ⊢
    clear hvb HR hr hf hg h32 hl hsV
    generalize vsOf ss = vs at *
    obtain ⟨FIN, HFIN⟩ : ∃ FIN, Hid (dangTo vs 32 = FIN) := ⟨_, rfl⟩
    rw [HFIN.out]
    go_enter Tryd.func18, Tryd.ntmps18
    go_upto_region 2 with fail
    rw [HVV.out]
    clear HVV
    go_wp2_with fail
    refine C.mono ?_
    rintro e w1 ⟨rfl, hb1⟩
    have HD1 : Hid (DgI w w1 (some ⟨w.heap.size, 0, none⟩) 0 (dangTo vs 0)) := HDV.out.below hb1
    clear C hb1 HDV hbV
    go_wp2_with fail
    go_loopw [3, 15] (fun v3 i wr => ∃ (n : Nat) (L : List PairV) (a : Option Addr) (c : Nat), n ≤ 32 ∧ L.length ≤ 160 ∧ i = .int .i64 n ∧ v3 = .slice a L.length c ∧ Hid (DgI w wr a c L ∧ dangTo vs n = L)) (fun _ i _ => 32 - (intOf i).toNat)
    case atStart => exact ⟨0, [], _, _, by omega, by simp, rfl, rfl, HD1.out, rfl⟩
    case round =>
      obtain ⟨n, L, a3, c3, hn, hL, rfl, rfl, hI⟩ := hrel
      clear HD1
      by_cases hlt : n < 32
      · obtain ⟨hs, kd, aI, nI, cI, aR, cR, hcl⟩ := HS.out n hlt
        obtain ⟨v0, v1, v2, v3, _⟩ := hcl wr hI.out.1.bel
        have HFV : Hid (∀ u, Below w.heap.size w u → ReadsI u aR (refsM vs n)) := fun u hu => (hcl u hu).2.2.2.2
        obtain ⟨U, hU, bz, hbU, hsU⟩ := boxes1 wr [.bool hs, .int .i64 kd, .slice aI nI cI, .slice aR (refsM vs n).length cR] 37
        have y3 := bz.cell 3 _ rfl
        have HFI : Hid (_) := HRG.out n
        have HFL := HLN.out n
        have HNX : Hid (dangTo vs (n + 1) = L ++ dangIn vs n (refsM vs n) ∧ (dangTo vs (n + 1)).length ≤ 160) := ⟨by rw [← hI.out.2]; rfl, by have := HTL.out (n + 1); omega⟩
        have HDU : Hid (DgI w U a3 c3 (L ++ dangIn vs n ((refsM vs n).take 0))) := by
          have : dangIn vs n ((refsM vs n).take 0) = [] := rfl
          rw [this, List.append_nil]
          exact hI.out.1.below hbU
        have HL5 : Hid (L.length ≤ 5 * n) := by rw [Hid, ← hI.out.2]; exact HTL.out n
        have HIL : Hid (∀ F', (dangIn vs n F').length ≤ F'.length) := fun F' => dangIn_len vs n F'
        generalize refsM vs n = F at *
        clear hcl hI HS HRG HLN HTL bz hbU hsU
        have hnI : (n : Int) < 32 := by omega
        generalize wr = wo at *
        go_upto_region 7 with fail
        rw [hU.out]
        clear hU v0 v1 v2 v3
        go_wp2_with fail
        clear y3
        go_loopw [3, 24] (fun v3 i wr => ∃ (k : Nat) (M : List PairV) (a : Option Addr) (c : Nat), k ≤ F.length ∧ M.length ≤ 170 ∧ i = .int .i64 k ∧ v3 = .slice a M.length c ∧ Hid (DgI w wr a c M ∧ L ++ dangIn vs n (F.take k) = M)) (fun _ i _ => F.length - (intOf i).toNat)
        case atStart => exact ⟨0, L, a3, c3, Nat.zero_le _, by omega, rfl, rfl, by have := HDU.out; have e : dangIn vs n (F.take 0) = [] := rfl; rw [e, List.append_nil] at this; exact this, by have e : dangIn vs n (F.take 0) = [] := rfl; rw [e, List.append_nil]⟩
        case round =>
          obtain ⟨k, M, a4, c4, hk, hM, rfl, rfl, hJ⟩ := hrel
          clear HDU
          by_cases hkl : k < F.length
          · obtain ⟨bf, offf, rfl, hcf⟩ := HFV.out wr hJ.out.1.bel (by intro e; rw [e] at hkl; simp at hkl)
            have f0 := hcf k hkl
            obtain ⟨y, hye, hy32⟩ : ∃ y : Nat, F.getD k 0 = y ∧ y < 32 := by
              have := HFI.out _ (mem_getDD hkl)
              exact ⟨(F.getD k 0).toNat, by omega, by omega⟩
            have HST : Hid (L ++ dangIn vs n (F.take (k + 1)) = if dangB vs y = true then M ++ [⟨(n : Int), (y : Int)⟩] else M) := by
              have h1 := dangIn_step vs n F k hkl
              rw [hye] at h1
              rw [Hid, h1, ← hJ.out.2]
              split
              · rw [List.append_assoc]
              · rfl
            have HMB : Hid (M.length ≤ 5 * n + k) := by
              have h1 := HIL.out (F.take k)
              have h2 := congrArg List.length hJ.out.2
              rw [List.length_append] at h2
              rw [List.length_take] at h1
              have := HL5.out
              rw [Hid]; omega
            rw [hye] at f0
            have v0 := HH.out wr hJ.out.1.bel y hy32
            have hyI : (y : Int) < 32 := by omega
            have HJ : Hid (DgI w wr a4 c4 M) := hJ.out.1
            have HDB : Hid (dangB vs y = (decide (0 < (y : Int)) && !hasM vs y)) := rfl
            clear hcf hye hJ HFI HFV HH
            generalize hasM vs (y : Int) = hb at *
            by_cases hy0 : 0 < (y : Int)
            · have hyn : 0 < y := by omega
              cases hb with
              | true =>
                have HQ : Hid (DgI w wr a4 c4 M ∧ L ++ dangIn vs n (F.take (k + 1)) = M) := ⟨HJ.out, by rw [HST.out, HDB.out, decide_eq_true hy0]; rfl⟩
                clear HST HDB HJ
                go_wp2_with fail
                go_roundw
                case rel => exact ⟨k + 1, M, a4, c4, by omega, hM, by go_num, rfl, HQ⟩
                case measure => simp [intOf]; omega
              | false =>
                have HQ0 : Hid (L ++ dangIn vs n (F.take (k + 1)) = M ++ [⟨(n : Int), (y : Int)⟩]) := by rw [Hid, HST.out, HDB.out, decide_eq_true hy0]; rfl
                have hlo := HJ.out.bel.size
                have ho := HJ.out.own.below ((Below.refl _ _).alloc (Nat.le_refl _) (.cells #[.int .i64 (n : Int), .int .i64 (y : Int)] 64))
                have hM2 : M.length ≤ 170 := hM
                clear HST HDB
                go_wp2_with (first | (at_builtin; refine append_pairsF rfl _ _ rfl w.heap.size wr.heap.size a4 c4 M rfl ho _ _ [⟨(n : Int), (y : Int)⟩] rfl (readsD2_one wr ⟨(n : Int), (y : Int)⟩ _) (fun h => by cases h) (by simp; omega) (by simp; omega) ?_; intro a5 c5 y5 w5 hy5 ho5 hg5 hk5) | fail)
                have HQ : Hid ((DgI w w5 a5 c5 y5 ∧ L ++ dangIn vs n (F.take (k + 1)) = y5) ∧ y5.length ≤ 170) := by
                  refine ⟨⟨HJ.out.push ho5 hg5, by rw [HQ0.out, hy5.out]⟩, ?_⟩
                  rw [hy5.out]
                  simp
                  have := HMB.out
                  omega
                clear ho5 hg5 hk5 hy5 ho HJ HQ0
                go_roundw
                case rel => exact ⟨k + 1, y5, a5, c5, by omega, HQ.out.2, by go_num, rfl, HQ.out.1⟩
                case measure => simp [intOf]; omega
            · have HQ : Hid (DgI w wr a4 c4 M ∧ L ++ dangIn vs n (F.take (k + 1)) = M) := ⟨HJ.out, by rw [HST.out, HDB.out, decide_eq_false hy0]; rfl⟩
              obtain rfl : y = 0 := by omega
              clear HST HDB HJ hy0
              go_wp2_with fail
              go_roundw
              case rel => exact ⟨k + 1, M, a4, c4, by omega, hM, by go_num, rfl, HQ⟩
              case measure => simp [intOf]; omega
          · have HQ : Hid (DgI w wr a4 c4 M ∧ dangTo vs (n + 1) = M) := by
              refine ⟨hJ.out.1, ?_⟩
              have := hJ.out.2
              rw [List.take_of_length_le (by omega)] at this
              rw [HNX.out.1, this]
            have hM160 : M.length ≤ 160 := by rw [← HQ.out.2]; exact HNX.out.2
            clear hJ HFI HFV HH HNX
            go_wp2_with fail
            go_roundw
            case rel => exact ⟨n + 1, M, a4, c4, by omega, hM160, by go_num, rfl, HQ⟩
            case measure => simp [intOf]; omega
      · obtain rfl : n = 32 := by omega
        have HQ : Hid (DangAns w FIN (.returned (.slice a3 L.length c3)) wr) := by
          have e : L = FIN := by rw [← hI.out.2]; exact HFIN.out
          rw [← e]
          exact ⟨a3, c3, rfl, hI.out.1.own, hI.out.1.bel⟩
        clear hI HH HS HRG HLN HTL
        go_wp2_with fail
        go_ret
        exact HQ.out
end Go.Proofs.YtgbpnepipknjnaaDoor

/- A set as the kit's maps read: its keys are what is marked. -/
namespace Go.Proofs.YtgbpnepipknjnaaDoor
open Go.RowKit Go.Maps Go.MapKept

theorem reachL_nodup (S : List Bool) : (reachL S).Nodup := by
  unfold reachL
  refine List.Pairwise.filter _ ?_
  rw [List.pairwise_map]
  exact List.pairwise_lt_range.imp (fun h => by omega)
theorem reachL_mem {S : List Bool} (hS : S.length = 32) (k : Int) : k ∈ reachL S ↔ (0 ≤ k ∧ metM S k = true) := by
  unfold reachL
  rw [List.mem_filter, List.mem_map]
  constructor
  · rintro ⟨⟨i, _, rfl⟩, h⟩
    exact ⟨by omega, h⟩
  · rintro ⟨h1, h2⟩
    refine ⟨⟨k.toNat, List.mem_range.2 ?_, by omega⟩, h2⟩
    rcases Nat.lt_or_ge k.toNat 32 with h | h
    · exact h
    · rw [metM_out hS (by omega)] at h2; cases h2
theorem reachL_sorted (S : List Bool) : (reachL S).Pairwise (fun a b => decide (a ≤ b) = true) := by
  unfold reachL
  refine List.Pairwise.filter _ ?_
  rw [List.pairwise_map]
  exact List.pairwise_lt_range.imp (fun h => by simp; omega)
theorem rd_set {e : MapEntry} {k : Int} (hk : 0 ≤ k ∧ k ≤ 31) (h1 : e.key = .int .i64 k) (h2 : e.val = .agg #[]) : WideElems.rd Tryd.prog 3 (unitElem (H := Unit)) e = some (.int .i64 k, .agg []) := by
  have hkey : keyOf Tryd.prog 3 e.key = some (.int .i64 k) := by rw [h1]; exact keyOf_int_mk Tryd.underlying3 (WalkArith.wf_i64 (by omega))
  have hv : unitElem (H := Unit) e.val = some (.agg [], []) := by rw [h2]; exact unitElem_mk
  simp [WideElems.rd, hkey, hv]
theorem SetAt.owns {w : World} {B : Nat} {S : List Bool} (hS : S.length = 32) (h : SetAt w B S) : ∃ (n : Nat) (D : DataW Unit), w.ownsMap Tryd.prog 3 (unitElem (H := Unit)) B n D ∧ Maps.size D ≤ 32 ∧ (intKeys D).Perm (reachL S) := by
  obtain ⟨ks, ⟨es, clock, hb, he, hbn⟩, hnd, hmem⟩ := h
  have hrng : ∀ k ∈ ks, 0 ≤ k ∧ k ≤ 31 := fun k hk => by
    obtain ⟨h1, h2⟩ := (hmem k).1 hk
    refine ⟨h1, ?_⟩
    rcases Int.lt_or_le k 32 with h | h
    · omega
    · rw [metM_out hS h] at h2; cases h2
  have hperm : ks.Perm (reachL S) := (List.perm_ext_iff_of_nodup hnd (reachL_nodup S)).2 (fun k => by rw [hmem k, reachL_mem hS k])
  have hlen : es.size = ks.length := by have := congrArg List.length he; simpa using this
  have hks : ks.length ≤ 32 := by
    rw [hperm.length_eq]
    exact reachTo_len S 32
  have each : ∀ e ∈ es.toList, ∃ k ∈ ks, e.key = .int .i64 k ∧ e.val = .agg #[] := fun e hm => by
    have : (e.key, e.val) ∈ es.toList.map (fun e => (e.key, e.val)) := List.mem_map.2 ⟨e, hm, rfl⟩
    rw [he] at this
    obtain ⟨k, hk, h⟩ := List.mem_map.1 this
    simp only [entK, Prod.mk.injEq] at h
    exact ⟨k, hk, h.1.symm, h.2.symm⟩
  have hkeys : (es.toList.map (·.key)).Nodup := by
    have e1 : es.toList.map (·.key) = ks.map (Value.int .i64) := by
      have := congrArg (List.map Prod.fst) he
      simpa [List.map_map, Function.comp_def, entK] using this
    rw [e1]
    refine List.pairwise_map.2 (hnd.imp (fun h e => h ?_))
    simpa using e
  refine ⟨es.size, _, ⟨es, clock, hb, ⟨by rw [hlen]; simp [maxLen]; omega, ⟨hbn.1, hbn.2, hkeys⟩, fun e hm => ?_⟩, Nat.le_refl _, rfl⟩, ?_, ?_⟩
  · obtain ⟨k, hk, h1, h2⟩ := each e hm
    exact ⟨_, rd_set (hrng k hk) h1 h2⟩
  · simp [Maps.size, length_sorted]; omega
  · have e1 : es.toList.map (WideElems.rg Tryd.prog 3 (unitElem (H := Unit))) = ks.map (fun k => (Lit.int .i64 k, (DataW.agg [] : DataW Unit))) := by
      have hk2 : ∀ (l : List MapEntry) (js : List Int), l.map (fun e => (e.key, e.val)) = js.map entK → (∀ k ∈ js, 0 ≤ k ∧ k ≤ 31) → l.map (WideElems.rg Tryd.prog 3 (unitElem (H := Unit))) = js.map (fun k => (Lit.int .i64 k, (DataW.agg [] : DataW Unit))) := by
        intro l
        induction l with
        | nil => intro js h _; cases js with
          | nil => rfl
          | cons => simp at h
        | cons e r ih =>
          intro js h hj
          cases js with
          | nil => simp at h
          | cons k js =>
            simp only [List.map_cons, List.cons.injEq, entK, Prod.mk.injEq] at h
            rw [List.map_cons, List.map_cons, ih js (by simpa [entK] using h.2) (fun x hx => hj x (by simp [hx])), WideElems.rg_of (rd_set (hj k (by simp)) h.1.1 h.1.2)]
      exact hk2 _ _ he hrng
    rw [e1]
    refine List.Perm.trans ?_ hperm
    show (List.map (fun p : Lit × DataW Unit => Go.intOf p.1) _).Perm ks
    refine ((WideShapes.sorted_perm _).map _).trans ?_
    rw [List.map_map]
    have : ((fun p : Lit × DataW Unit => Go.intOf p.1) ∘ fun k => (Lit.int .i64 k, (DataW.agg [] : DataW Unit))) = id := by funext k; rfl
    rw [this, List.map_id]
end Go.Proofs.YtgbpnepipknjnaaDoor

/- A set's keys, sorted: slices.Sorted(maps.Keys(..)) of a marking. -/
namespace Go.Proofs.YtgbpnepipknjnaaDoor
open Go.RowKit Go.Maps Go.Sort Go.Shelf

/-- slices.Sort's two contracts here. -/
theorem sortsHere (m : Nat) : AnyZI.SortsIn Tryd.prog Tryd.sortedA_ren Fence.wide m :=
  ⟨fun blk off cap ss W hH hblk hsz => callsIn_wide.2 (AnyM.slices_Sort_int Tryd.sortA blk off cap ss W hH hblk hsz),
   fun p cap W => callsIn_wide.2 (AnyM.slices_Sort_int_none Tryd.sortA p cap W)⟩

theorem mergeSort_reachL {ss : List Int} {S : List Bool} (h : ss.Perm (reachL S)) : ss.mergeSort (fun x y => decide (x ≤ y)) = reachL S := by
  have e : ss.mergeSort leI = (reachL S).mergeSort leI := mergeSort_of_perm_i h
  have e2 : (reachL S).mergeSort leI = reachL S := List.mergeSort_of_pairwise (reachL_sorted S)
  exact e.trans e2

set_option maxHeartbeats 1000000 in
theorem reached_any {w0 w : World} {M mb most : Nat} {v : Value} {st : MSt} (hS : st.met.length = 32) (h : MkAt w0 w M mb v most st) :
    Calls Tryd.prog 38 #[.pointer (some ⟨M, 0, none⟩)] w fun e w' => ∃ a c, e = .returned (.slice a (reachL st.met).length c) ∧ OwnI w' w.heap.size w'.heap.size a c (reachL st.met) ∧ Below w.heap.size w w' := by
  obtain ⟨aS, cS, h⟩ := h
  have c1 := h.box.cell 1 _ rfl
  obtain ⟨nn, D0, hown, hsz, hpm⟩ := h.set.owns hS
  have hbl := hown.lt
  clear h
  refine (callsIn_wide (n := 6)).1 ?_
  have hseq : SeqGives Fence.wide 2 Tryd.prog 71 #[.pointer (some ⟨w.heap.size, 0, none⟩)] encZ (fun ss => ss.Perm (intKeys D0)) (Maps.size D0) (w.alloc (.cells #[.map (some mb)] 61)) :=
    AnyZI.keys_gives (ρ := Tryd.keysA_ren) { Tryd.keysA with } Fence.wide _ trivial rfl (by omega) w.heap.size mb nn D0 _ (by simp) (by simp) (by
      obtain ⟨es, clock, hb, Ft, hs, hD⟩ := hown
      exact ⟨es, clock, (Below.heap_alloc _ _ mb hbl).trans hb, Ft, hs, hD⟩)
  have cK : ∀ mb W, CallsIn Fence.wide 5 Tryd.prog 57 #[.map mb] W fun e w' => e = .returned (.func (.func 71) #[] #[.pointer (some ⟨W.heap.size, 0, none⟩)]) ∧ w' = W.alloc (.cells #[.map mb] 61) := fun mb W => AnyZI.keys_in Tryd.keysA Fence.wide 5 trivial rfl mb W
  have cS := AnyZI.sorted_in Tryd.sortedA Fence.wide 5 trivial trivial trivial trivial rfl (by omega) (sortsHere _) (enters_of Tryd.func70 (by kernel_rfl) rfl) 71 #[.pointer (some ⟨w.heap.size, 0, none⟩)] trivial (enters_of Tryd.func71 (by kernel_rfl) rfl) _ _ (by simp [maxLen]; omega) (by omega) _ hseq
  change CallsIn _ _ Tryd.prog 56 _ _ _ at cS
  have hfK : Fence.wide.fn 57 := trivial
  have hfS : Fence.wide.fn 56 := trivial
  clear hseq hown
  refine callsIn_of_wp Tryd.func38 rfl trivial ?_ rfl
  simp only [Tryd.ntmps38, List.size_toArray, List.length_cons, List.length_nil, Nat.reduceAdd, Nat.reduceSub, Array.replicate_succ, Array.replicate_zero, List.push_toArray, List.append_toArray, List.nil_append, List.cons_append]
  gi_wp2_with (first
    | (gi_at_call 57; refine (cK _ _).mono ?_; rintro e w' ⟨rfl, rfl⟩)
    | (gi_at_call 56; refine cS.mono ?_; rintro e w' ⟨vr, ss, rfl, hP, hrow, hnil, hb⟩))
  go_ret
  have hP2 := hP.trans hpm
  rw [mergeSort_reachL hP2, hP2.length_eq] at hrow
  have hB : Below w.heap.size w w' := ((Below.refl _ w).alloc (Nat.le_refl _) _).trans (hb.mono (by simp))
  have hrow2 : w'.ownsRow w.heap.size 3 1 vr (reachL st.met).length ((reachL st.met).map (Value.int .i64)) := ownsRow_base hrow (fun k hk => Nat.le_trans (by simp) (hrow.lt k hk).1)
  rcases hrow2.2 with ⟨hv, h0⟩ | ⟨g, cap, cur, hv, hrest⟩
  · have h0' : reachL st.met = [] := List.length_eq_zero_iff.1 h0
    refine ⟨none, 0, by rw [h0']; exact congrArg Ending.returned hv, ?_, hB⟩
    rw [h0']
    exact ownI_nil _ _ _ (Nat.le_refl _)
  · refine ⟨some ⟨g, 0, none⟩, cap, congrArg Ending.returned hv, ⟨?_, Nat.le_refl _, fun k hk => ?_⟩, hB⟩
    · rw [← hv]; exact hrow2
    · rw [← hv] at hk; exact (hrow2.lt k hk).2
end Go.Proofs.YtgbpnepipknjnaaDoor

/- The walk of impl.Reach. -/
namespace Go.Proofs.YtgbpnepipknjnaaDoor
open Go.RowKit

set_option maxHeartbeats 2000000 in
set_option maxRecDepth 100000 in
theorem implReach_any (a : Option Addr) (c : Nat) (ss : List SlotA) (root : Int) (w : World) (hg : ErrT w) (hr : ReadsVw w a ss) (hl : ss.length ≤ 1099511627776) (hf : Fit ss) :
    Calls Tryd.prog 12 #[.slice a ss.length c, .int .i64 root] w fun e w' => ReachAns w (reachV (vsOf ss) root) e w' := by
  have C := implViewOk_any a c ss w hg hr hl hf
  cases hvb : viewB (vsOf ss) with
  | false =>
    rw [hvb] at C
    have HR : Hid (reachV (vsOf ss) root = []) := by rw [Hid, reachV, hvb]; rfl
    rw [HR.out]
    clear hvb HR hr hf hg
    go_enter Tryd.func12, Tryd.ntmps12
    go_wp2_with fail
    refine C.mono ?_
    rintro e w1 ⟨rfl, hb1⟩
    have HA := reachAns_none hb1
    clear C
    go_wp2_with fail
    go_ret
    exact HA
  | true =>
    rw [hvb] at C
    have h32 : ss.length = 32 := by have := viewB_len32 hvb; rwa [vsOf_len] at this
    have H32 : Hid (ss.length = 32) := h32
    rw [h32] at C ⊢
    clear h32 hl
    by_cases hri : 1 ≤ root ∧ root ≤ 31
    · have CO := oidOk_in root hri.1 hri.2
      obtain ⟨rn, rfl⟩ : ∃ rn : Nat, root = rn := ⟨root.toNat, by omega⟩
      obtain ⟨b, off, rfl, _⟩ := hr (by intro e; have := H32.out; rw [e] at this; simp at this)
      have HR : Hid (reachV (vsOf ss) rn = reachL (runM (vsOf ss) 40 rn).met) := by rw [Hid, reachV, hvb]; simp [inB, hri.1, hri.2]
      have HLEN : Hid ((runM (vsOf ss) 40 rn).met.length = 32) := runM_len (viewB_rng hvb) (by omega) (by omega)
      have HFROM : Hid (∀ (w0 u : World) (M mb : Nat), Below w.heap.size w w0 → MkAt w0 u M mb (.slice (some ⟨b, off, none⟩) 32 c) 40 emptyM → Calls Tryd.prog 37 #[.pointer (some ⟨M, 0, none⟩), .int .i64 (rn : Int)] u fun e w' => (∃ v, e = .returned v) ∧ MkAt w0 w' M mb (.slice (some ⟨b, off, none⟩) 32 c) 40 (runM (vsOf ss) 40 rn)) := fun w0 u M mb hw h => from_any (by omega) (by omega) hvb rn (by omega) u (hr.below hw) H32.out h
      rw [HR.out]
      clear hvb HR hr hf hg H32
      generalize runM (vsOf ss) 40 rn = FN at *
      obtain ⟨RL, HRL⟩ : ∃ RL, Hid (reachL FN.met = RL) := ⟨_, rfl⟩
      rw [HRL.out]
      go_enter Tryd.func12, Tryd.ntmps12
      go_wp2_with fail
      refine C.mono ?_
      rintro e w1 ⟨rfl, hb1⟩
      clear C
      go_wp2_with fail
      refine (CO w1).mono ?_
      rintro e w2 ⟨rfl, rfl⟩
      clear CO
      go_wp2_with fail
      refine (markingOf_any (some ⟨b, off, none⟩) 32 c 40 w2).mono ?_
      rintro e w3 ⟨M, mb, rfl, hM3⟩
      have C3 := HFROM.out w2 w3 M mb hb1 hM3
      clear HFROM hM3
      go_wp2_with fail
      refine C3.mono ?_
      clear C3
      rintro e w4 ⟨⟨x4, rfl⟩, hM4⟩
      have C5 := reached_any HLEN.out hM4
      rw [HRL.out] at C5
      have hb4 := hM4.bel
      clear hM4
      go_wp2_with fail
      refine C5.mono ?_
      rintro e w5 ⟨a5, c5, rfl, ho5, hb5⟩
      have hB4 : Below w.heap.size w w4 := hb1.trans (hb4.mono hb1.size)
      have HA : Hid (ReachAns w RL (.returned (.slice a5 RL.length c5)) w5) := ⟨a5, c5, rfl, ho5.widen hB4.size (Nat.le_refl _) (Nat.le_refl _), hB4.trans (hb5.mono hB4.size)⟩
      clear C5 hb4 ho5 hb5 hB4
      go_wp2_with fail
      go_ret
      exact HA.out
    · have HR : Hid (reachV (vsOf ss) root = []) := by
        rw [Hid, reachV, if_neg]
        simp only [Bool.and_eq_true]
        exact fun h => hri (by simpa [inB] using h.2)
      have CO := oidOk_out root hri
      rw [HR.out]
      clear hvb HR hr hf hg hri
      go_enter Tryd.func12, Tryd.ntmps12
      go_wp2_with fail
      refine C.mono ?_
      rintro e w1 ⟨rfl, hb1⟩
      have HA := reachAns_none hb1
      clear C
      go_wp2_with fail
      refine (CO w1).mono ?_
      rintro e w2 ⟨rfl, rfl⟩
      clear CO
      go_wp2_with fail
      go_ret
      exact HA
end Go.Proofs.YtgbpnepipknjnaaDoor
