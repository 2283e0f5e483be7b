/- Several texts in one, in their order. -/
import Derived.Test.YtgbpnepipknjnaaDoorProg
import Derived.Test.YtgbpnepipknjnaaDoorPFnGarbagex1
import Derived.ProofKit
import Derived.OpenShut
import Derived.ChangeOld
import Derived.Test.YtgbpnepipknjnaaDoorPFnGarbagex13
import Derived.Test.YtgbpnepipknjnaaDoorPFnGarbagex15
import Derived.Test.YtgbpnepipknjnaaDoorPFnGarbagex12
import Derived.Test.YtgbpnepipknjnaaDoorRows
import Derived.Test.YtgbpnepipknjnaaDoorPFnGarbagex14
import Derived.LaidLaws
import Derived.LaidHandle
import Derived.Stop.Joined
import Derived.ChangeVars
/- What came in, read: a slice of bytes. -/
namespace Go.Proofs.YtgbpnepipknjnaaDoor
open Go.ChangeShapes Go.WideShapes Go.ChangeAt Go.RowKit

section
variable {H : Type} {enc : TypeId × Value → H} {w : World} {base : Nat} {spare : Nat → Bool} {held : Bool}

theorem trod_bytes {fuel : Nat} {cs : List Value} {x : DataW H × List MemPlace} (h : DataW.trod enc Tryd.prog w base spare held fuel 22 cs = some x) :
    ∃ (a : Option Addr) (c : Nat) (ns : List Int), cs = [.slice a ns.length c] ∧ Reads w a ns ∧ (a = none → c = 0) ∧ ns.length ≤ maxLen := by
  rcases open_ints Tryd.underlying22 Tryd.underlying5 (by kernel_rfl) h with ⟨rfl, _⟩ | ⟨a, len, cap, zs, rfl, _, hl, hm, hz, _, hcell, hwf⟩
  · exact ⟨none, 0, [], rfl, ⟨by simp, by simp⟩, fun _ => rfl, by simp⟩
  · have hlz : len ≤ zs.length := by rw [hz]; split <;> omega
    refine ⟨some a, cap, zs.take len, by simp; omega, ⟨fun z hzz => ?_, ?_⟩, (fun h => by cases h), by simp; omega⟩
    · have := hwf z (List.mem_of_mem_take hzz)
      simp [Lit.wf, IntKind.min, IntKind.max, IntKind.signed, IntKind.bits] at this
      omega
    · intro hne
      have hpos := List.length_pos_iff.2 hne
      simp at hpos
      obtain ⟨b, off, spot⟩ := a
      have hc0 := hcell 0 (by omega)
      have hspot : spot = none := by simpa [Addr.add] using World.cell?_spot hc0
      subst hspot
      refine ⟨b, off, rfl, fun i hi => ?_⟩
      have hi' : i < len := by simp at hi; omega
      have := hcell i (by omega)
      have e : (List.take len zs).getD i 0 = zs.getD i 0 := by simp [List.getD, hi']
      rw [e, ← Addr_add]
      exact this

set_option maxRecDepth 100000 in
/-- A slice of bytes that came in as an argument. -/
theorem open_bytes {b0 : Nat} {v : Value} {d : DataW H} {ps : List MemPlace} (hval : Value.okWide Tryd.prog w .any b0 22 v) (h : DataW.Trod enc Tryd.prog w base spare held 22 v d ps) :
    ∃ (a : Option Addr) (c : Nat) (ns : List Int), v = .slice a ns.length c ∧ Reads w a ns ∧ (a = none → c = 0) ∧ ns.length ≤ maxLen := by
  obtain ⟨a, len, cap, hv⟩ := okWide_slice (e := 5) Tryd.underlying22 hval
  subst hv
  obtain ⟨fuel, hf⟩ := h
  have e : (Value.slice a len cap).cells.toList = [Value.slice a len cap] := rfl
  rw [e] at hf
  obtain ⟨a', c', ns, hc, rest⟩ := trod_bytes hf
  simp only [List.cons.injEq, and_true] at hc
  exact ⟨a', c', ns, hc, rest⟩
end
end Go.Proofs.YtgbpnepipknjnaaDoor

/- The walk of laws.FnMarked. -/
namespace Go.Proofs.YtgbpnepipknjnaaDoor
open Go.RowKit

end Go.Proofs.YtgbpnepipknjnaaDoor

/- The walk of laws.FnGarbage. -/
namespace Go.Proofs.YtgbpnepipknjnaaDoor
open Go.RowKit

set_option maxHeartbeats 4000000 in
set_option maxRecDepth 100000 in
theorem lawGarbage_walk (a : Option Addr) (c : Nat) (zs : List Int) (w : World) (hg : ErrT w) (hr : Reads w a zs) :
    Calls Tryd.prog 4 #[.slice a zs.length c] w fun e w' => e = .returned (.bool true) ∧ Below w.heap.size w w' := by
  have C0 := big_any a c zs.length w
  by_cases hbig : 1048576 < zs.length
  · rw [decide_eq_true hbig] at C0
    go_enter Tryd.func4, Tryd.ntmps4
    go_wp2_with fail
    refine C0.mono ?_
    rintro e w' ⟨rfl, rfl⟩
    go_wp2
    go_ret
    exact ⟨rfl, Below.refl _ _⟩
  rw [decide_eq_false hbig] at C0
  have hzl : zs.length ≤ 70368744177664 := by omega
  clear hbig
  go_enter Tryd.func4, Tryd.ntmps4
  go_wp2_with fail
  refine C0.mono ?_
  rintro e w0 ⟨rfl, rfl⟩
  clear C0
  go_wp2_with fail
  refine (drawHeap_any a c zs w0 hr hzl).mono ?_
  rintro e w1 ⟨g, ts, rfl, hts, ho1, hb1⟩
  go_wp2_with fail
  refine (at_any a c zs 2 w1 (hr.below hb1) hzl (by omega)).mono ?_
  rintro e w2 ⟨⟨n2, hn2, rfl⟩, rfl⟩
  obtain ⟨r, hr31, e2⟩ : ∃ r : Nat, r < 31 ∧ (n2 : Int).tmod 31 = (r : Int) := ⟨n2 % 31, Nat.mod_lt _ (by omega), by rw [Int.tmod_eq_emod_of_nonneg (by omega)]; omega⟩
  have hE1 : ErrT w2 := hg.keep hb1
  obtain ⟨root, hroot⟩ : ∃ root : Int, Hid (1 + (r : Int) = root) := ⟨_, rfl⟩
  have HRR : Hid (1 ≤ root ∧ root ≤ 31) := by rw [Hid, ← hroot.out]; omega
  obtain ⟨hT1, hT2, hT3⟩ := hts.out
  have HRV : Hid (reachV (vsOf ts) root = reachL (runM (vsOf ts) 40 root).met) := by
    rw [Hid, reachV, if_pos]
    rw [hT2]
    simp [inB, HRR.out.1, HRR.out.2]
  have C1 := implReach_any (some ⟨g, 0, none⟩) 32 ts root w2 hE1 ho1.reads (by omega) hT3
  rw [HRV.out, hT1] at C1
  clear hn2
  go_upto_region 5 with fail
  rw [hroot.out]
  clear e2
  go_wp2_with fail
  refine C1.mono ?_
  clear C1
  rintro e w3 ⟨a3, c3, rfl, ho3, hb3⟩
  obtain ⟨FM, HFM⟩ : ∃ FM, Hid ((runM (vsOf ts) 40 root).met = FM) := ⟨_, rfl⟩
  have hrt : 0 ≤ root ∧ root ≤ 31 := by have := HRR.out; omega
  obtain ⟨HL, _, HRM⟩ := runM_reach (viewB_rng hT2) (most := 40) (by decide) (by decide) hrt
  rw [HFM.out] at HL HRM ho3 ⊢
  have HCUT : Hid (CutH (vsOf ts) root FM) := ⟨hT2, hrt, HRM, HL⟩
  have hRl : (reachL FM).length ≤ 32 := reachTo_len FM 32
  have hGl : (garbTo (vsOf ts) FM 32).length ≤ 32 := garbTo_len _ _ _
  have hb23 := hb3
  have HVO : Hid (∀ u, Below w2.heap.size w2 u → Calls Tryd.prog 15 #[.slice (some ⟨g, 0, none⟩) 32 32] u fun e w' => e = .returned (.bool true) ∧ Below u.heap.size u w') := fun u hu => by
    have h3 := implViewOk_any (some ⟨g, 0, none⟩) 32 ts u (hE1.keep hu) (ho1.below hu).reads (by omega) hT3
    rw [hT1, hT2] at h3
    exact h3
  have HRE : Hid (∀ u, Below w2.heap.size w2 u → Calls Tryd.prog 12 #[.slice (some ⟨g, 0, none⟩) 32 32, .int .i64 root] u fun e w' => ReachAns u (reachL FM) e w') := fun u hu => by
    have h3 := implReach_any (some ⟨g, 0, none⟩) 32 ts root u (hE1.keep hu) (ho1.below hu).reads (by omega) hT3
    rw [hT1, HRV.out, HFM.out] at h3
    exact h3
  have C4 := implGarbage_ok g 0 32 ts root FM w3 (ho1.below hb3).reads hT1 (fun u hu => HVO.out u (hb3.trans (hu.mono hb3.size))) (fun u hu => HRE.out u (hb3.trans (hu.mono hb3.size)))
  have HGL : Hid (garbTo (vsOf ts) FM 32 = garbTo (vsOf ts) FM 32) := rfl
  obtain ⟨GL, HGE⟩ : ∃ GL, Hid (garbTo (vsOf ts) FM 32 = GL) := ⟨_, rfl⟩
  obtain ⟨RL, HRL⟩ : ∃ RL, Hid (reachL FM = RL) := ⟨_, rfl⟩
  have HCNT : Hid (∀ n, n ≤ 32 → (reachTo FM n).length + (garbTo (vsOf ts) FM n).length = ((List.range n).filter (fun i : Nat => hasM (vsOf ts) i)).length) := fun n hn => count_all HCUT.out n hn
  rw [HGE.out] at C4 hGl
  rw [HRL.out] at ho3 hRl ⊢
  go_wp2_with fail
  refine C4.mono ?_
  clear C4
  rintro e w4 ⟨a4, c4, rfl, ho4, hb4⟩
  have hb24 := hb3.trans (hb4.mono hb3.size)
  have ho3' := ho3.below hb4
  have HHAS : Hid (∀ k : Nat, k < 32 → w4.cell? ⟨g, k * 4, none⟩ = some (.bool (hasM (vsOf ts) k))) := fun k hk => by
    have := view_hasD (ho1.reads) hT1 hb24 k hk
    rwa [Nat.zero_add] at this
  have HCS : Hid (∀ n : Nat, ((List.range (n + 1)).filter (fun i : Nat => hasM (vsOf ts) i)).length = ((List.range n).filter (fun i : Nat => hasM (vsOf ts) i)).length + (if hasM (vsOf ts) n = true then 1 else 0)) := fun n => by
    rw [List.range_succ, List.filter_append, List.length_append]
    simp only [List.filter_cons, List.filter_nil]
    split <;> rfl
  have HCL : Hid (∀ n : Nat, ((List.range n).filter (fun i : Nat => hasM (vsOf ts) i)).length ≤ n) := fun n => Nat.le_trans (List.length_filter_le _ _) (by simp)
  have HTOT : Hid ((RL.length : Int) + (GL.length : Int) = (((List.range 32).filter (fun i : Nat => hasM (vsOf ts) i)).length : Int)) := by
    have := HCNT.out 32 (Nat.le_refl _)
    rw [HGE.out, show reachTo FM 32 = RL from HRL.out] at this
    rw [Hid]; omega
  clear HGL HCNT
  go_wp2_with fail
  go_loopg [7, 8] 32 (fun k v7 v8 wr => ∃ n : Nat, n ≤ 32 ∧ 32 - n ≤ k ∧ v8 = .int .i64 n ∧ v7 = .int .i64 (((List.range n).filter (fun i : Nat => hasM (vsOf ts) i)).length : Int) ∧ wr = w4)
  case atStart => exact ⟨0, by omega, by omega, rfl, rfl, rfl⟩
  case round =>
    obtain ⟨n, hn, hnk, rfl, rfl, rfl⟩ := hrel
    by_cases hlt : n < 32
    · have v0 := HHAS.out n hlt
      have hst := HCS.out n
      have hcl := HCL.out n
      have hnI : (n : Int) < 32 := by omega
      have HST : Hid (_ = _) := hst
      clear hst
      generalize ((List.range n).filter (fun i : Nat => hasM (vsOf ts) i)).length = cn at *
      generalize hasM (vsOf ts) (n : Int) = hb at *
      clear HHAS HCS HCL HTOT
      cases hb with
      | false =>
        have HQ : Hid (((List.range (n + 1)).filter (fun i : Nat => hasM (vsOf ts) i)).length = cn) := HST.out
        clear HST
        go_wp2_with fail
        go_roundg (gk - 1)
        case rel => exact ⟨n + 1, by omega, by omega, by go_num, by rw [HQ.out], rfl⟩
        case measure => omega
      | true =>
        have HQ : Hid (((List.range (n + 1)).filter (fun i : Nat => hasM (vsOf ts) i)).length = cn + 1) := HST.out
        clear HST
        go_wp2_with fail
        go_roundg (gk - 1)
        case rel => exact ⟨n + 1, by omega, by omega, by go_num, by rw [HQ.out]; go_num, rfl⟩
        case measure => omega
    · obtain rfl : n = 32 := by omega
      have HT := HTOT.out
      have hne : ((RL.length : Int) + (GL.length : Int) != (((List.range 32).filter (fun i : Nat => hasM (vsOf ts) i)).length : Int)) = false := by rw [HT]; simp
      generalize ((List.range 32).filter (fun i : Nat => hasM (vsOf ts) i)).length = cn at *
      clear HHAS HCS HCL HTOT HT
      go_upto_region 15 with fail
      generalize wr = w4 at *
      have hga : Below w4.heap.size w4 (w4.alloc (.cells #[] 37)) := (Below.refl _ _).alloc (Nat.le_refl _) _
      have hv4 := (ho1.below (hb24.trans (hga.mono hb24.size))).row
      rw [hT1] at hv4
      have HJ : Hid ((Tryd.prog.info? 37).map (·.size) = some 4) := by rw [Hid]; kernel_rfl
      have HRS : Hid (∀ u, Below w4.heap.size w4 u → ∀ t ∈ ts, t.reads u) := fun u hu t ht => by
        have h1 := (ho1.below (hb24.trans (hu.mono hb24.size))).each t ht
        exact OwnO.reads h1
      go_upto_region 16 with (first | (at_builtin; refine append_view rfl _ _ rfl w4.heap.size w4.heap.size g rfl (ownV_lit0 w4) ts hT1 rfl w0.heap.size hv4 (by simp) ?_; intro g2 cap w5 hrow5 hg5) | fail)
      have HCP : Hid (CpI w4 w5 g2 cap ts ts ∧ vsOf ts = cutV (vsOf ts) (GL.take 0)) := ⟨⟨hrow5, hT1, fun r h => .inl h, hga.grown hg5 hga.size (fun j hj => by cases hj; exact Nat.le_refl _)⟩, rfl⟩
      have HGR : Hid (∀ r ∈ GL, 0 ≤ r ∧ r ≤ 31) := fun r h => by rw [← HGE.out] at h; exact ⟨(garb_mem.1 h).1, (garb_mem.1 h).2.1⟩
      have HG4 : Hid (∀ u, Below w4.heap.size w4 u → ReadsI u a4 GL) := fun u hu => (ho4.below hu).reads
      have HR4 : Hid (∀ u, Below w4.heap.size w4 u → ReadsI u a3 RL) := fun u hu => (ho3'.below hu).reads
      have HO1 := slot_oneV zeroS
      clear hrow5 hg5 hv4 hga hne
      go_wp2_with fail
      go_loopg [10] 32 (fun k v10 wr => ∃ (n : Nat) (rs : List SlotA), n ≤ GL.length ∧ GL.length - n ≤ k ∧ v10 = .int .i64 n ∧ Hid (CpI w4 wr g2 cap ts rs ∧ vsOf rs = cutV (vsOf ts) (GL.take n)))
      case atStart => exact ⟨0, ts, by omega, by omega, rfl, HCP⟩
      case round =>
        obtain ⟨n, rs, hn, hnk, rfl, hI⟩ := hrel
        clear HCP
        by_cases hlt : n < GL.length
        · obtain ⟨bg, og, rfl, hcg⟩ := HG4.out wr hI.out.1.bel (by intro e; rw [e] at hlt; simp at hlt)
          have f0 := hcg n hlt
          obtain ⟨kn, hke, hk32⟩ : ∃ kn : Nat, GL.getD n 0 = kn ∧ kn < 32 := by
            have := HGR.out (GL.getD n 0) (by simp [List.getD, hlt])
            exact ⟨(GL.getD n 0).toNat, by omega, by omega⟩
          have HTS : Hid (GL.take (n + 1) = GL.take n ++ [(kn : Int)]) := by rw [Hid, take_step GL 0 n hlt, hke]
          rw [hke] at f0
          obtain ⟨hth, W, hW, hcW, _⟩ := hI.out.1.clear kn hk32
          have HQ : Hid (CpI w4 W g2 cap ts (rs.set kn zeroS) ∧ vsOf (rs.set kn zeroS) = cutV (vsOf ts) (GL.take (n + 1))) := by
            refine ⟨hcW, ?_⟩
            rw [vsOf_set, hI.out.2, HTS.out]
            unfold cutV
            rw [List.foldl_append]
            rfl
          have hkI : (kn : Int) < 32 := by omega
          have HTH : Hid (wr.there g2 (kn * 4) 4) := hth
          clear hcg hI hcW hke HTS hth
          go_wp2_with (first | (guard_target = wpList _ _ _ (Oper.mk none (Op.store _ (Operand.tmp 63) _) _ _ _ _ :: _) _ _; refine wpList_store_mid rfl 37 (.tmp 63) (.tmp 62) rfl g2 (kn * 4) zeroS.cells.toArray rfl rfl HTH.out HJ.out HO1 ?_) | fail)
          rw [hW.out]
          go_roundg (gk - 1)
          case rel => exact ⟨n + 1, rs.set kn zeroS, by omega, by omega, by go_num, HQ⟩
          case measure => omega
        · have HCP : Hid (CpI w4 wr g2 cap ts rs ∧ vsOf rs = cutV (vsOf ts) GL) := by
            have := hI.out
            rw [List.take_of_length_le (by omega)] at this
            exact this
          clear hI HGR HJ HO1
          generalize wr = w6 at *
          have hB6 := HCP.out.1.bel
          have hb26 := hb24.trans (hB6.mono hb24.size)
          have HVR : Hid (∀ k : Nat, k < 32 → ∃ aR cR, w6.cell? ⟨g, k * 4 + 3, none⟩ = some (.slice aR (refsM (vsOf ts) k).length cR) ∧ ReadsI w6 aR (refsM (vsOf ts) k)) := fun k hk => by
            obtain ⟨_, _, _, _, _, aR, cR, h⟩ := view_slotD ho1.reads hT1 k hk
            have h1 := (h w6 hb26).2.2.2
            rw [Nat.zero_add] at h1
            exact ⟨aR, cR, h1⟩
          have HLN : Hid (∀ i, (refsM (vsOf ts) i).length ≤ 5) := viewB_refs hT2
          have HNOT : Hid (∀ x ∈ RL, ∀ r ∈ refsM (vsOf ts) x, GL.any (· == r) = false) := fun x hx r hr2 => by
            rw [← HGE.out]
            exact garb_not HCUT.out x r (by rw [HRL.out]; exact hx) hr2
          have HRR2 : Hid (∀ x ∈ RL, 0 ≤ x ∧ x ≤ 31) := fun x hx => by
            rw [← HRL.out] at hx
            unfold reachL at hx
            rw [List.mem_filter, List.mem_map] at hx
            obtain ⟨⟨m, hm, rfl⟩, _⟩ := hx
            have := List.mem_range.1 hm
            omega
          have HAM : Hid (∀ r : Int, Calls Tryd.prog 14 #[.slice a4 GL.length c4, .int .i64 r] w6 fun e w' => e = .returned (.bool (GL.any (· == r))) ∧ w' = w6) := fun r => among_any a4 c4 GL r w6 (HG4.out w6 hB6) (by omega)
          have HRD6 : Hid (ReadsI w6 a3 RL) := HR4.out w6 hB6
          go_wp2_with fail
          go_loopg [11] 32 (fun k v11 wr => ∃ n : Nat, n ≤ RL.length ∧ RL.length - n ≤ k ∧ v11 = .int .i64 n ∧ wr = w6)
          case atStart => exact ⟨0, by omega, by omega, rfl, rfl⟩
          case round =>
            obtain ⟨n, hn, hnk, rfl, rfl⟩ := hrel
            by_cases hlt : n < RL.length
            · obtain ⟨bl, ol, rfl, hcl⟩ := HRD6.out (by intro e; rw [e] at hlt; simp at hlt)
              have f0 := hcl n hlt
              have hmem : RL.getD n 0 ∈ RL := by simp [List.getD, hlt]
              obtain ⟨xn, hxe, hx32⟩ : ∃ xn : Nat, RL.getD n 0 = xn ∧ xn < 32 := by
                have := HRR2.out _ hmem
                exact ⟨(RL.getD n 0).toNat, by omega, by omega⟩
              rw [hxe] at f0 hmem
              obtain ⟨aF, cF, g3, hFR⟩ := HVR.out xn hx32
              have HNX : Hid (_) := HNOT.out xn hmem
              have HFL := HLN.out xn
              have HFV : Hid (ReadsI wr aF (refsM (vsOf ts) xn)) := hFR
              have hxI : (xn : Int) < 32 := by omega
              generalize refsM (vsOf ts) (xn : Int) = F at *
              clear hcl hxe hmem hFR HVR HLN HNOT HRR2 HRD6
              generalize gk = gko at *
              go_wp2_with fail
              go_loopg [13] 5 (fun k v13 wq => ∃ m : Nat, m ≤ F.length ∧ F.length - m ≤ k ∧ v13 = .int .i64 m ∧ wq = wr)
              case atStart => exact ⟨0, by omega, by omega, rfl, rfl⟩
              case round =>
                obtain ⟨m, hm, hmk, rfl, rfl⟩ := hrel
                by_cases hml : m < F.length
                · obtain ⟨bf, of, rfl, hcf⟩ := HFV.out (by intro e; rw [e] at hml; simp at hml)
                  have q0 := hcf m hml
                  have C := HAM.out (F.getD m 0)
                  rw [HNX.out (F.getD m 0) (by simp [List.getD, hml])] at C
                  generalize F.getD m 0 = rr at *
                  clear hcf HNX HAM
                  go_wp2_with fail
                  refine C.mono ?_
                  rintro e w7 ⟨rfl, rfl⟩
                  clear C
                  go_wp2_with fail
                  go_roundg (gk - 1)
                  case rel => exact ⟨m + 1, by omega, by omega, by go_num, rfl⟩
                  case measure => omega
                · clear HNX HAM HFV
                  go_wp2_with fail
                  go_roundg (gko - 1)
                  case rel => exact ⟨n + 1, by omega, by omega, by go_num, rfl⟩
                  case measure => omega
            · clear HVR HLN HNOT HRR2 HAM
              generalize wr = w6 at *
              have hlr : rs.length = 32 := HCP.out.1.len
              have HVS : Hid (vsOf rs = cutV (vsOf ts) (garbTo (vsOf ts) FM 32)) := by rw [Hid, HGE.out]; exact HCP.out.2
              have hV2 : viewB (vsOf rs) = true := by rw [HVS.out]; exact cut_view HCUT.out
              have HM2 : Hid ((runM (vsOf rs) 40 root).met = FM) := by rw [Hid, HVS.out]; exact cut_reach HCUT.out
              have HG2 : Hid (garbTo (vsOf rs) FM 32 = []) := by rw [Hid, HVS.out]; exact cut_garb HCUT.out
              have HD2 : Hid ((dangV (vsOf rs)).length ≤ (dangV (vsOf ts)).length) := by
                have h1 := cut_dang HCUT.out 32 (Nat.le_refl _)
                rw [← HVS.out] at h1
                rw [Hid, dangV, dangV, if_pos hV2, if_pos hT2]
                exact h1
              have hF2 : Fit rs := fun r hrr => by
                rcases HCP.out.1.mem r hrr with h | h
                · exact hT3 r h
                · rw [h]; exact ⟨by simp [zeroS], by simp [zeroS]⟩
              have HRR3 : Hid (∀ u, Below w6.heap.size w6 u → ReadsVw u (some ⟨g2, 0, none⟩) rs ∧ ErrT u) := fun u hu => ⟨(HCP.out.1.below hu).reads HRS.out, hE1.keep (hb26.trans (hu.mono hb26.size))⟩
              have HRV2 : Hid (reachV (vsOf rs) root = RL) := by
                rw [Hid, reachV, if_pos (by rw [hV2]; simp [inB, HRR.out.1, HRR.out.2]), HM2.out]
                exact HRL.out
              have HV3 : Hid (∀ u, Below w6.heap.size w6 u → Calls Tryd.prog 15 #[.slice (some ⟨g2, 0, none⟩) 32 cap] u fun e w' => e = .returned (.bool true) ∧ Below u.heap.size u w') := fun u hu => by
                have h3 := implViewOk_any (some ⟨g2, 0, none⟩) cap rs u (HRR3.out u hu).2 (HRR3.out u hu).1 (by omega) hF2
                rw [hlr, hV2] at h3
                exact h3
              have HR3 : Hid (∀ u, Below w6.heap.size w6 u → Calls Tryd.prog 12 #[.slice (some ⟨g2, 0, none⟩) 32 cap, .int .i64 root] u fun e w' => ReachAns u RL e w') := fun u hu => by
                have h3 := implReach_any (some ⟨g2, 0, none⟩) cap rs root u (HRR3.out u hu).2 (HRR3.out u hu).1 (by omega) hF2
                rw [hlr, HRV2.out] at h3
                exact h3
              have HGA : Hid (∀ u, Below w6.heap.size w6 u → Calls Tryd.prog 16 #[.slice (some ⟨g2, 0, none⟩) 32 cap, .int .i64 root] u fun e w' => ReachAns u [] e w') := fun u hu => by
                have h3 := implGarbage_ok g2 0 cap rs root FM u (HRR3.out u hu).1 hlr (fun v hv => HV3.out v (hu.trans (hv.mono hu.size))) (fun v hv => by rw [HRL.out]; exact HR3.out v (hu.trans (hv.mono hu.size)))
                rw [HG2.out] at h3
                exact h3
              have HDW : Hid (∀ u, Below w6.heap.size w6 u → Calls Tryd.prog 18 #[.slice (some ⟨g2, 0, none⟩) 32 cap] u fun e w' => DangAns u (dangV (vsOf rs)) e w') := fun u hu => by
                have h3 := implDangling_any (some ⟨g2, 0, none⟩) cap rs u (HRR3.out u hu).2 (HRR3.out u hu).1 (by omega) hF2
                rw [hlr] at h3
                exact h3
              have HDT : Hid (∀ u, Below w6.heap.size w6 u → Calls Tryd.prog 18 #[.slice (some ⟨g, 0, none⟩) 32 32] u fun e w' => DangAns u (dangV (vsOf ts)) e w') := fun u hu => by
                have h3 := implDangling_any (some ⟨g, 0, none⟩) 32 ts u (HRR3.out u hu).2 (ho1.below (hb26.trans (hu.mono hb26.size))).reads (by omega) hT3
                rw [hT1] at h3
                exact h3
              have HRL3 : Hid (∀ u, Below w6.heap.size w6 u → ReadsI u a3 RL) := fun u hu => HR4.out u (hB6.trans (hu.mono hB6.size))
              have hdl := dangV_len (vsOf ts)
              have HB0 : Hid (Below w0.heap.size w0 w6) := hb1.trans (hb26.mono hb1.size)
              have hD2 := HD2.out
              clear HRR3 HRV2 HV3 HVS HM2 HG2 HD2 hF2 hV2 HRD6 HR4 HG4 HCP HCUT HRS hlr hE1 hT3 hT2
              generalize (dangV (vsOf rs)) = DW at *
              generalize (dangV (vsOf ts)) = DT at *
              have C7 := HR3.out w6 (Below.refl _ _)
              go_wp2_with fail
              refine C7.mono ?_
              clear C7 HR3
              rintro e w7 ⟨a7, c7, rfl, ho7, hb7⟩
              go_wp2_with fail
              refine (sameInts_same a7 a3 c7 c3 RL w7 ho7.reads (HRL3.out w7 hb7) (by omega)).mono ?_
              rintro e w8 ⟨rfl, q8, hq8⟩
              have hb8 : Below w6.heap.size w6 w8 := by rw [hq8]; exact below_drewN hb7 q8
              have C8 := HGA.out w8 hb8
              clear HGA HRL3 ho7 hb7 hq8
              go_wp2_with fail
              refine C8.mono ?_
              clear C8
              rintro e w9 ⟨a9, c9, rfl, _, hb9⟩
              have hb69 := hb8.trans (hb9.mono hb8.size)
              have hB9 := HB0.out.trans (hb69.mono HB0.out.size)
              clear hb8 hb9
              by_cases hz : RL.length = 0
              · have hzI : ((RL.length : Int) == 0) = true := by rw [beq_iff_eq]; omega
                clear HDW HDT hz
                go_wp2_with fail
                go_ret
                exact ⟨rfl, hB9⟩
              · have hzI : ((RL.length : Int) == 0) = false := by rw [beq_eq_false_iff_ne]; omega
                have C10 := HDW.out w9 hb69
                clear hz
                go_wp2_with fail
                refine C10.mono ?_
                clear C10 HDW
                rintro e w10 ⟨a10, c10, rfl, _, hb10⟩
                have hb610 := hb69.trans (hb10.mono hb69.size)
                have C11 := HDT.out w10 hb610
                clear HDT
                go_wp2_with fail
                refine C11.mono ?_
                clear C11
                rintro e w11 ⟨a11, c11, rfl, _, hb11⟩
                have hB11 := HB0.out.trans ((hb610.trans (hb11.mono hb610.size)).mono HB0.out.size)
                have hle : (DW.length : Int) ≤ (DT.length : Int) := by omega
                clear hb10 hb11 hb610 hb69
                go_wp2_with fail
                go_ret
                exact ⟨rfl, hB11⟩
end Go.Proofs.YtgbpnepipknjnaaDoor

/- What the row's condition on errors.errorType gives a walk; a world that meets it. -/
namespace Go.Proofs.YtgbpnepipknjnaaDoor
open Go.ChangeShapes Go.WideShapes Go.RowKit

theorem Tryd.et : Tryd.prog.globalNamed "errors.errorType" = some 0 := by kernel_rfl
theorem Tryd.rt : (Tryd.prog.cutTypes.find? (·.1 == "internal/reflectlite.rtype")).map (·.2) = some 144 := by kernel_rfl
theorem Tryd.oneRow : ((List.range 186).filter fun t => Tryd.prog.rowNamed t [101, 114, 114, 111, 114]) = [102] := by kernel_rfl
theorem Tryd.typesSize : Tryd.prog.types.size = 186 := by kernel_rfl

theorem errT_of_handles {W : World} {laid : List (String × DataW Unit)} (hm : ("errors.errorType", Rows.laid_errors_errorType) ∈ laid) (h : handlesMet Tryd.prog laid W) : ErrT W := by
  obtain ⟨name, u, ty, e1, e2, e3, e4, e5⟩ := h _ hm
  have en : name = [101, 114, 114, 111, 114] := (Option.some.inj e1).symm
  subst en
  obtain rfl := Option.some.inj (Tryd.rt.symm.trans e2)
  have hm : ty ∈ (List.range 186).filter fun t => Tryd.prog.rowNamed t [101, 114, 114, 111, 114] := List.mem_filter.2 ⟨List.mem_range.2 (by rw [← Tryd.typesSize]; exact e3), e4⟩
  rw [Tryd.oneRow] at hm
  obtain rfl := List.mem_singleton.1 hm
  have hh : typeHandle Tryd.prog 102 = .pointer (some ⟨1, 102, none⟩) := by kernel_rfl
  rw [hh] at e5
  unfold ErrT
  simpa using World.var?_cell Tryd.et e5 0

/-- The one listed variable. -/
def laid1 : List (String × DataW Unit) := [("errors.errorType", Rows.laid_errors_errorType)]
theorem errT_of_laid1 {W : World} (h : laidMetH Tryd.prog laid1 W) : ErrT W := by
  have h' : laidMet Tryd.prog [] W ∧ handlesMet Tryd.prog laid1 W := h
  exact errT_of_handles (List.mem_singleton.2 rfl) h'.2
end Go.Proofs.YtgbpnepipknjnaaDoor
