/- Several texts in one, in their order. -/
import Derived.Test.YtekljhabjkmhpaaDoorProg
import Derived.Test.YtekljhabjkmhpaaDoorPFnDroppedx1
import Derived.ProofKit
import Derived.OpenShut
import Derived.ChangeOld
import Derived.Test.YtekljhabjkmhpaaDoorPFnDroppedx19
import Derived.Test.YtekljhabjkmhpaaDoorPFnDroppedx20
import Derived.LaidLaws
import Derived.LaidHandle
import Derived.Lib.LaidTab
import Derived.Test.YtekljhabjkmhpaaDoorRows
import Derived.Test.YtekljhabjkmhpaaDoorPFnDroppedx7
import Derived.Lay
import Derived.MakeChecks
import Derived.Carry
import Derived.ChangeVars
/- What came in, read: a slice of bytes. -/
namespace Go.Proofs.YtekljhabjkmhpaaDoor
open Go.ChangeShapes Go.WideShapes Go.ChangeAt Go.RowKit

section
variable {H : Type} {enc : TypeId × Value → H} {w : World} {base : Nat} {spare : Nat → Bool} {held : Bool}

theorem trod_bytes {fuel : Nat} {cs : List Value} {x : DataW H × List MemPlace} (h : DataW.trod enc Tryd.prog w base spare held fuel 22 cs = some x) :
    ∃ (a : Option Addr) (c : Nat) (ns : List Int), cs = [.slice a ns.length c] ∧ Reads w a ns ∧ (a = none → c = 0) ∧ ns.length ≤ maxLen := by
  rcases open_ints Tryd.underlying22 Tryd.underlying5 (by kernel_rfl) h with ⟨rfl, _⟩ | ⟨a, len, cap, zs, rfl, _, hl, hm, hz, _, hcell, hwf⟩
  · exact ⟨none, 0, [], rfl, ⟨by simp, by simp⟩, fun _ => rfl, by simp⟩
  · have hlz : len ≤ zs.length := by rw [hz]; split <;> omega
    refine ⟨some a, cap, zs.take len, by simp; omega, ⟨fun z hzz => ?_, ?_⟩, (fun h => by cases h), by simp; omega⟩
    · have := hwf z (List.mem_of_mem_take hzz)
      simp [Lit.wf, IntKind.min, IntKind.max, IntKind.signed, IntKind.bits] at this
      omega
    · intro hne
      have hpos := List.length_pos_iff.2 hne
      simp at hpos
      obtain ⟨b, off, spot⟩ := a
      have hc0 := hcell 0 (by omega)
      have hspot : spot = none := by simpa [Addr.add] using World.cell?_spot hc0
      subst hspot
      refine ⟨b, off, rfl, fun i hi => ?_⟩
      have hi' : i < len := by simp at hi; omega
      have := hcell i (by omega)
      have e : (List.take len zs).getD i 0 = zs.getD i 0 := by simp [List.getD, hi']
      rw [e, ← Addr_add]
      exact this

set_option maxRecDepth 100000 in
/-- A slice of bytes that came in as an argument. -/
theorem open_bytes {b0 : Nat} {v : Value} {d : DataW H} {ps : List MemPlace} (hval : Value.okWide Tryd.prog w .any b0 22 v) (h : DataW.Trod enc Tryd.prog w base spare held 22 v d ps) :
    ∃ (a : Option Addr) (c : Nat) (ns : List Int), v = .slice a ns.length c ∧ Reads w a ns ∧ (a = none → c = 0) ∧ ns.length ≤ maxLen := by
  obtain ⟨a, len, cap, hv⟩ := okWide_slice (e := 5) Tryd.underlying22 hval
  subst hv
  obtain ⟨fuel, hf⟩ := h
  have e : (Value.slice a len cap).cells.toList = [Value.slice a len cap] := rfl
  rw [e] at hf
  obtain ⟨a', c', ns, hc, rest⟩ := trod_bytes hf
  simp only [List.cons.injEq, and_true] at hc
  exact ⟨a', c', ns, hc, rest⟩
end
end Go.Proofs.YtekljhabjkmhpaaDoor

/- The walk of laws.FnDropped. -/
namespace Go.Proofs.YtekljhabjkmhpaaDoor
open Go.RowKit

/-- Who is dropped is not stuck. -/
theorem drop_not_stuck {G V : List GrantV} (h1 : GoodG G) (h2 : GoodW V) (hl : G.length + V.length ≤ 30) {s t : Int} (hs : ¬ s = 0) (h : StuckAns (dropV G V s).1 (dropV G V s).2.1 t) : t ≠ s := by
  obtain ⟨g1, g2, g3, _, g5, _⟩ := drop_good h1 h2 s
  have hok := good_ok g1 g2 (by omega) (by omega)
  intro e
  rcases (h.1 hok).2.1 with q | ⟨_, _, q⟩
  · omega
  · obtain ⟨z, hz⟩ := back_first q
    obtain ⟨k, hk, hkt⟩ := edge_from hz
    exact g5 _ (mem_getD hk zeroG) (by rw [hkt, e])

set_option maxHeartbeats 8000000 in
set_option maxRecDepth 100000 in
theorem lawDropped_walk (a : Option Addr) (c : Nat) (zs : List Int) (w : World) (hTG : TabGo w) (hTB : TabBoth w) (hr : Reads w a zs) :
    Calls Tryd.prog 5 #[.slice a zs.length c] w fun e w' => e = .returned (.bool true) ∧ Below w.heap.size w w' := by
  have C0 := big_any a c zs.length w
  by_cases hbig : 1048576 < zs.length
  · rw [decide_eq_true hbig] at C0
    go_enter Tryd.func5, Tryd.ntmps5
    go_wp2_with fail
    refine C0.mono ?_
    rintro e w' ⟨rfl, rfl⟩
    go_wp2
    go_ret
    exact ⟨rfl, Below.refl _ _⟩
  rw [decide_eq_false hbig] at C0
  have CD := drawLocks_any a c zs w hr (by omega)
  have HR0 : Hid (∀ u, Below w.heap.size w u → Reads u a zs) := fun u hu => hr.below hu
  have hzl : zs.length ≤ 1048576 := by omega
  clear hbig hr
  go_enter Tryd.func5, Tryd.ntmps5
  go_wp2_with fail
  refine C0.mono ?_
  rintro e w' ⟨rfl, hww⟩
  subst hww
  clear C0
  go_wp2_with fail
  refine CD.mono ?_
  clear CD
  rintro e w1 ⟨l, rfl, ho1, hgd, hlen, hb1⟩
  obtain ⟨W2, hW2, b2, hbW2, hsW2⟩ := boxes1 w1 [.slice l.aG l.given.length l.cG, .slice l.aW l.waits.length l.cW] 30
  have hs2 := b2.lt
  have D2 : Below w'.heap.size w' W2 := hb1.trans (hbW2.mono hb1.size)
  have HBX : Hid (∀ u, Below W2.heap.size W2 u → u.cell? ⟨w1.heap.size, 0, none⟩ = some (.slice l.aG l.given.length l.cG) ∧ u.cell? ⟨w1.heap.size, 1, none⟩ = some (.slice l.aW l.waits.length l.cW)) := fun u hu => ⟨(b2.below hu hs2).cell 0 _ rfl, (b2.below hu hs2).cell 1 _ rfl⟩
  have HRD : Hid (∀ u, Below W2.heap.size W2 u → l.reads u) := fun u hu => ((ho1.below hbW2).below hu).reads
  have HTT : Hid (∀ u, Below W2.heap.size W2 u → TabGo u ∧ TabBoth u) := fun u hu => ⟨(hTG.keep D2).keep hu, (hTB.keep D2).keep hu⟩
  have HEND : Hid (∀ u, Below W2.heap.size W2 u → Below w'.heap.size w' u) := fun u hu => D2.trans (hu.mono D2.size)
  have HGD : Hid (_) := hgd
  have CA := at_any a c zs 2 W2 (HR0.out _ D2) (by omega) (by omega)
  have N2 : Below W2.heap.size W2 W2 := Below.refl _ _
  clear b2 hbW2 hsW2 ho1 hb1 hTG hTB hgd
  go_upto_region 4 with fail
  rw [hW2.out]
  clear hW2
  go_wp2_with fail
  refine CA.mono ?_
  clear CA
  rintro e w2 ⟨⟨n, hn, rfl⟩, hww⟩
  subst hww
  obtain ⟨tx, htx⟩ : ∃ tx : Int, Hid (1 + (n : Int) % 5 = tx) := ⟨_, rfl⟩
  obtain ⟨x0, x1⟩ := HBX.out _ N2
  have C1 := implDropAll_any l tx w2 (HTT.out _ N2).1 (HTT.out _ N2).2 (HRD.out _ N2) HGD.out hlen
  go_upto_region 5 with fail
  rw [htx.out]
  clear htx hn
  go_wp2_with fail
  refine C1.mono ?_
  clear C1 x0 x1
  rintro e w3 ⟨l3, a3, c3, rfl, hg3, hv3, ho3, hk3, hb3⟩
  have N3 : Below w2.heap.size w2 w3 := hb3
  obtain ⟨W4, hW4, b4, hbW4, hsW4⟩ := boxes1 w3 [.slice l3.aG l3.given.length l3.cG, .slice l3.aW l3.waits.length l3.cW] 30
  have hs4 := b4.lt
  have N4 : Below w2.heap.size w2 W4 := N3.trans (hbW4.mono N3.size)
  have HB4 : Hid (∀ u, Below W4.heap.size W4 u → u.cell? ⟨w3.heap.size, 0, none⟩ = some (.slice l3.aG l3.given.length l3.cG) ∧ u.cell? ⟨w3.heap.size, 1, none⟩ = some (.slice l3.aW l3.waits.length l3.cW)) := fun u hu => ⟨(b4.below hu hs4).cell 0 _ rfl, (b4.below hu hs4).cell 1 _ rfl⟩
  have HR4 : Hid (∀ u, Below W4.heap.size W4 u → l3.reads u ∧ ReadsI u a3 (dropV l.given l.waits tx).2.2) := fun u hu => ⟨((ho3.below hbW4).below hu).reads, ((hk3.below hbW4).below hu).reads⟩
  have HN4 : Hid (∀ u, Below W4.heap.size W4 u → Below w2.heap.size w2 u) := fun u hu => N4.trans (hu.mono N4.size)
  have M4 : Below W4.heap.size W4 W4 := Below.refl _ _
  obtain ⟨x0, x1⟩ := HBX.out _ N4
  have hsl4 : w1.heap.size < w3.heap.size := Nat.lt_of_lt_of_le hs2 N3.size
  have hok0 : okLocks l.given l.waits = true := good_ok HGD.out.1 HGD.out.2 (by omega) (by omega)
  have C2 := specDropAll_any l tx W4 (HRD.out _ N4) ⟨by omega, by omega⟩ hok0
  have HGG : Hid (_) := drop_good HGD.out.1 HGD.out.2 tx
  have hkl : (dropV l.given l.waits tx).2.2.length ≤ 30 := by
    have h1 := HGG.out.2.2.2.2.2
    have h2 : (withoutL l.waits tx).length ≤ l.waits.length := List.length_filter_le _ _
    omega
  have HG3 : Hid (l3.given = (dropV l.given l.waits tx).1 ∧ l3.waits = (dropV l.given l.waits tx).2.1) := ⟨hg3, hv3⟩
  clear b4 hbW4 hsW4 ho3 hk3 hb3 hg3 hv3 N3 hok0
  generalize dropV l.given l.waits tx = DV at *
  go_upto_region 6 with fail
  rw [hW4.out]
  clear hW4
  go_wp2_with fail
  refine C2.mono ?_
  clear C2 x0 x1
  rintro e w5 ⟨v5, a5, c5, rfl, ⟨p1, q1, r1, p2, q2, r2, rfl⟩, hk5, hb5⟩
  obtain ⟨W6, hW6, b6, hbW6, hsW6⟩ := boxes1 w5 [.slice p1 q1 r1, .slice p2 q2 r2] 30
  have M6 : Below W4.heap.size W4 W6 := hb5.trans (hbW6.mono hb5.size)
  have C3 := sameIntsK_same a3 a5 c3 c5 DV.2.2 W6 (HR4.out _ M6).2 (hk5.below hbW6).reads (by omega)
  clear b6 hbW6 hsW6 hb5
  go_upto_region 7 with fail
  rw [hW6.out]
  clear hW6
  go_wp2_with fail
  refine C3.mono ?_
  clear C3
  rintro e w7 ⟨rfl, hb7⟩
  have M7 : Below W4.heap.size W4 w7 := M6.trans (hb7.mono M6.size)
  have N7 := HN4.out _ M7
  obtain ⟨y0, y1⟩ := HB4.out _ M7
  have h3g : l3.given.length + l3.waits.length ≤ 30 := by
    rw [HG3.out.1, HG3.out.2]
    have := HGG.out.2.2.1
    omega
  have hok3 : okLocks l3.given l3.waits = true := by
    rw [HG3.out.1, HG3.out.2]
    refine good_ok HGG.out.1 HGG.out.2.1 ?_ ?_
    · rw [← HG3.out.1]; omega
    · rw [← HG3.out.2]; omega
  have C4 := implLocksOk_any l3 w7 (HTT.out _ N7).1 (HR4.out _ M7).1 ⟨by omega, by omega⟩
  rw [hok3] at C4
  have HNT : Hid (∀ k, k < l3.given.length → ¬ (l3.given.getD k zeroG).tx = tx) := fun k hk => HGG.out.2.2.2.1 _ (by rw [← HG3.out.1]; exact mem_getD hk zeroG)
  have HCNT : Hid (l3.waits.length + DV.2.2.length = (withoutL l.waits tx).length) := by rw [Hid, HG3.out.2]; exact HGG.out.2.2.2.2.2
  clear hok3 hb7 hk5 M6
  go_wp2_with fail
  refine C4.mono ?_
  clear C4 y0 y1
  rintro e w8 ⟨rfl, hb8⟩
  have M8 : Below W4.heap.size W4 w8 := M7.trans (hb8.mono M7.size)
  have N8 := HN4.out _ M8
  have HC3 : Hid (∀ k, k < l3.given.length → ∃ b off, l3.aG = some ⟨b, off, none⟩ ∧ w8.cell? ⟨b, off + k * 3, none⟩ = some (.int .i64 (l3.given.getD k zeroG).tx)) := fun k hk => by
    obtain ⟨b, off, ha, hc⟩ := (HR4.out _ M8).1.given (by intro e; rw [e] at hk; simp at hk)
    exact ⟨b, off, ha, (hc k hk).1⟩
  have HCL : Hid (∀ k, k < l.waits.length → ∃ b off, l.aW = some ⟨b, off, none⟩ ∧ w8.cell? ⟨b, off + k * 3, none⟩ = some (.int .i64 (l.waits.getD k zeroG).tx)) := fun k hk => by
    obtain ⟨b, off, ha, hc⟩ := (HRD.out _ N8).waits (by intro e; rw [e] at hk; simp at hk)
    exact ⟨b, off, ha, (hc k hk).1⟩
  obtain ⟨y0, y1⟩ := HB4.out _ M8
  obtain ⟨x0, x1⟩ := HBX.out _ N8
  clear hb8 M7 N7
  go_wp2_with fail
  go_loop [9] (fun i => ∃ k : Nat, k ≤ l3.given.length ∧ i = .int .i64 k) (fun i => l3.given.length - (intOf i).toNat)
  case atStart => exact ⟨0, Nat.zero_le _, rfl⟩
  case round =>
    obtain ⟨k, hk, rfl⟩ := hrel
    by_cases hlt : k < l3.given.length
    · obtain ⟨b, off, hab, d0⟩ := HC3.out k hlt
      have hnt := HNT.out k hlt
      rw [hab] at y0
      clear hab HC3
      generalize (l3.given.getD k zeroG).tx = t at *
      go_wp2_with fail
      go_round
      case rel => exact ⟨k + 1, by omega, by go_num⟩
      case measure => simp [intOf]; omega
    · go_wp2_with fail
      go_loop [10, 11] (fun o i => ∃ j : Nat, j ≤ l.waits.length ∧ i = .int .i64 j ∧ o = .int .i64 ((withoutL (l.waits.take j) tx).length : Int)) (fun _ i => l.waits.length - (intOf i).toNat)
      case atStart => exact ⟨0, Nat.zero_le _, rfl, rfl⟩
      case round =>
        obtain ⟨j, hj, rfl, rfl⟩ := hrel
        by_cases hlj : j < l.waits.length
        · obtain ⟨b, off, hab, d0⟩ := HCL.out j hlj
          rw [hab] at x1
          have HST : Hid (_ = _) := filter_stepG (fun g : GrantV => g.tx != tx) l.waits j hlj
          have HLL : Hid ((withoutL (l.waits.take j) tx).length ≤ 30) := by
            have h1 : (withoutL (l.waits.take j) tx).length ≤ (l.waits.take j).length := List.length_filter_le _ _
            rw [List.length_take] at h1
            rw [Hid]; omega
          have HWL : Hid (∀ L : List GrantV, withoutL L tx = L.filter (fun g => g.tx != tx)) := fun _ => rfl
          clear hab HCL
          generalize l.waits.getD j zeroG = z at *
          by_cases q : z.tx = tx
          · have qb : (z.tx != tx) = false := by simp [q]
            have HE : Hid ((withoutL (l.waits.take (j + 1)) tx).length = (withoutL (l.waits.take j) tx).length) := by rw [Hid, HWL.out, HST.out, if_neg (by simp [q]), HWL.out]
            clear q HST
            go_wp2_with fail
            go_round
            case rel => exact ⟨j + 1, by omega, by go_num, by rw [HE.out]⟩
            case measure => simp [intOf]; omega
          · have qb : (z.tx != tx) = true := by simp [q]
            have HE : Hid ((withoutL (l.waits.take (j + 1)) tx).length = (withoutL (l.waits.take j) tx).length + 1) := by rw [Hid, HWL.out, HST.out, if_pos (by simp [q]), HWL.out]; simp
            have hll := HLL.out
            clear q HST
            go_wp2_with fail
            go_round
            case rel => exact ⟨j + 1, by omega, by go_num, by rw [HE.out]; go_num⟩
            case measure => simp [intOf]; omega
        · have HJ : Hid (withoutL (l.waits.take j) tx = withoutL l.waits tx) := by rw [Hid, List.take_of_length_le (by omega)]
          have CS := implStuck_any l w8 (HTT.out _ N8).1 (HTT.out _ N8).2 (HRD.out _ N8) ⟨by omega, by omega⟩
          go_wp2_with fail
          refine CS.mono ?_
          clear CS
          rintro e w9 ⟨s, rfl, hs9, hb9⟩
          have M9 : Below W4.heap.size W4 w9 := M8.trans (hb9.mono M8.size)
          have N9 := HN4.out _ M9
          have C9 := implDropAll_any l s w9 (HTT.out _ N9).1 (HTT.out _ N9).2 (HRD.out _ N9) HGD.out hlen
          clear x0 x1 y0 y1 hb9 HC3 HCL
          obtain ⟨x0, x1⟩ := HBX.out _ N9
          go_wp2_with fail
          refine C9.mono ?_
          clear C9 x0 x1
          rintro e wA ⟨lA, aA, cA, rfl, hgA, hvA, hoA, hkA, hbA⟩
          have HGA : Hid (lA.given = (dropV l.given l.waits s).1 ∧ lA.waits = (dropV l.given l.waits s).2.1) := ⟨hgA, hvA⟩
          obtain ⟨WB, hWB, bB, hbWB, hsWB⟩ := boxes1 wA [.slice lA.aG lA.given.length lA.cG, .slice lA.aW lA.waits.length lA.cW] 30
          have hsB := bB.lt
          have MB : Below W4.heap.size W4 WB := (M9.trans (hbA.mono M9.size)).trans (hbWB.mono (by have := M9.size; have := hbA.size; omega))
          have NB := HN4.out _ MB
          have HBB : Hid (∀ u, Below WB.heap.size WB u → (u.cell? ⟨wA.heap.size, 0, none⟩ = some (.slice lA.aG lA.given.length lA.cG) ∧ u.cell? ⟨wA.heap.size, 1, none⟩ = some (.slice lA.aW lA.waits.length lA.cW)) ∧ lA.reads u) := fun u hu => ⟨⟨(bB.below hu hsB).cell 0 _ rfl, (bB.below hu hsB).cell 1 _ rfl⟩, ((hoA.below hbWB).below hu).reads⟩
          have CT := specStuck_any l WB (HRD.out _ NB) ⟨by omega, by omega⟩
          have hAl : lA.given.length + lA.waits.length ≤ 30 := by
            rw [HGA.out.1, HGA.out.2]
            have := (drop_good HGD.out.1 HGD.out.2 s).2.2.1
            omega
          obtain ⟨y0, y1⟩ := HB4.out _ MB
          obtain ⟨x0, x1⟩ := HBX.out _ NB
          clear bB hbWB hsWB hoA hkA hbA hgA hvA
          have hcc : (((l3.waits.length : Int) + (DV.2.2.length : Int)) == ((withoutL (l.waits.take j) tx).length : Int)) = true := by
            have := HCNT.out
            rw [HJ.out]
            simp only [beq_iff_eq]
            omega
          have HLw : Hid (l3.waits.length + DV.2.2.length ≤ 1000) := by rw [Hid]; omega
          have hl3w : (l3.waits.length : Int) + (DV.2.2.length : Int) ≤ 1000 := by omega
          go_upto_region 22 with fail
          rw [hWB.out]
          clear hWB
          go_wp2_with fail
          refine CT.mono ?_
          clear CT
          rintro e wC ⟨s2, rfl, hs2C, hbC⟩
          have e12 := stuckAns_one hs9.out hs2C.out
          subst e12
          have NC : Below w2.heap.size w2 wC := NB.trans (hbC.mono NB.size)
          have HX := HEND.out _ NC
          obtain ⟨⟨z0, z1⟩, hrA⟩ := HBB.out _ hbC
          by_cases hs0 : s = 0
          · have h0b : (s == 0) = true := by simp [hs0]
            clear hs0 hs9 hs2C
            go_wp2_with fail
            go_ret
            exact ⟨rfl, HX⟩
          · have h0b : (s == 0) = false := by simp [hs0]
            have CU := implStuck_any lA wC (HTT.out _ NC).1 (HTT.out _ NC).2 hrA ⟨by omega, by omega⟩
            have HNS : Hid (∀ t, StuckAns lA.given lA.waits t → t ≠ s) := fun t ht => by
              rw [HGA.out.1, HGA.out.2] at ht
              exact drop_not_stuck HGD.out.1 HGD.out.2 hlen hs0 ht
            clear hs0 hs9 hs2C
            go_wp2_with fail
            refine CU.mono ?_
            clear CU
            rintro e wD ⟨t, rfl, htD, hbD⟩
            have htn := HNS.out t htD.out
            have htb : (t != s) = true := by simp [htn]
            have HX2 := HEND.out _ (NC.trans (hbD.mono NC.size))
            clear htn htD
            go_wp2_with fail
            go_ret
            exact ⟨rfl, HX2⟩
end Go.Proofs.YtekljhabjkmhpaaDoor

/- What a row's condition on its listed variables gives: each of them reads as its datum. -/
namespace Go.Proofs.YtekljhabjkmhpaaDoor

theorem laidVars_mem {P : Program} {w : World} : ∀ (l : List (String × DataW Unit)) (ps : List MemPlace), DataW.LaidVars P w l ps → ∀ n d, (n, d) ∈ l →
    ∃ g t cs fuel p, P.globalNamed n = some g ∧ (P.globals[g]?).map (·.type) = some t ∧ w.var? P n = some cs ∧ DataW.trod (fun _ => ()) P w 0 (fun _ => true) false fuel t cs.toList = some (d, p) := by
  intro l
  induction l with
  | nil => intro _ _ n d hm; cases hm
  | cons x r ih =>
    intro ps h n d hm
    obtain ⟨n', d'⟩ := x
    obtain ⟨g, t, cs, fuel, p, q, h1, h2, h3, h4, h5, _⟩ := h
    rcases List.mem_cons.1 hm with e | hm'
    · cases e
      exact ⟨g, t, cs, fuel, p, h1, h2, h3, h4⟩
    · exact ih q h5 n d hm'

theorem var_heap {P : Program} {w : World} {name : String} {g : Nat} {cs : Array Value} (hg : P.globalNamed name = some g) (h : w.var? P name = some cs) : ∃ t f, w.heap[g]? = some (.cells cs t f) := by
  unfold World.var? at h
  rw [hg] at h
  simp only [Option.bind_some] at h
  split at h
  · rename_i cs' t f hh
    simp only [Option.some.injEq] at h
    exact ⟨t, f, by rw [hh, h]⟩
  · cases h

end Go.Proofs.YtekljhabjkmhpaaDoor

/- What a row's condition on the two tables of modes gives; named variables that a call leaves as they were. -/
namespace Go.Proofs.YtekljhabjkmhpaaDoor
open Go.ChangeShapes Go.WideShapes Go.RowKit

theorem laidMet_overM {P : Program} {w0 : World} {laid : List (String × DataW Unit)} (args : Array Value) (hf : w0.layFits P laid [] = true) (hi : w0.layIfaces P laid (w0.layVars P laid) = true) :
    laidMet P laid ((w0.layVars P laid).forCall (fun _ _ => 0) ⟨#[], args, []⟩).memory := by
  have e1 : (laid.filter fun x => (laid.map (·.1)).contains x.1) = laid := List.filter_eq_self.2 fun x hx => List.contains_iff_mem.2 (List.mem_map.2 ⟨x, hx, rfl⟩)
  have e2 : (laid.filter fun x => !(laid.map (·.1)).contains x.1) = [] := List.filter_eq_nil_iff.2 fun x hx => by rw [List.contains_iff_mem.2 (List.mem_map.2 ⟨x, hx, rfl⟩)]; simp
  have h : laidMet P laid (w0.layVars P laid) := laidMet_layVars (w0 := w0) (laid.map (·.1)) [] (by rw [e1]) (by rw [e1]; exact hf) (by rw [e1]; exact hi) (by rw [e2]; exact LaidIn.none)
  exact h.of_heap (by simp [World.memory, World.forCall, Input.heap])

theorem trodVars_keep {H : Type} {enc : TypeId × Value → H} {P : Program} {W W' : World} (hl : laidOutB P = true) (hb : Below W.heap.size W W') : ∀ {ns : List String} {gs : List (DataW H)} {q : List MemPlace}, DataW.TrodVars enc P W (fun _ => true) ns gs q →
    (∀ n ∈ ns, ∃ g t, P.globalNamed n = some g ∧ (P.globals[g]?).map (·.type) = some t ∧ P.readableRec t = true ∧ t < P.types.size) → DataW.TrodVars enc P W' (fun b => decide (b < W.heap.size)) ns gs q := by
  intro ns
  induction ns with
  | nil =>
    intro gs q h _
    obtain ⟨rfl, rfl⟩ := trodVars_none h
    exact rfl
  | cons n r ih =>
    intro gs q h hn
    cases gs with
    | nil => simp [DataW.TrodVars] at h
    | cons d ds =>
      have hlt := DataW.TrodVars.lt h
      obtain ⟨g, t, cs, fuel, p, q', h1, h2, h3, h4, hs, rfl⟩ := h
      obtain ⟨g', t', k1, k2, k3, k4⟩ := hn n List.mem_cons_self
      obtain rfl := Option.some.inj (h1.symm.trans k1)
      obtain rfl := Option.some.inj (h2.symm.trans k2)
      obtain ⟨ty, f, hh⟩ := var_heap h1 h3
      have hg : g < W.heap.size := (Array.getElem?_eq_some_iff.1 hh).1
      have hv : W'.var? P n = some cs := by
        unfold World.var?
        rw [h1]
        simp only [Option.bind_some]
        rw [hb.block g hg, hh]
      have ht : DataW.Trod enc P W 0 (fun _ => true) true t (.agg cs) d p := ⟨fuel, h4⟩
      obtain ⟨fuel', h4'⟩ := Below.trod hl k3 k4 ht hb (fun x hx => hlt x (by simp [hx]))
      exact ⟨g, t, cs, fuel', p, q', h1, h2, hv, h4', ih hs (fun m hm => hn m (List.mem_cons_of_mem _ hm)), rfl⟩

theorem bools_of {fuel : Nat} {w : World} {cs : List Value} {bs : List Bool} {p : List MemPlace} (h : DataW.trod (fun _ => ()) Tryd.prog w 0 (fun _ => true) false fuel 58 cs = some (.agg (bs.map fun b => .lit (.bool b)), p)) : cs = bs.map Value.bool := by
  obtain ⟨xs, m, _, hx, hlen, hn, hel⟩ := DataW.trod_array Tryd.underlying58 h
  have c4 : Tryd.prog.cellsOf 58 = 4 := by kernel_rfl
  have c1 : Tryd.prog.cellsOf 4 = 1 := by kernel_rfl
  rw [c4] at hlen
  simp only [Prod.mk.injEq, DataW.agg.injEq] at hx
  have hb : bs.length = 4 := by
    have := congrArg List.length hx.1
    simp at this
    omega
  apply List.ext_getElem?
  intro i
  by_cases hi : i < 4
  · have hxi : i < xs.length := by omega
    have e := hel i hi
    rw [c1, List.getElem?_eq_getElem hxi] at e
    obtain ⟨b, e1, e2⟩ := DataW.trod_bool Tryd.underlying4 e
    have h1 : cs[i]? = some (.bool b) := by
      have := congrArg (·[0]?) e1
      simpa [List.getElem?_take, List.getElem?_drop] using this
    have h2 : (xs.map (·.1))[i]? = some (DataW.lit (.bool b)) := by simp [List.getElem?_eq_getElem hxi, e2]
    rw [← hx.1] at h2
    simp only [List.getElem?_map, Option.map_eq_some_iff, DataW.lit.injEq, Lit.bool.injEq] at h2
    obtain ⟨b', hb', rfl⟩ := h2
    simp [h1, hb']
  · rw [List.getElem?_eq_none (by omega), List.getElem?_eq_none (by simp; omega)]

theorem four_drop {α : Type} (cs : List α) (h : cs.length = 16) : cs = (cs.drop (0 * 4)).take 4 ++ ((cs.drop (1 * 4)).take 4 ++ ((cs.drop (2 * 4)).take 4 ++ (cs.drop (3 * 4)).take 4)) := by
  match cs, h with
  | [_, _, _, _, _, _, _, _, _, _, _, _, _, _, _, _], _ => rfl

theorem gGo : Tryd.prog.globalNamed "loop.example/g00181/impl.goTogether" = some 1 := by kernel_rfl
theorem gBoth : Tryd.prog.globalNamed "loop.example/g00181/impl.bothModes" = some 0 := by kernel_rfl
theorem tGo : (Tryd.prog.globals[1]?).map (·.type) = some 59 := by kernel_rfl
theorem tBoth : (Tryd.prog.globals[0]?).map (·.type) = some 57 := by kernel_rfl

theorem tabGo_of {W : World} {laid : List (String × DataW Unit)} (hp : (laid.all fun x => x.2.handleName?.isNone) = true) (hl : laidMetH Tryd.prog laid W) (hm : ("loop.example/g00181/impl.goTogether", Rows.laid_loop_example_g00181_impl_goTogether) ∈ laid) : TabGo W := by
  rw [MakeChecks.laidMetH_plain _ _ _ hp] at hl
  obtain ⟨ps, hv, _⟩ := hl
  obtain ⟨g, t, cs, fuel, p, h1, h2, h3, h4⟩ := laidVars_mem laid ps hv _ _ hm
  obtain rfl := Option.some.inj (gGo.symm.trans h1)
  obtain rfl := Option.some.inj (tGo.symm.trans h2)
  obtain ⟨t', f, hh⟩ := var_heap h1 h3
  obtain ⟨xs, m, _, hx, hlen, hn, hel⟩ := DataW.trod_array Tryd.underlying59 h4
  have c4 : Tryd.prog.cellsOf 58 = 4 := by kernel_rfl
  have c16 : Tryd.prog.cellsOf 59 = 16 := by kernel_rfl
  rw [c4] at hel
  rw [c16] at hlen
  match xs, hn with
  | [x0, x1, x2, x3], _ =>
    simp only [Rows.laid_loop_example_g00181_impl_goTogether, Prod.mk.injEq, DataW.agg.injEq, List.map_cons, List.map_nil, List.cons.injEq, and_true] at hx
    obtain ⟨⟨e0, e1, e2, e3⟩, _⟩ := hx
    have r0 := bools_of (bs := [true, true, true, false]) (p := x0.2) ((hel 0 (by decide)).trans (by rw [List.getElem?_cons_zero]; congr 1; exact Prod.ext e0.symm rfl))
    have r1 := bools_of (bs := [true, true, false, false]) (p := x1.2) ((hel 1 (by decide)).trans (by simp only [List.getElem?_cons_zero, List.getElem?_cons_succ]; congr 1; exact Prod.ext e1.symm rfl))
    have r2 := bools_of (bs := [true, false, true, false]) (p := x2.2) ((hel 2 (by decide)).trans (by simp only [List.getElem?_cons_zero, List.getElem?_cons_succ]; congr 1; exact Prod.ext e2.symm rfl))
    have r3 := bools_of (bs := [false, false, false, false]) (p := x3.2) ((hel 3 (by decide)).trans (by simp only [List.getElem?_cons_zero, List.getElem?_cons_succ]; congr 1; exact Prod.ext e3.symm rfl))
    refine ⟨t', f, ?_⟩
    rw [hh]
    congr 2
    apply Array.toList_inj.1
    rw [four_drop cs.toList hlen, r0, r1, r2, r3]
    rfl

theorem tabBoth_of {W : World} {laid : List (String × DataW Unit)} (hp : (laid.all fun x => x.2.handleName?.isNone) = true) (hl : laidMetH Tryd.prog laid W) (hm : ("loop.example/g00181/impl.bothModes", Rows.laid_loop_example_g00181_impl_bothModes) ∈ laid) : TabBoth W := by
  rw [MakeChecks.laidMetH_plain _ _ _ hp] at hl
  obtain ⟨ps, hv, _⟩ := hl
  obtain ⟨g, t, cs, fuel, p, h1, h2, h3, h4⟩ := laidVars_mem laid ps hv _ _ hm
  obtain rfl := Option.some.inj (gBoth.symm.trans h1)
  obtain rfl := Option.some.inj (tBoth.symm.trans h2)
  obtain ⟨t', f, hh⟩ := var_heap h1 h3
  obtain ⟨xs, m, _, hx, hlen, hn, hel⟩ := DataW.trod_array Tryd.underlying57 h4
  have c1 : Tryd.prog.cellsOf 3 = 1 := by kernel_rfl
  have c4 : Tryd.prog.cellsOf 56 = 4 := by kernel_rfl
  have c16 : Tryd.prog.cellsOf 57 = 16 := by kernel_rfl
  rw [c4] at hel
  rw [c16] at hlen
  match xs, hn with
  | [x0, x1, x2, x3], _ =>
    simp only [Rows.laid_loop_example_g00181_impl_bothModes, Prod.mk.injEq, DataW.agg.injEq, List.map_cons, List.map_nil, List.cons.injEq, and_true] at hx
    obtain ⟨⟨e0, e1, e2, e3⟩, _⟩ := hx
    have r0 := Lib.cells_of_tab (zs := [1, 2, 3, 4]) (p := x0.2) Tryd.underlying56 Tryd.underlying3 c1 c4 ((hel 0 (by decide)).trans (by rw [List.getElem?_cons_zero]; congr 1; exact Prod.ext e0.symm rfl))
    have r1 := Lib.cells_of_tab (zs := [2, 2, 4, 4]) (p := x1.2) Tryd.underlying56 Tryd.underlying3 c1 c4 ((hel 1 (by decide)).trans (by simp only [List.getElem?_cons_zero, List.getElem?_cons_succ]; congr 1; exact Prod.ext e1.symm rfl))
    have r2 := Lib.cells_of_tab (zs := [3, 4, 3, 4]) (p := x2.2) Tryd.underlying56 Tryd.underlying3 c1 c4 ((hel 2 (by decide)).trans (by simp only [List.getElem?_cons_zero, List.getElem?_cons_succ]; congr 1; exact Prod.ext e2.symm rfl))
    have r3 := Lib.cells_of_tab (zs := [4, 4, 4, 4]) (p := x3.2) Tryd.underlying56 Tryd.underlying3 c1 c4 ((hel 3 (by decide)).trans (by simp only [List.getElem?_cons_zero, List.getElem?_cons_succ]; congr 1; exact Prod.ext e3.symm rfl))
    refine ⟨t', f, ?_⟩
    rw [hh]
    congr 2
    apply Array.toList_inj.1
    rw [four_drop cs.toList hlen, r0, r1, r2, r3]
    rfl
end Go.Proofs.YtekljhabjkmhpaaDoor
