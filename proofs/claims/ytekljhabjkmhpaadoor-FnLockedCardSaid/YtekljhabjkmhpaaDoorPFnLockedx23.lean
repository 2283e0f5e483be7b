/- Several texts in one, in their order. -/
import Derived.Test.YtekljhabjkmhpaaDoorProg
import Derived.Test.YtekljhabjkmhpaaDoorPFnLockedx1
import Derived.Test.YtekljhabjkmhpaaDoorPFnLockedx21
import Derived.Test.YtekljhabjkmhpaaDoorPFnLockedx22
/- The walk of laws.big. -/
namespace Go.Proofs.YtekljhabjkmhpaaDoor
open Go.RowKit

set_option maxHeartbeats 400000 in
theorem big_any (a : Option Addr) (c n : Nat) (w : World) : Calls Tryd.prog 9 #[.slice a n c] w fun e w' => e = .returned (.bool (decide (1048576 < n))) ∧ w' = w := by
  by_cases h : 1048576 < n
  · have HB : Hid (decide (1048576 < n) = true) := decide_eq_true h
    go_enter Tryd.func9, Tryd.ntmps9
    go_wp2
    go_ret
    exact ⟨by rw [HB.out]; exact ret_bool (decide_eq_true (by omega)), rfl⟩
  · have HB : Hid (decide (1048576 < n) = false) := decide_eq_false h
    go_enter Tryd.func9, Tryd.ntmps9
    go_wp2
    go_ret
    exact ⟨by rw [HB.out]; exact ret_bool (decide_eq_false (by omega)), rfl⟩

end Go.Proofs.YtekljhabjkmhpaaDoor

/- The walk of laws.FnLocked. -/
namespace Go.Proofs.YtekljhabjkmhpaaDoor
open Go.RowKit

theorem refB_out {G V : List GrantV} {g : GrantV} (h : ¬ refB G V g = true) : okLocks G V = true ∧ grantB g = true ∧ V.any (fun h => h.tx == g.tx) = false := by
  unfold refB at h
  simp only [Bool.or_eq_true, Bool.not_eq_true', not_or, Bool.not_eq_false] at h
  exact ⟨h.1.1, h.1.2, by simpa using h.2⟩
theorem refB_no {G V : List GrantV} {g : GrantV} (h1 : okLocks G V = true) (h2 : grantB g = true) (h3 : V.any (fun h => h.tx == g.tx) = false) : ¬ refB G V g = true := by
  unfold refB
  rw [h1, h2, h3]
  decide
theorem ask_sides (G V : List GrantV) (g : GrantV) : (if refB G V g = true then (G, V, 2) else askI G V g) = (if refB G V g = true then (G, V, 2) else askV G V g) := by
  by_cases h : refB G V g = true
  · rw [if_pos h, if_pos h]
  · rw [if_neg h, if_neg h]
    obtain ⟨h1, h2, _⟩ := refB_out h
    exact ask_same (good_of h1).1 h2
/-- What is right of an ask that is not refused. -/
structure Asked (G V : List GrantV) (g : GrantV) (A : List GrantV × List GrantV × Int) : Prop where
  good : GoodG A.1 ∧ GoodW A.2.1
  len : A.1.length + A.2.1.length ≤ G.length + V.length + 1
  st : A.2.2 = 0 ∨ (A.2.2 = 1 ∧ A.2.1 = V ++ [g])
  zero : A.2.2 = 0 → 0 < lastZ g.tx g.res A.1 ∧ bothZ (lastZ g.tx g.res A.1) g.mode = lastZ g.tx g.res A.1 ∧ (A.1.length ≤ 60 → A.2.1.length ≤ 60 → (if refB A.1 A.2.1 g = true then (A.1, A.2.1, 2) else askI A.1 A.2.1 g).2.2 = 0)
theorem asked_of {G V : List GrantV} {g : GrantV} (h : ¬ refB G V g = true) : Asked G V g (askV G V g) := by
  obtain ⟨h1, h2, h3⟩ := refB_out h
  obtain ⟨hg, hv⟩ := good_of h1
  obtain ⟨q1, q2, q3⟩ := ask_good hg hv h2 h3
  refine ⟨⟨q1, q2⟩, q3, ask_two G V g, fun h0 => ?_⟩
  obtain ⟨hV, k, hk, hp, hh⟩ := ask_left hg h2 h0
  have hat := (placeZ_at hp zeroG).2.1
  have hl := lastZ_at q1 hk hat
  rw [hl]
  refine ⟨modeB_pos hh.1, hh.2, fun l1 l2 => ?_⟩
  rw [if_neg (refB_no (good_ok q1 q2 l1 l2) h2 (by rw [hV]; exact h3))]
  exact ask_again hp hh

set_option maxHeartbeats 8000000 in
set_option maxRecDepth 100000 in
theorem lawLocked_walk (a : Option Addr) (c : Nat) (zs : List Int) (w : World) (hTG : TabGo w) (hTB : TabBoth w) (hr : Reads w a zs) :
    Calls Tryd.prog 4 #[.slice a zs.length c] w fun e w' => e = .returned (.bool true) ∧ Below w.heap.size w w' := by
  have C0 := big_any a c zs.length w
  by_cases hbig : 1048576 < zs.length
  · rw [decide_eq_true hbig] at C0
    go_enter Tryd.func4, Tryd.ntmps4
    go_wp2_with fail
    refine C0.mono ?_
    rintro e w' ⟨rfl, rfl⟩
    go_wp2
    go_ret
    exact ⟨rfl, Below.refl _ _⟩
  rw [decide_eq_false hbig] at C0
  have CD := drawAsk_any a c zs w hr (by omega)
  clear hbig hr
  go_enter Tryd.func4, Tryd.ntmps4
  go_wp2_with fail
  refine C0.mono ?_
  rintro e w' ⟨rfl, hww⟩
  subst hww
  clear C0
  go_wp2_with fail
  refine CD.mono ?_
  clear CD
  rintro e w1 ⟨l, t, r, m, rfl, ho1, hlen, hb1⟩
  obtain ⟨W2, hW2, b2, hbW2, hsW2⟩ := boxes1 w1 [.slice l.aG l.given.length l.cG, .slice l.aW l.waits.length l.cW] 30
  have hs2 := b2.lt
  have D2 : Below w'.heap.size w' W2 := hb1.trans (hbW2.mono hb1.size)
  have HBX : Hid (∀ u, Below W2.heap.size W2 u → u.cell? ⟨w1.heap.size, 0, none⟩ = some (.slice l.aG l.given.length l.cG) ∧ u.cell? ⟨w1.heap.size, 1, none⟩ = some (.slice l.aW l.waits.length l.cW)) := fun u hu => ⟨(b2.below hu hs2).cell 0 _ rfl, (b2.below hu hs2).cell 1 _ rfl⟩
  have HRD : Hid (∀ u, Below W2.heap.size W2 u → l.reads u) := fun u hu => ((ho1.below hbW2).below hu).reads
  have HTT : Hid (∀ u, Below W2.heap.size W2 u → TabGo u ∧ TabBoth u) := fun u hu => ⟨(hTG.keep D2).keep hu, (hTB.keep D2).keep hu⟩
  have HEND : Hid (∀ u, Below W2.heap.size W2 u → Below w'.heap.size w' u) := fun u hu => D2.trans (hu.mono D2.size)
  have N2 : Below W2.heap.size W2 W2 := Below.refl _ _
  have C1 := implAsk_any l ⟨t, r, m⟩ W2 (HTT.out _ N2).1 (HTT.out _ N2).2 (HRD.out _ N2) ⟨by omega, by omega⟩
  rw [ask_sides] at C1
  obtain ⟨A, HA⟩ : ∃ A, Hid ((if refB l.given l.waits ⟨t, r, m⟩ = true then (l.given, l.waits, 2) else askV l.given l.waits ⟨t, r, m⟩) = A) := ⟨_, rfl⟩
  have HC2 : Hid (∀ u, Below W2.heap.size W2 u → Calls Tryd.prog 17 #[.agg #[.slice l.aG l.given.length l.cG, .slice l.aW l.waits.length l.cW], .int .i64 t, .int .i64 r, .int .i64 m] u fun e w' => AskEnd u A e w') := fun u hu => by
    have C2 := specAsk_any l ⟨t, r, m⟩ u (HRD.out u hu) ⟨by omega, by omega⟩
    rw [HA.out] at C2
    exact C2
  rw [HA.out] at C1
  simp only at C1
  obtain ⟨x0, x1⟩ := HBX.out _ N2
  clear b2 hbW2 hsW2 ho1 hb1 hTG hTB
  go_upto_region 4 with fail
  rw [hW2.out]
  clear hW2
  go_wp2_with fail
  refine C1.mono ?_
  clear C1 x0 x1
  rintro e w3 ⟨l3, rfl, hg3, hv3, ho3, hb3⟩
  obtain ⟨W4, hW4, b4, hbW4, hsW4⟩ := boxes1 w3 [.slice l3.aG l3.given.length l3.cG, .slice l3.aW l3.waits.length l3.cW] 30
  have hs4 := b4.lt
  have N4 : Below W2.heap.size W2 W4 := hb3.trans (hbW4.mono hb3.size)
  have HB4 : Hid (∀ u, Below W4.heap.size W4 u → (u.cell? ⟨w3.heap.size, 0, none⟩ = some (.slice l3.aG l3.given.length l3.cG) ∧ u.cell? ⟨w3.heap.size, 1, none⟩ = some (.slice l3.aW l3.waits.length l3.cW)) ∧ l3.reads u) := fun u hu => ⟨⟨(b4.below hu hs4).cell 0 _ rfl, (b4.below hu hs4).cell 1 _ rfl⟩, ((ho3.below hbW4).below hu).reads⟩
  have HN4 : Hid (∀ u, Below W4.heap.size W4 u → Below W2.heap.size W2 u) := fun u hu => N4.trans (hu.mono N4.size)
  have HG3 : Hid (l3.given = A.1 ∧ l3.waits = A.2.1) := ⟨hg3, hv3⟩
  have C2 := HC2.out _ N4
  obtain ⟨x0, x1⟩ := HBX.out _ N4
  clear b4 hbW4 hsW4 ho3 hb3 hg3 hv3 HC2
  obtain ⟨st, HST⟩ : ∃ st, Hid (A.2.2 = st) := ⟨_, rfl⟩
  rw [HST.out]
  go_upto_region 5 with fail
  rw [hW4.out]
  clear hW4
  go_wp2_with fail
  refine C2.mono ?_
  clear C2 x0 x1
  rintro e w5 ⟨l5, rfl, hq1, hq2, hq3, hb5⟩
  clear hq1 hq2 hq3
  obtain ⟨W6, hW6, b6, hbW6, hsW6⟩ := boxes1 w5 [.slice l5.aG l5.given.length l5.cG, .slice l5.aW l5.waits.length l5.cW] 30
  have M6 : Below W4.heap.size W4 W6 := hb5.trans (hbW6.mono hb5.size)
  rw [HST.out]
  clear b6 hbW6 hsW6 hb5
  go_upto_region 6 with fail
  rw [hW6.out]
  clear hW6
  have hst : (st != st) = false := by simp
  obtain ⟨⟨y0, y1⟩, hr3⟩ := HB4.out _ M6
  have N6 := HN4.out _ M6
  obtain ⟨x0, x1⟩ := HBX.out _ N6
  by_cases hrf : refB l.given l.waits ⟨t, r, m⟩ = true
  · rw [if_pos hrf] at HA
    have hs2' : st = 2 := by rw [← HST.out, ← HA.out]
    subst hs2'
    have e1 : ((l3.given.length : Int) == (l.given.length : Int)) = true := by rw [HG3.out.1, ← HA.out]; simp
    have e2 : ((l3.waits.length : Int) == (l.waits.length : Int)) = true := by rw [HG3.out.2, ← HA.out]; simp
    have HX := HEND.out _ N6
    clear hr3 hrf HST HA
    go_wp2_with fail
    go_ret
    exact ⟨rfl, HX⟩
  · have HAS : Hid (Asked l.given l.waits ⟨t, r, m⟩ A) := by rw [Hid, ← HA.out, if_neg hrf]; exact asked_of hrf
    have hlen3 : l3.given.length + l3.waits.length ≤ 18 := by
      rw [HG3.out.1, HG3.out.2]
      have := HAS.out.len
      omega
    have hst2 : (st == 2) = false := by
      have := HAS.out.st
      rw [HST.out] at this
      exact beq_eq_false_iff_ne.2 (by omega)
    have hok3 : okLocks l3.given l3.waits = true := by
      have h1 := HAS.out.good
      rw [← HG3.out.1, ← HG3.out.2] at h1
      exact good_ok h1.1 h1.2 (by omega) (by omega)
    have C4 := implLocksOk_any l3 W6 (HTT.out _ N6).1 hr3 ⟨by omega, by omega⟩
    rw [hok3] at C4
    clear hrf HA hok3
    go_wp2_with fail
    refine C4.mono ?_
    clear C4 x0 x1 y0 y1 hr3
    rintro e w8 ⟨rfl, hb8⟩
    have M8 : Below W4.heap.size W4 w8 := M6.trans (hb8.mono M6.size)
    have N8 := HN4.out _ M8
    obtain ⟨⟨y0, y1⟩, hr8⟩ := HB4.out _ M8
    obtain ⟨x0, x1⟩ := HBX.out _ N8
    have HC3 : Hid (∀ k, k < l3.given.length → ∃ b off, l3.aG = some ⟨b, off, none⟩ ∧ w8.cell? ⟨b, off + k * 3, none⟩ = some (.int .i64 (l3.given.getD k zeroG).tx) ∧ w8.cell? ⟨b, off + k * 3 + 1, none⟩ = some (.int .i64 (l3.given.getD k zeroG).res) ∧ w8.cell? ⟨b, off + k * 3 + 2, none⟩ = some (.int .i64 (l3.given.getD k zeroG).mode)) := fun k hk => by
      obtain ⟨b, off, ha, hc⟩ := hr8.given (by intro e; rw [e] at hk; simp at hk)
      exact ⟨b, off, ha, hc k hk⟩
    have HR8 : Hid (_) := hr8
    clear hb8 M6 N6 hr8
    go_wp2_with fail
    go_loop [11, 12] (fun o i => ∃ k : Nat, k ≤ l3.given.length ∧ i = .int .i64 k ∧ o = .int .i64 (lastZ t r (l3.given.take k))) (fun _ i => l3.given.length - (intOf i).toNat)
    case atStart => exact ⟨0, Nat.zero_le _, rfl, rfl⟩
    case round =>
      obtain ⟨k, hk, rfl, rfl⟩ := hrel
      by_cases hlt : k < l3.given.length
      · obtain ⟨b, off, hab, d0, d1, d2⟩ := HC3.out k hlt
        rw [hab] at y0
        have HLS : Hid (lastZ t r (l3.given.take (k + 1)) = if atB t r (l3.given.getD k zeroG) then (l3.given.getD k zeroG).mode else lastZ t r (l3.given.take k)) := by
          rw [Hid, List.take_add_one, List.getElem?_eq_getElem hlt, Option.toList_some, lastZ_snoc, getD_get _ _ hlt]
        have HAT : Hid (∀ z : GrantV, atB t r z = (z.tx == t && z.res == r)) := fun z => rfl
        clear hab HC3
        generalize l3.given.getD k zeroG = z at *
        rw [HAT.out] at HLS
        generalize hq1 : (z.tx == t) = q1 at *
        generalize hq2 : (z.res == r) = q2 at *
        generalize lastZ t r (l3.given.take k) = old at *
        cases q1 with
        | false =>
          have HE : Hid (lastZ t r (l3.given.take (k + 1)) = old) := HLS.out
          clear HLS hq2
          go_wp2_with fail
          go_round
          case rel => exact ⟨k + 1, by omega, by go_num, by rw [HE.out]⟩
          case measure => simp [intOf]; omega
        | true =>
          cases q2 with
          | false =>
            have HE : Hid (lastZ t r (l3.given.take (k + 1)) = old) := HLS.out
            clear HLS
            go_wp2_with fail
            go_round
            case rel => exact ⟨k + 1, by omega, by go_num, by rw [HE.out]⟩
            case measure => simp [intOf]; omega
          | true =>
            have HE : Hid (lastZ t r (l3.given.take (k + 1)) = z.mode) := HLS.out
            clear HLS
            go_wp2_with fail
            go_round
            case rel => exact ⟨k + 1, by omega, by go_num, by rw [HE.out]⟩
            case measure => simp [intOf]; omega
      · have HLK : Hid (lastZ t r (l3.given.take k) = lastZ t r A.1) := by rw [Hid, List.take_of_length_le (by omega), HG3.out.1]
        rw [HLK.out]
        clear HLK HC3
        by_cases hs1 : st = 1
        · subst hs1
          have hwv : l3.waits = l.waits ++ [⟨t, r, m⟩] := by
            rw [HG3.out.2]
            rcases HAS.out.st with q | q
            · rw [HST.out] at q; cases q
            · exact q.2
          have hwl : l3.waits.length = l.waits.length + 1 := by rw [hwv]; simp
          obtain ⟨b, off, hab, hcw⟩ := HR8.out.waits (by rw [hwv]; simp)
          obtain ⟨d0, _, _⟩ := hcw l.waits.length (by omega)
          have hgl : (l3.waits.getD l.waits.length zeroG).tx = t := by rw [hwv]; simp [List.getD]
          rw [hgl] at d0
          rw [hab, hwl] at y1
          have hwI : (l.waits.length : Int) ≤ 17 := by omega
          have HX := HEND.out _ N8
          clear hwv hcw hgl hab HAS HR8 HG3
          go_wp2_with fail
          go_ret
          exact ⟨rfl, HX⟩
        · have hst1 : (st == 1) = false := beq_eq_false_iff_ne.2 hs1
          have hs0 : st = 0 := by
            rcases HAS.out.st with q | q
            · rw [HST.out] at q; exact q
            · rw [HST.out] at q; exact absurd q.1 hs1
          obtain ⟨z1, z2, z3⟩ := HAS.out.zero (by rw [HST.out]; exact hs0)
          have C5 := implAsk_any l3 ⟨t, r, m⟩ w8 (HTT.out _ N8).1 (HTT.out _ N8).2 HR8.out ⟨by omega, by omega⟩
          have HZ3 : Hid ((if refB l3.given l3.waits ⟨t, r, m⟩ = true then (l3.given, l3.waits, 2) else askI l3.given l3.waits ⟨t, r, m⟩).2.2 = 0) := by
            rw [Hid, HG3.out.1, HG3.out.2]
            exact z3 (by rw [← HG3.out.1]; omega) (by rw [← HG3.out.2]; omega)
          simp only at z1 z2 C5
          generalize (if refB l3.given l3.waits ⟨t, r, m⟩ = true then (l3.given, l3.waits, 2) else askI l3.given l3.waits ⟨t, r, m⟩) = A2 at *
          generalize lastZ t r A.1 = hz at *
          clear z3 hs1 HAS hs0
          go_wp2_with fail
          refine C5.mono ?_
          clear C5 x0 x1 y0 y1
          rintro e w9 ⟨l9, rfl, hq1, hq2, hq3, hb9⟩
          clear hq1 hq2 hq3
          rw [HZ3.out]
          obtain ⟨WA, hWA, bA, hbWA, hsWA⟩ := boxes1 w9 [.slice l9.aG l9.given.length l9.cG, .slice l9.aW l9.waits.length l9.cW] 30
          have NA : Below W2.heap.size W2 WA := (N8.trans (hb9.mono N8.size)).trans (hbWA.mono (by have := N8.size; have := hb9.size; omega))
          have CB := implBoth_any hz m WA (HTT.out _ NA).2
          have HX := HEND.out _ NA
          rw [z2] at CB
          clear bA hbWA hsWA hb9 z2
          go_upto_region 21 with fail
          rw [hWA.out]
          clear hWA
          go_wp2_with fail
          refine CB.mono ?_
          clear CB
          rintro e wB ⟨rfl, hwB⟩
          subst hwB
          go_wp2_with fail
          go_ret
          exact ⟨rfl, HX⟩
end Go.Proofs.YtekljhabjkmhpaaDoor
