/- Several texts in one, in their order. -/
import Derived.Test.YtoboickdkednkaaGreatDoorPFnTornx13
import Derived.Test.YtoboickdkednkaaGreatDoorPFnTornx8
import Derived.Test.YtoboickdkednkaaGreatDoorPFnTornx7
import Derived.Test.YtoboickdkednkaaGreatDoorPFnTornx4
import Derived.Deep.RegionHeld3
import Derived.Deep.CutRange
import Derived.Test.YtoboickdkednkaaGreatDoorRows
import Derived.Test.YtoboickdkednkaaGreatDoorPFnTornx5
import Derived.LaidLaws
import Derived.LaidHandle
import Derived.Stop.Joined
import Derived.ChangeVars
import Derived.Test.YtoboickdkednkaaGreatDoorPFnTornx1
set_option maxHeartbeats 8000000
set_option maxRecDepth 100000
namespace Go.Proofs.YtoboickdkednkaaGreatDoor
open Go.RowKit
attribute [local go_sem ↓] Go.wp_at_zero Go.wp_at_succ
theorem torn_left {l : LogV} {keep : Int} (h : okLog l = true) (hk : 0 ≤ keep) : ((leftOf l keep : Nat) : Int) = l.sure + (if keep < l.recs.length - l.sure then keep else l.recs.length - l.sure) ∧ leftOf l keep ≤ l.recs.length := by
 obtain ⟨h0, h1, h2, _⟩ := okLog_yes h
 unfold leftOf
 split <;> constructor <;> omega
theorem okLog_torn {l : LogV} {keep : Int} (h : okLog l = true) (hk : 0 ≤ keep) : okLog (tearOf l keep) = true := by
 have hl := (torn_left h hk).2
 obtain ⟨h0, h1, h2, h3⟩ := okLog_yes h
 rw [tearOf, if_pos ⟨h, hk⟩]
 have hlen : (l.recs.take (leftOf l keep)).length = leftOf l keep := by rw [List.length_take]; omega
 refine okLog_all (by show (l.recs.take (leftOf l keep)).length ≤ 4000; rw [hlen]; omega) ?_ (fun k hk' => ?_)
 ·show inB (leftOf l keep) 0 (l.recs.take (leftOf l keep)).length = true
  rw [hlen]
  simp [inB]
 ·have hk2 : k < leftOf l keep := by rw [← hlen]; exact hk'
  obtain ⟨e1, e2⟩ := h3 k (by omega)
  have e : (l.recs.take (leftOf l keep)).getD k noR = l.recs.getD k noR := by simp [List.getD, hk2]
  show okAt (l.recs.take (leftOf l keep)) k = true
  unfold okAt
  rw [e, e1, e2]
  simp
theorem torn_facts {l t : LogA} {keep : Int} (hv : t.v = tearOf l.v keep) (h : okLog l.v = true) (hk : 0 ≤ keep) :
  t.sure = (t.recs.length : Int) ∧ (t.recs.length : Int) = l.sure + (if keep < l.recs.length - l.sure then keep else l.recs.length - l.sure) := by
 have h1 := torn_left h hk
 rw [tearOf, if_pos ⟨h, hk⟩] at hv
 have hs : t.sure = (leftOf l.v keep : Int) := congrArg LogV.sure hv
 have hr : t.recs.length = leftOf l.v keep := by
  have := congrArg (fun v => v.recs.length) hv
  simp only [LogA.v, List.length_map, List.length_take] at this
  rw [this]
  have h2 := h1.2
  rw [LogA.v_len] at h2
  simp only [LogA.v] at h2 ⊢
  omega
 rw [hs, hr]
 refine ⟨rfl, ?_⟩
 have h3 := h1.1
 rw [LogA.v_len] at h3
 exact h3
theorem wrap_in (x : Int) (h1 : -9223372036854775808 ≤ x) (h2 : x < 9223372036854775808) : IntKind.i64.wrap x = x := by
 rw [IntKind.wrap_i64]
 omega
theorem torn_short {l t : LogA} {keep : Int} (hv : t.v = tearOf l.v keep) (h : l.short 1048576) : t.short 1099511627776 := by
 have key : (∀ x ∈ t.v.recs, x ∈ l.v.recs) ∧ t.v.recs.length ≤ l.v.recs.length := by
  rw [hv, tearOf]
  split
  ·exact ⟨fun x hx => List.mem_of_mem_take hx, by simp only [List.length_take]; omega⟩
  ·exact ⟨fun x hx => hx, Nat.le_refl _⟩
 refine ⟨by have := key.2; rw [LogA.v_len, LogA.v_len] at this; have := h.len; omega, fun x hx => ?_⟩
 have hm := key.1 x.v (List.mem_map.2 ⟨x, hx, rfl⟩)
 obtain ⟨y, hy, e⟩ := List.mem_map.1 hm
 exact Go.Proofs.YtoboickdkednkaaGreatDoor.short_wide (short_of e.symm (h.each y hy))
theorem same_facts {l t : LogA} (hv : t.v = l.v) : t.recs.length = l.recs.length ∧ t.sure = l.sure := by
 refine ⟨?_, congrArg LogV.sure hv⟩
 have := congrArg (fun v => v.recs.length) hv
 simpa [LogA.v] using this
theorem forced_facts {l f : LogA} {n : Int} (hv : f.v = forceOf l.v n) (h : okLog l.v = true) : f.recs.length = l.recs.length ∧ f.sure = max l.sure (min n l.recs.length) := by
 rw [forceOf, if_pos h] at hv
 refine ⟨?_, ?_⟩
 ·have := congrArg (fun v => v.recs.length) hv
  simpa [LogA.v] using this
 ·have := congrArg LogV.sure hv
  simpa [LogA.v] using this
theorem Int.emod_le_self_of_nonneg_m (m n : Nat) : (m : Int) % ((n : Int) + 2) ≤ m := by
 have : ((m % (n + 2) : Nat) : Int) ≤ m := by have := Nat.mod_le m (n + 2); omega
 have e : (m : Int) % ((n : Int) + 2) = ((m % (n + 2) : Nat) : Int) := by rw [Int.natCast_emod]; rfl
 omega
theorem lawTorn_walk (a : Option Addr) (cap : Nat) (zs : List Int) (w : World) (hg : ErrT w) (hr : Reads w a zs) :
  Calls Tryz.prog 3 #[.slice a zs.length cap] w fun e w' => e = .returned (.bool true) ∧ Below w.heap.size w w' := by
 by_cases hbig : 1048576 < zs.length
 ·have hd : decide (1048576 < zs.length) = true := decide_eq_true hbig
  go_enter Tryz.func3, Tryz.ntmps3
  go_wp2_with fail
  refine (big_any a cap zs.length w).mono ?_
  rw [hd]
  rintro e u ⟨rfl, hu⟩
  rw [hu]
  clear hu u
  go_wp2
  go_ret
  exact ⟨rfl, Below.refl _ _⟩
 have hd : decide (1048576 < zs.length) = false := decide_eq_false hbig
 go_enter Tryz.func3, Tryz.ntmps3
 go_wp2_with fail
 refine (big_any a cap zs.length w).mono ?_
 rw [hd]
 rintro e u ⟨rfl, hu⟩
 rw [hu]
 clear hu u hd
 go_wp2_with fail
 refine (drawTear_any a cap zs w hr (by omega)).mono ?_
 rintro e w1 ⟨l, keep, rfl, hrl, hlen, hsh, hcp, hcf, hk1, hk2, B1⟩
 have hlS : l.short 1048576 := ⟨by omega, fun x hx => ⟨by have := (hsh x hx).bf; omega, by have := (hsh x hx).af; omega, by have := (hsh x hx).txs; omega⟩⟩
 have hs1 := B1.size
 obtain ⟨W2, hW2, b3, hb2, hs2⟩ := boxes1 w1 [.slice l.a l.recs.length l.c, .int .i64 l.sure] 26
 have B2 : Below w.heap.size w W2 := B1.trans (hb2.mono B1.size)
 have hrl2 := LogA.reads.below hrl hb2
 have HGB : Hid (∀ u, Below w.heap.size w u → ErrT u) := fun u hu => hg.keep hu
 have HRZ : Hid (∀ u, Below w.heap.size w u → Reads u a zs) := fun u hu => hr.below hu
 have hs2' := b3.lt
 have C := implTear_any l keep W2 (HGB.out _ B2) hrl2 hlS hcp hcf.1 hcf.2
 simp only [LogA.cells] at *
 clear hs2 hb2 hrl B1 hg hr
 go_upto_region 4 with fail
 rw [hW2.out]
 clear hW2
 have p0 := b3.cell 0 _ rfl
 have p1 := b3.cell 1 _ rfl
 go_wp2_with fail
 refine C.mono ?_
 clear C p0 p1
 rintro e w3 ⟨t, rfl, hvt, ot, hb3⟩
 have hs3 := hb3.size
 have b33 := b3.below hb3 b3.lt
 have B3 : Below w.heap.size w w3 := B2.trans (hb3.mono B2.size)
 have hrl3 := LogA.reads.below hrl2 hb3
 obtain ⟨W4, hW4, b5, hb4, hs4⟩ := boxes1 w3 [.slice t.a t.recs.length t.c, .int .i64 t.sure] 26
 have B4 : Below w.heap.size w W4 := B3.trans (hb4.mono B3.size)
 have b34 := b33.below hb4 b33.lt
 have hrl4 := LogA.reads.below hrl3 hb4
 have ot4 := LogA.own.below ot hb4
 have hs4' := b5.lt
 clear b3 b33 hb3 hb4 hs4 hrl2 hrl3 ot B2 B3
 go_upto_region 5 with fail
 rw [hW4.out]
 clear hW4
 have p0 := b34.cell 0 _ rfl
 have p1 := b34.cell 1 _ rfl
 have C := specLogOk_any l W4 hrl4 (LogA.short_wide hlS)
 simp only [LogA.cells] at C
 go_wp2_with fail
 refine C.mono ?_
 clear C p0 p1
 rintro e w5 ⟨rfl, hb5⟩
 have hs5 := hb5.size
 have b35 := b34.below hb5 b34.lt
 have b55 := b5.below hb5 b5.lt
 have hrl5 := LogA.reads.below hrl4 hb5
 have ot5 := ot4.below hb5
 have B5 : Below w.heap.size w w5 := B4.trans (hb5.mono B4.size)
 have HVT : Hid (t.v = tearOf l.v keep) := hvt.out
 clear b34 b5 hb5 hrl4 ot4 B4 hvt
 by_cases hyes : okLog l.v = true ∧ 0 ≤ keep
 case neg =>
  obtain ⟨e1, e2⟩ := same_facts (l := l) (t := t) (by rw [HVT.out, tearOf, if_neg hyes])
  have x0 := b35.cell 0 _ rfl
  have x1 := b35.cell 1 _ rfl
  have y0 := b55.cell 0 _ rfl
  have y1 := b55.cell 1 _ rfl
  rw [e1] at y0
  rw [e2] at y1
  clear e1 e2 HVT b35 b55 ot5 hrl5
  cases h1 : okLog l.v with
  | false =>
   clear hyes h1
   go_wp2_with fail
   go_ret
   exact ⟨rfl, B5⟩
  | true =>
   have hkn : keep < 0 := by
    have : ¬ 0 ≤ keep := fun h => hyes ⟨h1, h⟩
    omega
   clear hyes h1
   go_wp2_with fail
   go_ret
   exact ⟨rfl, B5⟩
 case pos =>
  obtain ⟨h1, h2⟩ := hyes
  obtain ⟨f1, f2⟩ := torn_facts HVT.out h1 h2
  obtain ⟨_, g1, g2, _⟩ := okLog_yes h1
  rw [LogA.v_len] at g2
  have g1' : 0 ≤ l.sure := g1
  have g2' : l.sure ≤ (l.recs.length : Int) := g2
  clear g1 g2
  have HOT : Hid (okLog t.v = true) := by rw [Hid, HVT.out]; exact okLog_torn h1 h2
  have HFF : Hid (∀ (f : LogA) (n : Int), f.v = forceOf l.v n → f.recs.length = l.recs.length ∧ f.sure = max l.sure (min n l.recs.length)) := fun f n hv => forced_facts hv h1
  rw [h1]
  clear h1
  have hkn : ¬ keep < 0 := by omega
  have x0 := b35.cell 0 _ rfl
  have x1 := b35.cell 1 _ rfl
  have y0 := b55.cell 0 _ rfl
  have y1 : w5.cell? ⟨w3.heap.size, 1, none⟩ = some (.int .i64 (t.recs.length : Int)) := (b55.cell 1 _ rfl).trans (by rw [f1])
  have htl : t.recs.length ≤ 262144 := by split at f2 <;> omega
  have HF1 : Hid (t.sure = (t.recs.length : Int)) := f1
  have HTS : Hid (t.short 1099511627776) := torn_short HVT.out hlS
  clear f1
  by_cases hkl : keep < (l.recs.length : Int) - l.sure
  ·rw [if_pos hkl] at f2
   have HF2 : Hid (((t.recs.length : Int) == l.sure + keep) = true) := by rw [Hid]; simpa using f2
   clear f2
   have HWP : Hid (IntKind.i64.wrap ((l.recs.length : Int) + 2) = (l.recs.length : Int) + 2) := wrap_in _ (by omega) (by omega)
   go_upto_region 10 with fail
   refine wp_region_held_drew (S := fun w' => w'.cell? ⟨w1.heap.size, 0, none⟩ = some (.slice l.a l.recs.length l.c)) (by kernel_rfl) ?_ (fun hHeld => ?_)
   ·exact (b35.drewN 1).cell 0 _ rfl
   refine tk 0 (v := .slice a zs.length cap) rfl (Or.inl ⟨by rfl, ?_⟩) hHeld ?_
   ·intro w' hSw
    go_simp <;> rfl
   try simp only [Act.put, zA, zB, zD, zE, zF]
   refine tk 2 (v := .pointer (some ⟨w1.heap.size, 0, none⟩)) rfl (Or.inl ⟨by rfl, ?_⟩) hHeld ?_
   ·intro w' hSw
    go_simp <;> rfl
   try simp only [Act.put, zA, zB, zC, zD, zE, zF]
   refine tk 3 (v := .slice l.a l.recs.length l.c) rfl (Or.inl ⟨by rfl, ?_⟩) hHeld ?_
   ·intro w' hSw
    have hx := hSw
    go_simp <;> rfl
   try simp only [Act.put, zA, zB, zC, zD, zE, zF]
   refine tk 4 (v := .int .i64 (l.recs.length : Int)) rfl (Or.inl ⟨by rfl, ?_⟩) hHeld ?_
   ·intro w' hSw
    go_simp <;> rfl
   try simp only [Act.put, zA, zB, zC, zD, zE, zF]
   refine tk 5 (v := .int .i64 (IntKind.i64.wrap ((l.recs.length : Int) + 2))) rfl (Or.inl ⟨by rfl, ?_⟩) hHeld ?_
   ·intro w' hSw
    go_simp <;> rfl
   try simp only [Act.put, zA, zB, zC, zD, zE, zF]
   rw [HWP.out]
   refine wpAnyH_ready (rs := [1]) (by kernel_rfl) (by simp) ?_
   refine AllReadyH.cons rfl (fun K hK => ?_) AllReadyH.nil
   go_simp
   refine (at_any a cap zs 2 w5.drew (HRZ.out _ B5.drew) (by omega) (by omega)).mono ?_
   rintro e u ⟨⟨m, hm, rfl⟩, hu⟩
   rw [hu]
   clear hu u
   refine hK.out _ _ hHeld (fun hHeld => ?_)
   clear hK K
   try simp only [Act.put, zA, zB, zC, zD, zE, zF]
   obtain ⟨r, hrr⟩ : ∃ r : Nat, (m : Int).tmod ((l.recs.length : Int) + 2) = (r : Int) := ⟨m % (l.recs.length + 2), by rw [Int.tmod_eq_emod_of_nonneg (by omega), Int.natCast_emod]; rfl⟩
   have hrb : r ≤ 256 := by
    have h1 := Int.emod_le_self_of_nonneg_m m l.recs.length
    rw [Int.tmod_eq_emod_of_nonneg (by omega)] at hrr
    omega
   have hz2 : ¬ (l.recs.length : Int) + 2 = 0 := by omega
   refine tk 6 (v := .int .i64 (r : Int)) rfl (Or.inl ⟨by rfl, ?_⟩) hHeld ?_
   ·intro w' hSw
    go_simp <;> first | rfl | rw [hrr]
   try simp only [Act.put, zA, zB, zC, zD, zE, zF]
   refine tk 7 (v := .int .i64 (r : Int)) rfl (Or.inl ⟨by rfl, ?_⟩) hHeld ?_
   ·intro w' hSw
    go_simp <;> rfl
   try simp only [Act.put, zA, zB, zC, zD, zE, zF]
   refine wpAnyH_done (by kernel_rfl) ?_ _
   clear hrr hm hz2 hHeld
   have D5 : Below w5.heap.size w5 w5.drew := (Below.refl _ _).drew
   obtain ⟨w6, hw6⟩ : ∃ w6, Hid (w5.drew = w6) := ⟨_, rfl⟩
   rw [hw6.out] at D5 ⊢
   have s6 := D5.size
   have b36 := b35.below D5 b35.lt
   have b56 := b55.below D5 b55.lt
   have hrl6 := LogA.reads.below hrl5 D5
   have ot6 := ot5.below D5
   have B6 : Below w.heap.size w w6 := B5.trans (D5.mono B5.size)
   clear x0 x1 y0 y1 b35 b55 hrl5 ot5 D5 hw6
   have x0 := b36.cell 0 _ rfl
   have x1 := b36.cell 1 _ rfl
   have C := implForce_any l (r : Int) w6 (HGB.out _ B6) hrl6 hlS hcp
   simp only [LogA.cells] at C
   go_wp2_with fail
   refine C.mono ?_
   clear C x0 x1
   rintro e w7 ⟨f, rfl, hvf, of, hb7⟩
   have s7 := hb7.size
   have HKK : Hid (f.recs.length = l.recs.length ∧ f.sure = max l.sure (min (r : Int) l.recs.length)) := HFF.out f r hvf.out
   have b37 := b36.below hb7 b36.lt
   have b57 := b56.below hb7 b56.lt
   have ot7 := ot6.below hb7
   have B7 : Below w.heap.size w w7 := B6.trans (hb7.mono B6.size)
   obtain ⟨W8, hW8, b8, hb8, hs8⟩ := boxes1 w7 [.slice f.a f.recs.length f.c, .int .i64 f.sure] 26
   have b38 := b37.below hb8 b37.lt
   have b58 := b57.below hb8 b57.lt
   have ot8 := ot7.below hb8
   have B8 : Below w.heap.size w W8 := B7.trans (hb8.mono B7.size)
   clear b36 b56 ot6 hrl6 b37 b57 ot7 hb7 hb8 of hvf B6 B7 B5 hs8
   go_upto_region 12 with fail
   rw [hW8.out]
   clear hW8
   have x0 := b38.cell 0 _ rfl
   have x1 := b38.cell 1 _ rfl
   have y0 := b58.cell 0 _ rfl
   have y1 : W8.cell? ⟨w3.heap.size, 1, none⟩ = some (.int .i64 (t.recs.length : Int)) := (b58.cell 1 _ rfl).trans (by rw [HF1.out])
   have z0 : W8.cell? ⟨w7.heap.size, 0, none⟩ = some (.slice f.a l.recs.length f.c) := (b8.cell 0 _ rfl).trans (by rw [HKK.out.1])
   have hf2 := HF2.out
   have HZ : Hid (∀ u, Below W8.heap.size W8 u → u.cell? ⟨w1.heap.size, 0, none⟩ = some (.slice l.a l.recs.length l.c) ∧ u.cell? ⟨w7.heap.size, 0, none⟩ = some (.slice f.a l.recs.length f.c) ∧ u.cell? ⟨w7.heap.size, 1, none⟩ = some (.int .i64 f.sure)) := fun u hu => ⟨(b38.below hu b38.lt).cell 0 _ rfl, ((b8.below hu b8.lt).cell 0 _ rfl).trans (by rw [HKK.out.1]), (b8.below hu b8.lt).cell 1 _ rfl⟩
   have C := implLogOk_any t W8 (HGB.out _ B8) ot8.reads (by exact HTS.out)
   simp only [LogA.cells, HOT.out, HF1.out] at C
   by_cases c1 : (r : Int) > l.sure
   ·by_cases c2 : (r : Int) > (l.recs.length : Int)
    ·have HWN : Hid (f.sure = (l.recs.length : Int)) := by rw [Hid]; have k2 := HKK.out.2; omega
     go_wp2_with fail
     refine C.mono ?_
     clear C x0 x1 y0 y1 z0
     rintro e w9 ⟨rfl, hb9⟩
     obtain ⟨x0, z0, z1⟩ := HZ.out w9 hb9
     rw [HWN.out] at z1
     clear HWN
     go_wp2_with fail
     go_ret
     exact ⟨rfl, B8.trans (hb9.mono B8.size)⟩
    ·have HWN : Hid (f.sure = (r : Int)) := by rw [Hid]; have k2 := HKK.out.2; omega
     go_wp2_with fail
     refine C.mono ?_
     clear C x0 x1 y0 y1 z0
     rintro e w9 ⟨rfl, hb9⟩
     obtain ⟨x0, z0, z1⟩ := HZ.out w9 hb9
     rw [HWN.out] at z1
     clear HWN
     go_wp2_with fail
     go_ret
     exact ⟨rfl, B8.trans (hb9.mono B8.size)⟩
   ·have c2 : ¬ l.sure > (l.recs.length : Int) := by omega
    have HWN : Hid (f.sure = l.sure) := by rw [Hid]; have k2 := HKK.out.2; omega
    go_wp2_with fail
    refine C.mono ?_
    clear C x0 x1 y0 y1 z0
    rintro e w9 ⟨rfl, hb9⟩
    obtain ⟨x0, z0, z1⟩ := HZ.out w9 hb9
    rw [HWN.out] at z1
    clear HWN
    go_wp2_with fail
    go_ret
    exact ⟨rfl, B8.trans (hb9.mono B8.size)⟩
  ·rw [if_neg hkl] at f2
   have HF2 : Hid (((t.recs.length : Int) == l.sure + ((l.recs.length : Int) - l.sure)) = true) := by rw [Hid]; simpa using f2
   clear f2
   have HWP : Hid (IntKind.i64.wrap ((l.recs.length : Int) + 2) = (l.recs.length : Int) + 2) := wrap_in _ (by omega) (by omega)
   go_upto_region 10 with fail
   refine wp_region_held_drew (S := fun w' => w'.cell? ⟨w1.heap.size, 0, none⟩ = some (.slice l.a l.recs.length l.c)) (by kernel_rfl) ?_ (fun hHeld => ?_)
   ·exact (b35.drewN 1).cell 0 _ rfl
   refine tk 0 (v := .slice a zs.length cap) rfl (Or.inl ⟨by rfl, ?_⟩) hHeld ?_
   ·intro w' hSw
    go_simp <;> rfl
   try simp only [Act.put, zA, zB, zD, zE, zF]
   refine tk 2 (v := .pointer (some ⟨w1.heap.size, 0, none⟩)) rfl (Or.inl ⟨by rfl, ?_⟩) hHeld ?_
   ·intro w' hSw
    go_simp <;> rfl
   try simp only [Act.put, zA, zB, zC, zD, zE, zF]
   refine tk 3 (v := .slice l.a l.recs.length l.c) rfl (Or.inl ⟨by rfl, ?_⟩) hHeld ?_
   ·intro w' hSw
    have hx := hSw
    go_simp <;> rfl
   try simp only [Act.put, zA, zB, zC, zD, zE, zF]
   refine tk 4 (v := .int .i64 (l.recs.length : Int)) rfl (Or.inl ⟨by rfl, ?_⟩) hHeld ?_
   ·intro w' hSw
    go_simp <;> rfl
   try simp only [Act.put, zA, zB, zC, zD, zE, zF]
   refine tk 5 (v := .int .i64 (IntKind.i64.wrap ((l.recs.length : Int) + 2))) rfl (Or.inl ⟨by rfl, ?_⟩) hHeld ?_
   ·intro w' hSw
    go_simp <;> rfl
   try simp only [Act.put, zA, zB, zC, zD, zE, zF]
   rw [HWP.out]
   refine wpAnyH_ready (rs := [1]) (by kernel_rfl) (by simp) ?_
   refine AllReadyH.cons rfl (fun K hK => ?_) AllReadyH.nil
   go_simp
   refine (at_any a cap zs 2 w5.drew (HRZ.out _ B5.drew) (by omega) (by omega)).mono ?_
   rintro e u ⟨⟨m, hm, rfl⟩, hu⟩
   rw [hu]
   clear hu u
   refine hK.out _ _ hHeld (fun hHeld => ?_)
   clear hK K
   try simp only [Act.put, zA, zB, zC, zD, zE, zF]
   obtain ⟨r, hrr⟩ : ∃ r : Nat, (m : Int).tmod ((l.recs.length : Int) + 2) = (r : Int) := ⟨m % (l.recs.length + 2), by rw [Int.tmod_eq_emod_of_nonneg (by omega), Int.natCast_emod]; rfl⟩
   have hrb : r ≤ 256 := by
    have h1 := Int.emod_le_self_of_nonneg_m m l.recs.length
    rw [Int.tmod_eq_emod_of_nonneg (by omega)] at hrr
    omega
   have hz2 : ¬ (l.recs.length : Int) + 2 = 0 := by omega
   refine tk 6 (v := .int .i64 (r : Int)) rfl (Or.inl ⟨by rfl, ?_⟩) hHeld ?_
   ·intro w' hSw
    go_simp <;> first | rfl | rw [hrr]
   try simp only [Act.put, zA, zB, zC, zD, zE, zF]
   refine tk 7 (v := .int .i64 (r : Int)) rfl (Or.inl ⟨by rfl, ?_⟩) hHeld ?_
   ·intro w' hSw
    go_simp <;> rfl
   try simp only [Act.put, zA, zB, zC, zD, zE, zF]
   refine wpAnyH_done (by kernel_rfl) ?_ _
   clear hrr hm hz2 hHeld
   have D5 : Below w5.heap.size w5 w5.drew := (Below.refl _ _).drew
   obtain ⟨w6, hw6⟩ : ∃ w6, Hid (w5.drew = w6) := ⟨_, rfl⟩
   rw [hw6.out] at D5 ⊢
   have s6 := D5.size
   have b36 := b35.below D5 b35.lt
   have b56 := b55.below D5 b55.lt
   have hrl6 := LogA.reads.below hrl5 D5
   have ot6 := ot5.below D5
   have B6 : Below w.heap.size w w6 := B5.trans (D5.mono B5.size)
   clear x0 x1 y0 y1 b35 b55 hrl5 ot5 D5 hw6
   have x0 := b36.cell 0 _ rfl
   have x1 := b36.cell 1 _ rfl
   have C := implForce_any l (r : Int) w6 (HGB.out _ B6) hrl6 hlS hcp
   simp only [LogA.cells] at C
   go_wp2_with fail
   refine C.mono ?_
   clear C x0 x1
   rintro e w7 ⟨f, rfl, hvf, of, hb7⟩
   have s7 := hb7.size
   have HKK : Hid (f.recs.length = l.recs.length ∧ f.sure = max l.sure (min (r : Int) l.recs.length)) := HFF.out f r hvf.out
   have b37 := b36.below hb7 b36.lt
   have b57 := b56.below hb7 b56.lt
   have ot7 := ot6.below hb7
   have B7 : Below w.heap.size w w7 := B6.trans (hb7.mono B6.size)
   obtain ⟨W8, hW8, b8, hb8, hs8⟩ := boxes1 w7 [.slice f.a f.recs.length f.c, .int .i64 f.sure] 26
   have b38 := b37.below hb8 b37.lt
   have b58 := b57.below hb8 b57.lt
   have ot8 := ot7.below hb8
   have B8 : Below w.heap.size w W8 := B7.trans (hb8.mono B7.size)
   clear b36 b56 ot6 hrl6 b37 b57 ot7 hb7 hb8 of hvf B6 B7 B5 hs8
   go_upto_region 12 with fail
   rw [hW8.out]
   clear hW8
   have x0 := b38.cell 0 _ rfl
   have x1 := b38.cell 1 _ rfl
   have y0 := b58.cell 0 _ rfl
   have y1 : W8.cell? ⟨w3.heap.size, 1, none⟩ = some (.int .i64 (t.recs.length : Int)) := (b58.cell 1 _ rfl).trans (by rw [HF1.out])
   have z0 : W8.cell? ⟨w7.heap.size, 0, none⟩ = some (.slice f.a l.recs.length f.c) := (b8.cell 0 _ rfl).trans (by rw [HKK.out.1])
   have hf2 := HF2.out
   have HZ : Hid (∀ u, Below W8.heap.size W8 u → u.cell? ⟨w1.heap.size, 0, none⟩ = some (.slice l.a l.recs.length l.c) ∧ u.cell? ⟨w7.heap.size, 0, none⟩ = some (.slice f.a l.recs.length f.c) ∧ u.cell? ⟨w7.heap.size, 1, none⟩ = some (.int .i64 f.sure)) := fun u hu => ⟨(b38.below hu b38.lt).cell 0 _ rfl, ((b8.below hu b8.lt).cell 0 _ rfl).trans (by rw [HKK.out.1]), (b8.below hu b8.lt).cell 1 _ rfl⟩
   have C := implLogOk_any t W8 (HGB.out _ B8) ot8.reads (by exact HTS.out)
   simp only [LogA.cells, HOT.out, HF1.out] at C
   by_cases c1 : (r : Int) > l.sure
   ·by_cases c2 : (r : Int) > (l.recs.length : Int)
    ·have HWN : Hid (f.sure = (l.recs.length : Int)) := by rw [Hid]; have k2 := HKK.out.2; omega
     go_wp2_with fail
     refine C.mono ?_
     clear C x0 x1 y0 y1 z0
     rintro e w9 ⟨rfl, hb9⟩
     obtain ⟨x0, z0, z1⟩ := HZ.out w9 hb9
     rw [HWN.out] at z1
     clear HWN
     go_wp2_with fail
     go_ret
     exact ⟨rfl, B8.trans (hb9.mono B8.size)⟩
    ·have HWN : Hid (f.sure = (r : Int)) := by rw [Hid]; have k2 := HKK.out.2; omega
     go_wp2_with fail
     refine C.mono ?_
     clear C x0 x1 y0 y1 z0
     rintro e w9 ⟨rfl, hb9⟩
     obtain ⟨x0, z0, z1⟩ := HZ.out w9 hb9
     rw [HWN.out] at z1
     clear HWN
     go_wp2_with fail
     go_ret
     exact ⟨rfl, B8.trans (hb9.mono B8.size)⟩
   ·have c2 : ¬ l.sure > (l.recs.length : Int) := by omega
    have HWN : Hid (f.sure = l.sure) := by rw [Hid]; have k2 := HKK.out.2; omega
    go_wp2_with fail
    refine C.mono ?_
    clear C x0 x1 y0 y1 z0
    rintro e w9 ⟨rfl, hb9⟩
    obtain ⟨x0, z0, z1⟩ := HZ.out w9 hb9
    rw [HWN.out] at z1
    clear HWN
    go_wp2_with fail
    go_ret
    exact ⟨rfl, B8.trans (hb9.mono B8.size)⟩
end Go.Proofs.YtoboickdkednkaaGreatDoor
namespace Go.Proofs.YtoboickdkednkaaGreatDoor
open Go.ChangeShapes Go.WideShapes Go.RowKit
theorem Tryz.et : Tryz.prog.globalNamed "errors.errorType" = some 0 := by kernel_rfl
theorem Tryz.rt : (Tryz.prog.cutTypes.find? (·.1 == "internal/reflectlite.rtype")).map (·.2) = some 200 := by kernel_rfl
theorem Tryz.oneRow : ((List.range 242).filter fun t => Tryz.prog.rowNamed t [101, 114, 114, 111, 114]) = [165] := by kernel_rfl
theorem Tryz.typesSize : Tryz.prog.types.size = 242 := by kernel_rfl
theorem errT_of_handles {W : World} {laid : List (String × DataW Unit)} (hm : ("errors.errorType", Rows.laid_errors_errorType) ∈ laid) (h : handlesMet Tryz.prog laid W) : ErrT W := by
 obtain ⟨name, u, ty, e1, e2, e3, e4, e5⟩ := h _ hm
 have en : name = [101, 114, 114, 111, 114] := (Option.some.inj e1).symm
 subst en
 obtain rfl := Option.some.inj (Tryz.rt.symm.trans e2)
 have hm : ty ∈ (List.range 242).filter fun t => Tryz.prog.rowNamed t [101, 114, 114, 111, 114] := List.mem_filter.2 ⟨List.mem_range.2 (by rw [← Tryz.typesSize]; exact e3), e4⟩
 rw [Tryz.oneRow] at hm
 obtain rfl := List.mem_singleton.1 hm
 have hh : typeHandle Tryz.prog 165 = .pointer (some ⟨1, 165, none⟩) := by kernel_rfl
 rw [hh] at e5
 unfold ErrT
 simpa using World.var?_cell Tryz.et e5 0
def laid1 : List (String × DataW Unit) := [("errors.errorType", Rows.laid_errors_errorType)]
theorem errT_of_laid1 {W : World} (h : laidMetH Tryz.prog laid1 W) : ErrT W := by
 have h' : laidMet Tryz.prog [] W ∧ handlesMet Tryz.prog laid1 W := h
 exact errT_of_handles (List.mem_singleton.2 rfl) h'.2
end Go.Proofs.YtoboickdkednkaaGreatDoor