/- Several texts in one, in their order. -/
import Derived.Test.YtickiokdcbeefaaGreatDoorPFnLogsx3
import Derived.Test.YtickiokdcbeefaaGreatDoorPFnLogsx4
import Derived.Deep.RegionHeld3
import Derived.Deep.CutRange
import Derived.Test.YtickiokdcbeefaaGreatDoorPFnLogsx2
import Derived.Deep.QuietTactic
import Derived.BigQuiet
import Derived.WalkSmall
import Derived.Test.YtickiokdcbeefaaGreatDoorPFnLogsx1
import Derived.Test.YtickiokdcbeefaaGreatDoorProg
set_option maxHeartbeats 8000000
set_option maxRecDepth 100000
namespace Go.Proofs.YtickiokdcbeefaaGreatDoor
open Go.RowKit
theorem own_zero (w : World) (lo hi : Nat) (h : hi ≤ w.heap.size) : zeroS.own w lo hi := ⟨ownI_nil _ _ _ h, ownI_nil _ _ _ h, fun k hk => by cases hk⟩
theorem unf_len (zs : List Int) (p : Int) : (unfOf zs p).1.length ≤ zs.length := by
 unfold unfOf
 split
 ·simp
 ·split
  ·simp
  ·split
   ·simp
   ·split
    ·simp only [List.length_take, List.length_drop]; omega
    ·simp
theorem pair_back {r : RecV} (h : okR r = true) : pairR (putRecOf r) = (r, true) := by
 have : getR (putRecOf r) = some r := getR_some h rfl
 unfold pairR; rw [this]
theorem shl8_go (c j : Nat) (hc : c < 256) (hj : j < 4) : wrap64 ((c : Int) * 2 ^ (8 * j)) = ((c * 256 ^ j : Nat) : Int) ∧ c * 256 ^ j ≤ 4294967296 := by
 have e7 : (256 : Nat) ^ j = 2 ^ (8 * j) := by rw [Nat.pow_mul]
 have hp : (256 : Nat) ^ j ≤ 256 ^ 3 := Nat.pow_le_pow_right (by omega) (by omega)
 have h5 : (256 : Nat) ^ 3 = 16777216 := by decide
 have hb : c * 256 ^ j ≤ 255 * 16777216 := Nat.mul_le_mul (by omega) (by omega)
 have e : ((c : Int) * 2 ^ (8 * j)) = ((c * 256 ^ j : Nat) : Int) := by
  rw [e7]; simp
 rw [e]
 constructor
 ·unfold wrap64; omega
 ·omega
theorem sumTo_le (zs : List Int) (hb : ∀ z ∈ zs, 0 ≤ z ∧ z < 256) (k : Nat) (hk : k ≤ 4) : sumTo zs k < 4294967296 := by
 have h1 := sumTo_lt zs hb k
 have h2 : (256 : Nat) ^ k ≤ 256 ^ 4 := Nat.pow_le_pow_right (by omega) hk
 have h3 : (256 : Nat) ^ 4 = 4294967296 := by decide
 omega
theorem readSum_any (a : Option Addr) (c : Nat) (zs : List Int) (w : World) (hr : Reads w a zs) (hl : 4 ≤ zs.length) (hl2 : zs.length ≤ 70368744177664) :
  Calls Tryz.prog 104 #[.slice a zs.length c] w fun e w' => e = .returned (.int .i64 (sumTo zs 4 : Nat)) ∧ w' = w := by
 have hby := hr.byte
 rcases hr.cases with rfl | ⟨b, off, rfl, hpos, hcell⟩
 ·simp at hl
 go_enter Tryz.func104, Tryz.ntmps104
 go_wp2
 go_loop [3, 5] (fun m i => ∃ k : Nat, k ≤ 4 ∧ i = .int .i64 k ∧ m = .int .i64 (sumTo zs k : Nat)) (fun _ i => 4 - (intOf i).toNat)
 case atStart => exact ⟨0, by omega, rfl, rfl⟩
 case round =>
  obtain ⟨k, hk, rfl, rfl⟩ := hrel
  have hm := sumTo_le zs hby k hk
  by_cases hlt : k < 4
  ·have hck := hcell k (by omega)
   obtain ⟨hkn, hkn2⟩ := bytes_nat hby k
   have HV : Hid (sumTo zs (k + 1) = sumTo zs k + (zs.getD k 0).toNat * 256 ^ k) := rfl
   rw [hkn] at hck
   clear hkn hcell hby
   generalize (zs.getD k 0).toNat = cc at *
   obtain ⟨hsh, hshl⟩ := shl8_go cc k hkn2 hlt
   generalize cc * 256 ^ k = t at *
   generalize sumTo zs k = m at *
   go_wp2
   go_round
   case rel => exact ⟨k + 1, by omega, by go_num, by rw [HV.out]; go_num⟩
   case measure => simp [intOf]; omega
  ·have HE : Hid (sumTo zs k = sumTo zs 4) := by rw [Hid, show k = 4 from by omega]
   generalize sumTo zs k = m at *
   go_wp2
   go_ret
   exact ⟨ret_int (by rw [HE.out]), rfl⟩
theorem Option_map_none {α β : Type} {f : α → β} {a : Option α} (h : a.map f = none) : a = none := by cases a <;> simp_all
theorem implUnframe_any (a : Option Addr) (c : Nat) (zs : List Int) (p : Int) (w : World) (hr : Reads w a zs) (hl : zs.length ≤ 70368744100000) (hcap : zs.length ≤ c) :
  Calls Tryz.prog 89 #[.slice a zs.length c, .int .i64 p] w fun e w' => ∃ a' c' ys q code, e = .returned (.tuple #[.slice a' ys.length c', .int .i64 q, .int .i64 code]) ∧ Hid (unfOf zs p = (ys, q, code)) ∧ OwnB w' w.heap.size a' c' ys ∧ Below w.heap.size w w' := by
 cases hg : getAt zs p with
 | none =>
  have HS : Hid (scanOf zs p = _) := scan_none zs p hg _ rfl
  have hw : (scanWhy zs p == 0) = false := by unfold scanWhy; split <;> rfl
  have HU : Hid (_ = _) := unf_none zs p hg
  clear hg
  generalize scanWhy zs p = y at *
  go_enter Tryz.func89, Tryz.ntmps89
  go_wp2_with fail
  refine (scanInt_any a c zs p w hr (by omega) hcap).mono ?_
  rintro e w' ⟨rfl, rfl⟩
  rw [HS.out]
  go_wp2
  go_ret3
  exact ⟨none, 0, [], p, y, rfl, HU, own_none _ _, Below.refl _ _⟩
 | some r =>
  obtain ⟨n, k⟩ := r
  obtain ⟨hk, hn1, hn2⟩ := getAt_bd zs p n k hg
  have HS : Hid (scanOf zs p = _) := (show scanOf zs p = scanOk (n, k) from by unfold scanOf; rw [hg])
  simp only [scanOk] at HS
  by_cases h0 : n < 0
  ·have HU : Hid (_ = _) := unf_neg zs p n k hg h0
   clear hg
   go_enter Tryz.func89, Tryz.ntmps89
   go_wp2_with fail
   refine (scanInt_any a c zs p w hr (by omega) hcap).mono ?_
   rintro e w' ⟨rfl, rfl⟩
   rw [HS.out]
   go_wp2
   go_ret3
   exact ⟨none, 0, [], p, 3, rfl, HU, own_none _ _, Below.refl _ _⟩
  obtain ⟨m, rfl⟩ := Int.eq_ofNat_of_zero_le (show 0 ≤ n from by omega)
  by_cases h1 : (zs.length : Int) - (k : Int) < (m : Int) + 4
  ·have HU : Hid (_ = _) := unf_end zs p m k hg h1
   clear hg
   go_enter Tryz.func89, Tryz.ntmps89
   go_wp2_with fail
   refine (scanInt_any a c zs p w hr (by omega) hcap).mono ?_
   rintro e w' ⟨rfl, rfl⟩
   rw [HS.out]
   go_wp2
   go_ret3
   exact ⟨none, 0, [], p, 1, rfl, HU, own_none _ _, Below.refl _ _⟩
  have hlen : k + m + 4 ≤ zs.length := by omega
  have hrB := reads_slice hr k m (by omega)
  have hrS : Reads w (a.map fun x => x.add (k + m)) (zs.drop (k + m)) := by
   have := reads_slice hr (k + m) (zs.length - (k + m)) (by omega)
   rwa [List.take_of_length_le (by simp)] at this
  have hlS : (zs.drop (k + m)).length = zs.length - (k + m) := List.length_drop
  have hlB : ((zs.drop k).take m).length = m := by simp; omega
  have hcS := fun c' w' (hh : Reads w' (a.map fun x => x.add (k + m)) (zs.drop (k + m))) => readSum_any (a.map fun x => x.add (k + m)) c' (zs.drop (k + m)) w' hh (by omega) (by omega)
  rw [hlS] at hcS
  have hcB := fun c' w' (hh : Reads w' (a.map fun x => x.add k) ((zs.drop k).take m)) => implCrc_any (a.map fun x => x.add k) c' ((zs.drop k).take m) w' hh (by omega)
  rw [hlB] at hcB
  have hcl := crcOf_lt _ hrB.byte
  have hsl := sumTo_le _ hrS.byte 4 (by omega)
  have HIF : Hid (_ ↔ _) := sum_iff (zs.drop (k + m)) hrS.byte (by omega) _ hcl
  have HUS : Hid (_ → _) := unf_sum zs p m k hg h1
  have HUG : Hid (_ → _) := unf_good zs p m k hg h1
  have hne : a = none → False := by
   intro e
   subst e
   rcases hr.cases with h | ⟨b, off, h, _⟩
   ·rw [h] at hlen; simp at hlen
   ·cases h
  have HNE : Hid (a = none → False) := hne
  clear hg hne
  by_cases hs : sumTo (zs.drop (k + m)) 4 = crcOf ((zs.drop k).take m)
  ·have HU : Hid (_ = _) := HUG.out (HIF.out.1 hs)
   rw [hs] at hcS
   generalize crcOf ((zs.drop k).take m) = x at *
   have HLB : Hid (m = ((zs.drop k).take m).length) := hlB.symm
   clear hs HUS HUG HIF hlS hlB
   generalize (zs.drop k).take m = G at *
   generalize zs.drop (k + m) = S at *
   go_enter Tryz.func89, Tryz.ntmps89
   go_wp2_with fail
   refine (scanInt_any a c zs p w hr (by omega) hcap).mono ?_
   rintro e w' ⟨rfl, rfl⟩
   rw [HS.out]
   go_wp2_with fail
   have hck : (k : Int) < (c : Int) := by omega
   have hck2 : (k : Int) + (m : Int) < (c : Int) := by omega
   have hrSd : ∀ n, Reads (w'.drewN n) (a.map fun x => x.add (k + m)) S := fun n => hrS.below (below_drewN (Below.refl _ _) n)
   have hrBd : ∀ n, Reads (w'.drewN n) (a.map fun x => x.add k) G := fun n => hrB.below (below_drewN (Below.refl _ _) n)
   go_quiet (first | (go_at_call 104; refine Calls.quiet_of_same (hcS _ _ (hrSd _))) | (go_at_call 50; refine Calls.quiet_of_same (hcB _ _ (hrBd _))))
   have hrG := (hrBd nq).alloc (.cells #[] 5)
   have HNC : Hid ((a.map fun x => x.add k) = none → c - k = 0) := fun h => (HNE.out (Option_map_none h)).elim
   have HSZ : Hid ((w'.drewN nq).heap.size = w'.heap.size) := rfl
   clear hrSd hrBd hrS hrB hcS hcB
   go_wp2_with (at_builtin; refine append_bytes rfl _ _ rfl (w'.drewN nq).heap.size (some ⟨(w'.drewN nq).heap.size, 0, none⟩) 0 [] rfl (own_lit0 _) (a.map fun x => x.add k) (c - k) G (by show Value.slice _ _ _ = Value.slice _ _ _; congr 1; have := HLB.out; omega) hrG HNC.out (by have := HLB.out; simp; omega) (by simp) ?_; intro a2 c2 y2 w2 hy2 ho2 hg2)
   go_wp2
   go_ret3
   exact ⟨a2, c2, y2, (k : Int) + (m : Int) + 4, 0, rfl, by rw [Hid, HU.out, hy2.out]; simp, ho2, ((below_drewN (Below.refl _ _) nq).alloc (Nat.le_refl _) _).grown hg2 (by simp) (fun j hj => (own_lit0 (w'.drewN nq)).2.lt j hj |>.1)⟩
  ·have HU : Hid (_ = _) := HUS.out (fun h => hs (HIF.out.2 h))
   have hs' : ((sumTo (zs.drop (k + m)) 4 : Nat) : Int) ≠ (crcOf ((zs.drop k).take m) : Nat) := by omega
   have hsd : (((sumTo (zs.drop (k + m)) 4 : Nat) : Int) == (crcOf ((zs.drop k).take m) : Nat)) = false := by simpa using hs'
   clear hs hs'
   generalize crcOf ((zs.drop k).take m) = x at *
   generalize sumTo (zs.drop (k + m)) 4 = y at *
   clear HUS HUG HIF hlS hlB
   generalize (zs.drop k).take m = G at *
   generalize zs.drop (k + m) = S at *
   go_enter Tryz.func89, Tryz.ntmps89
   go_wp2_with fail
   refine (scanInt_any a c zs p w hr (by omega) hcap).mono ?_
   rintro e w' ⟨rfl, rfl⟩
   rw [HS.out]
   go_wp2_with fail
   have hck : (k : Int) < (c : Int) := by omega
   have hck2 : (k : Int) + (m : Int) < (c : Int) := by omega
   have hrSd : ∀ n, Reads (w'.drewN n) (a.map fun x => x.add (k + m)) S := fun n => hrS.below (below_drewN (Below.refl _ _) n)
   have hrBd : ∀ n, Reads (w'.drewN n) (a.map fun x => x.add k) G := fun n => hrB.below (below_drewN (Below.refl _ _) n)
   go_quiet (first | (go_at_call 104; refine Calls.quiet_of_same (hcS _ _ (hrSd _))) | (go_at_call 50; refine Calls.quiet_of_same (hcB _ _ (hrBd _))))
   go_wp2
   go_ret3
   exact ⟨none, 0, [], p, 2, rfl, HU, own_none _ _, below_drewN (Below.refl _ _) nq⟩
theorem sameBytes_same (a b : Option Addr) (ca cb : Nat) (zs : List Int) (w : World) (ha : Reads w a zs) (hb : Reads w b zs) (hl : zs.length ≤ 140737488351232) :
  Calls Tryz.prog 13 #[.slice a zs.length ca, .slice b zs.length cb] w fun e w' => e = .returned (.bool true) ∧ ∃ n, w' = w.drewN n := by
 rcases ha.cases with rfl | ⟨b1, o1, rfl, hpos, hc1⟩
 ·go_enter Tryz.func13, Tryz.ntmps13
  go_wp2
  refine wp_loop_rounds 1 ?_
  rw [rounds_succ]
  go_wp2
  go_ret
  exact ⟨rfl, 0, rfl⟩
 ·rcases hb.cases with rfl | ⟨b2, o2, rfl, _, hc2⟩
  ·simp at hpos
  ·go_enter Tryz.func13, Tryz.ntmps13
   go_wp2
   go_loopw [5] (fun i wr => ∃ k : Nat, k ≤ zs.length ∧ i = .int .i64 k ∧ ∃ n, wr = w.drewN n) (fun i _ => zs.length - (intOf i).toNat)
   case atStart => exact ⟨0, Nat.zero_le _, rfl, 0, rfl⟩
   case round =>
    obtain ⟨k, hk, rfl, n, rfl⟩ := hrel
    by_cases hlt : k < zs.length
    ·have h1 := hc1 k hlt
     have h2 := hc2 k hlt
     clear hc1 hc2
     generalize zs.getD k 0 = z at *
     go_wp2
     go_quiet (fail)
     go_wp2
     go_roundw
     case rel => exact ⟨k + 1, by omega, by go_num, _, rfl⟩
     case measure => simp [intOf]; omega
    ·go_wp2
     go_ret
     exact ⟨rfl, n, rfl⟩
theorem ret_natE {k : IntKind} {z : Int} (h : 0 ≤ z) : Ending.returned (.int k z) = .returned (.int k ((z.toNat : Nat) : Int)) := by rw [Int.toNat_of_nonneg h]
theorem at_any (a : Option Addr) (c : Nat) (zs : List Int) (i : Nat) (w : World) (hr : Reads w a zs) (hl : zs.length ≤ 70368744177664) (hi : i ≤ 1000) :
  Calls Tryz.prog 12 #[.slice a zs.length c, .int .i64 i] w fun e w' => (∃ n : Nat, n < 256 ∧ e = .returned (.int .i64 n)) ∧ w' = w := by
 by_cases hlt : i < zs.length
 ·have hby := bytes_at hr.byte i
  rcases hr.cases with rfl | ⟨b, off, rfl, hpos, hcell⟩
  ·simp at hlt
  have hc := hcell i hlt
  clear hcell
  generalize zs.getD i 0 = z at *
  go_enter Tryz.func12, Tryz.ntmps12
  go_wp2
  go_ret
  exact ⟨⟨z.toNat, by omega, ret_natE hby.1⟩, rfl⟩
 ·go_enter Tryz.func12, Tryz.ntmps12
  go_wp2
  go_ret
  exact ⟨⟨(((i : Int) * 31 + (zs.length : Int) * 7) % 256).toNat, by omega, ret_natE (by omega)⟩, rfl⟩
theorem OwnB.at {w : World} {base : Nat} {a : Option Addr} {c : Nat} {ys : List Int} (h : OwnB w base a c ys) (hne : 0 < ys.length) : ∃ g, a = some ⟨g, 0, none⟩ ∧ base ≤ g ∧ g < w.heap.size := by
 rcases h.2.2 with ⟨hv, h0⟩ | ⟨g, cap, cur, hv, hb, hg, _⟩
 ·omega
 ·simp only [Value.slice.injEq] at hv
  exact ⟨g, hv.1, hb, (Array.getElem?_eq_some_iff.1 hg).1⟩
end Go.Proofs.YtickiokdcbeefaaGreatDoor
namespace Go.Proofs.YtickiokdcbeefaaGreatDoor
open Go.RowKit
theorem big_any (a : Option Addr) (c n : Nat) (w : World) : Calls Tryz.prog 6 #[.slice a n c] w fun e w' => e = .returned (.bool (decide (1048576 < n))) ∧ w' = w := by
 by_cases h : 1048576 < n
 ·have HB : Hid (decide (1048576 < n) = true) := decide_eq_true h
  go_enter Tryz.func6, Tryz.ntmps6
  go_wp2
  go_ret
  exact ⟨by rw [HB.out]; exact ret_bool (decide_eq_true (by omega)), rfl⟩
 ·have HB : Hid (decide (1048576 < n) = false) := decide_eq_false h
  go_enter Tryz.func6, Tryz.ntmps6
  go_wp2
  go_ret
  exact ⟨by rw [HB.out]; exact ret_bool (decide_eq_false (by omega)), rfl⟩
end Go.Proofs.YtickiokdcbeefaaGreatDoor