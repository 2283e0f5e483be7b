/- The walk of impl.Unframe. -/
import Derived.Test.YthakapbdnoiciaaReadSum
import Derived.Test.YthakapbdnoiciaaCrc
import Derived.Deep.QuietTactic
import Derived.BigQuiet
import Derived.WalkSmall
namespace Go.Proofs.Ythakapbdnoiciaa
open Go.RowKit

theorem unf_ret {a' : Option Addr} {c' : Nat} {ys : List Int} {q code : Int} {r : List Int × Int × Int} (h : (ys, q, code) = r) :
    Ending.returned (.tuple #[.slice a' ys.length c', .int .i64 q, .int .i64 code]) = .returned (unfVal a' c' r) := by subst h; rfl

theorem Option_map_none {α β : Type} {f : α → β} {a : Option α} (h : a.map f = none) : a = none := by cases a <;> simp_all

set_option maxHeartbeats 1000000 in
set_option maxRecDepth 100000 in
theorem implUnframe_any (a : Option Addr) (c : Nat) (zs : List Int) (p : Int) (w : World) (hr : Reads w a zs) (hl : zs.length ≤ 70368744100000) (hcap : zs.length ≤ c) :
    Calls Try.prog 18 #[.slice a zs.length c, .int .i64 p] w fun e w' => ∃ a' c' ys q code, e = .returned (.tuple #[.slice a' ys.length c', .int .i64 q, .int .i64 code]) ∧ Hid (unfOf zs p = (ys, q, code)) ∧ OwnB w' w.heap.size a' c' ys ∧ Below w.heap.size w w' := by
  cases hg : getAt zs p with
  | none =>
    have HS : Hid (scanOf zs p = _) := scan_none zs p hg _ rfl
    have hw : (scanWhy zs p == 0) = false := by unfold scanWhy; split <;> rfl
    have HU : Hid (_ = _) := unf_none zs p hg
    clear hg
    generalize scanWhy zs p = y at *
    go_enter Try.func18, Try.ntmps18
    go_wp2_with fail
    refine (scanInt_any a c zs p w hr (by omega) hcap).mono ?_
    rintro e w' ⟨rfl, rfl⟩
    rw [HS.out]
    go_wp2
    go_ret3
    exact ⟨none, 0, [], p, y, rfl, HU, own_none _ _, Below.refl _ _⟩
  | some r =>
    obtain ⟨n, k⟩ := r
    obtain ⟨hk, hn1, hn2⟩ := getAt_bd zs p n k hg
    have HS : Hid (scanOf zs p = _) := (show scanOf zs p = scanOk (n, k) from by unfold scanOf; rw [hg])
    simp only [scanOk] at HS
    by_cases h0 : n < 0
    · have HU : Hid (_ = _) := unf_neg zs p n k hg h0
      clear hg
      go_enter Try.func18, Try.ntmps18
      go_wp2_with fail
      refine (scanInt_any a c zs p w hr (by omega) hcap).mono ?_
      rintro e w' ⟨rfl, rfl⟩
      rw [HS.out]
      go_wp2
      go_ret3
      exact ⟨none, 0, [], p, 3, rfl, HU, own_none _ _, Below.refl _ _⟩
    obtain ⟨m, rfl⟩ := Int.eq_ofNat_of_zero_le (show 0 ≤ n from by omega)
    by_cases h1 : (zs.length : Int) - (k : Int) < (m : Int) + 4
    · have HU : Hid (_ = _) := unf_end zs p m k hg h1
      clear hg
      go_enter Try.func18, Try.ntmps18
      go_wp2_with fail
      refine (scanInt_any a c zs p w hr (by omega) hcap).mono ?_
      rintro e w' ⟨rfl, rfl⟩
      rw [HS.out]
      go_wp2
      go_ret3
      exact ⟨none, 0, [], p, 1, rfl, HU, own_none _ _, Below.refl _ _⟩
    have hlen : k + m + 4 ≤ zs.length := by omega
    have hrB := reads_slice hr k m (by omega)
    have hrS : Reads w (a.map fun x => x.add (k + m)) (zs.drop (k + m)) := by
      have := reads_slice hr (k + m) (zs.length - (k + m)) (by omega)
      rwa [List.take_of_length_le (by simp)] at this
    have hlS : (zs.drop (k + m)).length = zs.length - (k + m) := List.length_drop
    have hlB : ((zs.drop k).take m).length = m := by simp; omega
    have hcS := fun c' w' (hh : Reads w' (a.map fun x => x.add (k + m)) (zs.drop (k + m))) => readSum_any (a.map fun x => x.add (k + m)) c' (zs.drop (k + m)) w' hh (by omega) (by omega)
    rw [hlS] at hcS
    have hcB := fun c' w' (hh : Reads w' (a.map fun x => x.add k) ((zs.drop k).take m)) => implCrc_any (a.map fun x => x.add k) c' ((zs.drop k).take m) w' hh (by omega)
    rw [hlB] at hcB
    have hcl := crcOf_lt _ hrB.byte
    have hsl := sumTo_le _ hrS.byte 4 (by omega)
    have HIF : Hid (_ ↔ _) := sum_iff (zs.drop (k + m)) hrS.byte (by omega) _ hcl
    have HUS : Hid (_ → _) := unf_sum zs p m k hg h1
    have HUG : Hid (_ → _) := unf_good zs p m k hg h1
    have hne : a = none → False := by
      intro e
      subst e
      rcases hr.cases with h | ⟨b, off, h, _⟩
      · rw [h] at hlen; simp at hlen
      · cases h
    have HNE : Hid (a = none → False) := hne
    clear hg hne
    by_cases hs : sumTo (zs.drop (k + m)) 4 = crcOf ((zs.drop k).take m)
    · have HU : Hid (_ = _) := HUG.out (HIF.out.1 hs)
      rw [hs] at hcS
      generalize crcOf ((zs.drop k).take m) = x at *
      have HLB : Hid (m = ((zs.drop k).take m).length) := hlB.symm
      clear hs HUS HUG HIF hlS hlB
      generalize (zs.drop k).take m = G at *
      generalize zs.drop (k + m) = S at *
      go_enter Try.func18, Try.ntmps18
      go_wp2_with fail
      refine (scanInt_any a c zs p w hr (by omega) hcap).mono ?_
      rintro e w' ⟨rfl, rfl⟩
      rw [HS.out]
      go_wp2_with fail
      have hck : (k : Int) < (c : Int) := by omega
      have hck2 : (k : Int) + (m : Int) < (c : Int) := by omega
      have hrSd : ∀ n, Reads (w'.drewN n) (a.map fun x => x.add (k + m)) S := fun n => hrS.below (below_drewN (Below.refl _ _) n)
      have hrBd : ∀ n, Reads (w'.drewN n) (a.map fun x => x.add k) G := fun n => hrB.below (below_drewN (Below.refl _ _) n)
      go_quiet (first | (go_at_call 37; refine Calls.quiet_of_same (hcS _ _ (hrSd _))) | (go_at_call 36; refine Calls.quiet_of_same (hcB _ _ (hrBd _))))
      have hrG := (hrBd nq).alloc (.cells #[] 5)
      have HNC : Hid ((a.map fun x => x.add k) = none → c - k = 0) := fun h => (HNE.out (Option_map_none h)).elim
      have HSZ : Hid ((w'.drewN nq).heap.size = w'.heap.size) := rfl
      clear hrSd hrBd hrS hrB hcS hcB
      go_wp2_with (at_builtin; refine append_bytes rfl _ _ rfl (w'.drewN nq).heap.size (some ⟨(w'.drewN nq).heap.size, 0, none⟩) 0 [] rfl (own_lit0 _) (a.map fun x => x.add k) (c - k) G (by show Value.slice _ _ _ = Value.slice _ _ _; congr 1; have := HLB.out; omega) hrG HNC.out (by have := HLB.out; simp; omega) (by simp) ?_; intro a2 c2 y2 w2 hy2 ho2 hg2)
      go_wp2
      go_ret3
      exact ⟨a2, c2, y2, (k : Int) + (m : Int) + 4, 0, rfl, by rw [Hid, HU.out, hy2.out]; simp, ho2, ((below_drewN (Below.refl _ _) nq).alloc (Nat.le_refl _) _).grown hg2 (by simp) (fun j hj => (own_lit0 (w'.drewN nq)).2.lt j hj |>.1)⟩
    · have HU : Hid (_ = _) := HUS.out (fun h => hs (HIF.out.2 h))
      have hs' : ((sumTo (zs.drop (k + m)) 4 : Nat) : Int) ≠ (crcOf ((zs.drop k).take m) : Nat) := by omega
      have hsd : (((sumTo (zs.drop (k + m)) 4 : Nat) : Int) == (crcOf ((zs.drop k).take m) : Nat)) = false := by simpa using hs'
      clear hs hs'
      generalize crcOf ((zs.drop k).take m) = x at *
      generalize sumTo (zs.drop (k + m)) 4 = y at *
      clear HUS HUG HIF hlS hlB
      generalize (zs.drop k).take m = G at *
      generalize zs.drop (k + m) = S at *
      go_enter Try.func18, Try.ntmps18
      go_wp2_with fail
      refine (scanInt_any a c zs p w hr (by omega) hcap).mono ?_
      rintro e w' ⟨rfl, rfl⟩
      rw [HS.out]
      go_wp2_with fail
      have hck : (k : Int) < (c : Int) := by omega
      have hck2 : (k : Int) + (m : Int) < (c : Int) := by omega
      have hrSd : ∀ n, Reads (w'.drewN n) (a.map fun x => x.add (k + m)) S := fun n => hrS.below (below_drewN (Below.refl _ _) n)
      have hrBd : ∀ n, Reads (w'.drewN n) (a.map fun x => x.add k) G := fun n => hrB.below (below_drewN (Below.refl _ _) n)
      go_quiet (first | (go_at_call 37; refine Calls.quiet_of_same (hcS _ _ (hrSd _))) | (go_at_call 36; refine Calls.quiet_of_same (hcB _ _ (hrBd _))))
      go_wp2
      go_ret3
      exact ⟨none, 0, [], p, 2, rfl, HU, own_none _ _, below_drewN (Below.refl _ _) nq⟩
end Go.Proofs.Ythakapbdnoiciaa
