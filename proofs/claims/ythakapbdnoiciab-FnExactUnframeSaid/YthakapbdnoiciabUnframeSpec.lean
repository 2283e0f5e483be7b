/- The walks of spec.l1Ends and spec.Unframe. -/
import Derived.Test.YthakapbdnoiciabUnfMath
import Derived.Test.YthakapbdnoiciabCrcSpec
import Derived.Test.YthakapbdnoiciabSumSpec
import Derived.Test.YthakapbdnoiciabSpecGet
import Derived.Deep.QuietTactic
import Derived.BigQuiet
import Derived.WalkSmall
namespace Go.Proofs.Ythakapbdnoiciab
open Go.RowKit

/-- Does what begins at q end ahead of a number's last group? -/
def endsB (zs : List Int) (q : Nat) : Bool := decide (lead (zs.drop q) = zs.length - q ∧ zs.length - q < 6)

theorem endsB_no (zs : List Int) (q j : Nat) (hj : q + j < zs.length) (h : zs.getD (q + j) 0 < 128) : endsB zs q = false := by
  unfold endsB
  rw [decide_eq_false_iff_not]
  rintro ⟨h1, _⟩
  have := lead_stop j (zs.drop q) (by simp; omega) (by rw [drop_getD]; exact h)
  omega
theorem endsB_all (zs : List Int) (q : Nat) (h : ∀ i, i < zs.length - q → 128 ≤ zs.getD (q + i) 0) : endsB zs q = decide ((zs.length - q) < 6) := by
  have h1 := lead_ge (zs.length - q) (zs.drop q) (by simp) (fun i hi => by rw [drop_getD]; exact h i hi)
  have h2 := lead_le (zs.drop q)
  have h3 : (zs.drop q).length = zs.length - q := List.length_drop
  unfold endsB
  exact decide_eq_decide.2 ⟨fun h => h.2, fun h => ⟨by omega, h⟩⟩

theorem why_ends (zs : List Int) (q : Nat) (hq : q ≤ zs.length) (b : Bool) (h : endsB zs q = b) : scanWhy zs q = if b then 1 else 3 := by
  subst h
  unfold scanWhy endsB
  rw [Int.toNat_natCast]
  by_cases h : lead (zs.drop q) = zs.length - q ∧ zs.length - q < 6
  · rw [if_pos ⟨by omega, by omega, h.1, by omega⟩, decide_eq_true h]; rfl
  · rw [if_neg (fun h' => h ⟨h'.2.2.1, by omega⟩), decide_eq_false h]; rfl

set_option maxHeartbeats 400000 in
set_option maxRecDepth 100000 in
theorem l1Ends_any (a : Option Addr) (c : Nat) (zs : List Int) (q : Nat) (w : World) (hr : Reads w a zs) (hl : zs.length ≤ 70368744177664) (hq : q ≤ zs.length) :
    Calls Try.prog 23 #[.slice a zs.length c, .int .i64 q] w fun e w' => e = .returned (.bool (endsB zs q)) ∧ w' = w := by
  have hby := hr.byte
  rcases hr.cases with rfl | ⟨b, off, rfl, hpos, hcell⟩
  · have hq' : q < 1 := by simp at hq; omega
    have HE : Hid (endsB [] q = true) := by rw [Hid]; unfold endsB; simp [lead]
    have hz : ((0 : Int) - (q : Int) < 6) := by omega
    go_enter Try.func23, Try.ntmps23
    go_wp2
    refine wp_loop_rounds 1 ?_
    rw [rounds_succ]
    go_wp2
    go_ret
    exact ⟨ret_bool (by rw [HE.out]; simp; omega), rfl⟩
  go_enter Try.func23, Try.ntmps23
  go_wp2
  go_loop [5] (fun i => ∃ j : Nat, q + j ≤ zs.length ∧ i = .int .i64 ((q + j : Nat) : Int) ∧ Hid (∀ i, i < j → 128 ≤ zs.getD (q + i) 0)) (fun i => zs.length - (intOf i).toNat)
  case atStart => exact ⟨0, by omega, by simp, fun i hi => by omega⟩
  case round =>
    obtain ⟨j, hjl, rfl, hall⟩ := hrel
    by_cases hlt : q + j < zs.length
    · have hc := hcell (q + j) hlt
      obtain ⟨hn, hn2⟩ := bytes_nat hby (q + j)
      have HCC : Hid (zs.getD (q + j) 0 = ((zs.getD (q + j) 0).toNat : Int)) := hn
      rw [hn] at hc
      clear hn
      generalize (zs.getD (q + j) 0).toNat = cc at *
      by_cases hcc : cc < 128
      · have HE : Hid (endsB zs q = false) := endsB_no zs q j hlt (by rw [HCC.out]; omega)
        clear hcell hby
        go_wp2
        go_ret
        exact ⟨ret_bool HE.out.symm, rfl⟩
      · have HN : Hid (∀ i, i < j + 1 → 128 ≤ zs.getD (q + i) 0) := by
          intro i hi
          by_cases e : i = j
          · rw [e, HCC.out]; omega
          · exact hall.out i (by omega)
        clear hcell hby
        go_wp2
        go_round
        case rel => exact ⟨j + 1, by omega, by go_num, HN⟩
        case measure => simp [intOf]; omega
    · have HE : Hid (endsB zs q = decide (zs.length - q < 6)) := endsB_all zs q (fun i hi => hall.out i (by omega))
      clear hcell hby
      go_wp2
      go_ret
      exact ⟨ret_bool (by rw [HE.out]; exact decide_eq_decide.2 (by omega)), rfl⟩

theorem own_empty (w : World) : OwnB (w.alloc (.cells #[] 5)) w.heap.size (some ⟨w.heap.size, 0, none⟩) 0 [] := own_lit0 w

theorem take4_of (S F : List Int) (hs : 4 ≤ S.length) (hf : F.length = 4) (h : ∀ t, t < 4 → S.getD t 0 = F.getD t 0) : S.take 4 = F := by
  apply List.ext_getElem
  · simp; omega
  · intro i h1 h2
    have := h i (by omega)
    simp [List.getD, h2] at this
    rw [List.getElem?_eq_getElem (by omega)] at this
    simpa using this
theorem take4_not (S F : List Int) (t : Nat) (ht : t < 4) (h : S.getD t 0 ≠ F.getD t 0) : ¬ S.take 4 = F := by
  intro e
  apply h
  rw [← e]
  simp [List.getD, ht]

set_option maxHeartbeats 2000000 in
set_option maxRecDepth 100000 in
theorem specUnframe_any (a : Option Addr) (c : Nat) (zs : List Int) (p : Int) (w : World) (hr : Reads w a zs) (hl : zs.length ≤ 70368744100000) (hcap : zs.length ≤ c) :
    Calls Try.prog 14 #[.slice a zs.length c, .int .i64 p] w fun e w' => ∃ a' c' ys q code, e = .returned (.tuple #[.slice a' ys.length c', .int .i64 q, .int .i64 code]) ∧ Hid (unfOf zs p = (ys, q, code)) ∧ OwnB w' w.heap.size a' c' ys ∧ Below w.heap.size w w' := by
  by_cases hin : 0 ≤ p ∧ p ≤ zs.length
  case neg =>
    have HB : Hid (inB p 0 zs.length = false) := by unfold inB; exact decide_eq_false hin
    have hg : getAt zs p = none := by
      by_cases h0 : p < 0
      · exact getAt_neg zs p h0
      · exact getAt_past zs p (by omega)
    have HU : Hid (unfOf zs p = ([], p, 3)) := by rw [Hid, unf_none zs p hg]; unfold scanWhy; rw [if_neg (fun h => hin ⟨h.1, h.2.1⟩)]
    clear hg hin
    go_enter Try.func14, Try.ntmps14
    go_wp2_with fail
    refine (l1In_any _ _ _ _).mono ?_
    rintro e w' ⟨rfl, rfl⟩
    rw [HB.out]
    go_wp2
    go_ret3
    exact ⟨_, 0, [], p, 3, rfl, HU, own_lit0 w', (Below.refl _ _).alloc (Nat.le_refl _) _⟩
  case pos =>
  obtain ⟨q, rfl⟩ := Int.eq_ofNat_of_zero_le hin.1
  have hq : q ≤ zs.length := by omega
  have HB : Hid (inB q 0 zs.length = true) := by unfold inB; exact decide_eq_true hin
  clear hin
  cases hg : getAt zs q with
  | none =>
    have HG : Hid (_ = _) := hg
    have HU : Hid (_ = _) := unf_none zs q hg
    have HW : Hid (∀ b, endsB zs q = b → scanWhy zs q = if b then 1 else 3) := fun b h => why_ends zs q hq b h
    clear hg
    cases he : endsB zs q with
    | true =>
      have HE : Hid (_ = _) := he
      have HU1 : Hid (unfOf zs q = ([], (q : Int), 1)) := by rw [Hid, HU.out, HW.out _ he]; rfl
      clear he HW
      go_enter Try.func14, Try.ntmps14
      go_wp2_with fail
      refine (l1In_any _ _ _ _).mono ?_
      rintro e w' ⟨rfl, rfl⟩
      rw [HB.out]
      go_wp2_with fail
      refine (specGetInt_any a c zs q w' hr (by omega)).mono ?_
      rintro e w'' ⟨rfl, rfl⟩
      rw [HG.out]
      simp only [triple]
      go_wp2_with fail
      refine (l1Ends_any a c zs q w'' hr (by omega) hq).mono ?_
      rintro e w3 ⟨rfl, rfl⟩
      rw [HE.out]
      go_wp2
      go_ret3
      exact ⟨_, 0, [], q, 1, rfl, HU1, own_lit0 _, (Below.refl _ _).alloc (Nat.le_refl _) _⟩
    | false =>
      have HE : Hid (_ = _) := he
      have HU1 : Hid (unfOf zs q = ([], (q : Int), 3)) := by rw [Hid, HU.out, HW.out _ he]; rfl
      clear he HW
      go_enter Try.func14, Try.ntmps14
      go_wp2_with fail
      refine (l1In_any _ _ _ _).mono ?_
      rintro e w' ⟨rfl, rfl⟩
      rw [HB.out]
      go_wp2_with fail
      refine (specGetInt_any a c zs q w' hr (by omega)).mono ?_
      rintro e w'' ⟨rfl, rfl⟩
      rw [HG.out]
      simp only [triple]
      go_wp2_with fail
      refine (l1Ends_any a c zs q w'' hr (by omega) hq).mono ?_
      rintro e w3 ⟨rfl, rfl⟩
      rw [HE.out]
      go_wp2
      go_ret3
      exact ⟨_, 0, [], q, 3, rfl, HU1, own_lit0 _, (Below.refl _ _).alloc (Nat.le_refl _) _⟩
  | some r =>
    obtain ⟨n, k⟩ := r
    obtain ⟨hk, hn1, hn2⟩ := getAt_bd zs q n k hg
    have HG : Hid (_ = _) := hg
    by_cases h0 : n < 0
    · have HU : Hid (_ = _) := unf_neg zs q n k hg h0
      clear hg
      go_enter Try.func14, Try.ntmps14
      go_wp2_with fail
      refine (l1In_any _ _ _ _).mono ?_
      rintro e w' ⟨rfl, rfl⟩
      rw [HB.out]
      go_wp2_with fail
      refine (specGetInt_any a c zs q w' hr (by omega)).mono ?_
      rintro e w'' ⟨rfl, rfl⟩
      rw [HG.out]
      simp only [triple]
      go_wp2
      go_ret3
      exact ⟨_, 0, [], q, 3, rfl, HU, own_lit0 _, (Below.refl _ _).alloc (Nat.le_refl _) _⟩
    obtain ⟨m, rfl⟩ := Int.eq_ofNat_of_zero_le (show 0 ≤ n from by omega)
    by_cases h1 : (zs.length : Int) - (k : Int) < (m : Int) + 4
    · have HU : Hid (_ = _) := unf_end zs q m k hg h1
      have h1' : (zs.length : Int) - (k : Int) - 4 < (m : Int) := by omega
      clear hg h1
      go_enter Try.func14, Try.ntmps14
      go_wp2_with fail
      refine (l1In_any _ _ _ _).mono ?_
      rintro e w' ⟨rfl, rfl⟩
      rw [HB.out]
      go_wp2_with fail
      refine (specGetInt_any a c zs q w' hr (by omega)).mono ?_
      rintro e w'' ⟨rfl, rfl⟩
      rw [HG.out]
      simp only [triple]
      go_wp2
      go_ret3
      exact ⟨_, 0, [], q, 1, rfl, HU, own_lit0 _, (Below.refl _ _).alloc (Nat.le_refl _) _⟩
    have hlen : k + m + 4 ≤ zs.length := by omega
    have hrB := reads_slice hr k m (by omega)
    have hlB : ((zs.drop k).take m).length = m := by simp; omega
    have hcl := crcOf_lt _ hrB.byte
    have HUS : Hid (_ → _) := unf_sum zs q m k hg h1
    have HUG : Hid (_ → _) := unf_good zs q m k hg h1
    have h1' : ¬ (zs.length : Int) - (k : Int) - 4 < (m : Int) := by omega
    have HLB : Hid (m = ((zs.drop k).take m).length) := hlB.symm
    have hby := hr.byte
    rcases hr.cases with rfl | ⟨b, off, rfl, hpos, hcell⟩
    · simp at hlen
    clear hg h1 hlB
    have hrP := reads_part hby hcell k m (by omega)
    have HSL : Hid (4 ≤ (zs.drop (k + m)).length) := by rw [Hid]; simp; omega
    have HSD : Hid (∀ t, (zs.drop (k + m)).getD t 0 = zs.getD (k + m + t) 0) := drop_getD zs (k + m)
    generalize hG : (zs.drop k).take m = G at *
    clear hG
    go_enter Try.func14, Try.ntmps14
    go_wp2_with fail
    refine (l1In_any _ _ _ _).mono ?_
    rintro e w' ⟨rfl, rfl⟩
    rw [HB.out]
    go_wp2_with fail
    refine (specGetInt_any _ c zs q w' hr (by omega)).mono ?_
    rintro e w'' ⟨rfl, rfl⟩
    rw [HG.out]
    simp only [triple]
    have hck : ¬ c = k := by omega
    have hrG := hrP.alloc (.cells #[] 5)
    go_wp2_with (at_builtin; refine append_bytes rfl _ _ rfl w''.heap.size (some ⟨w''.heap.size, 0, none⟩) 0 [] rfl (own_lit0 _) (some ⟨b, off + k, none⟩) (c - k) G (by show Value.slice _ _ _ = Value.slice _ _ _; congr 1; have := HLB.out; omega) hrG (fun h => by cases h) (by have := HLB.out; simp; omega) (by simp) ?_; intro a2 c2 y2 w2 hy2 ho2 hg2)
    have B2 : Below w''.heap.size w'' w2 := ((Below.refl _ _).alloc (Nat.le_refl _) _).grown hg2 (by simp) (fun j hj => (own_lit0 w'').2.lt j hj |>.1)
    obtain rfl : y2 = G := by rw [hy2.out]; rfl
    clear hy2
    have hyl : y2.length ≤ 1000000000000 := by have := HLB.out; omega
    refine (specCrc_any a2 c2 y2 w2 ho2.reads (by omega)).mono ?_
    rintro e w3 ⟨rfl, rfl⟩
    go_wp2_with fail
    refine (l1Four_any (crcOf y2) w3 hcl).mono ?_
    rintro e w4 ⟨a4, c4, y4, rfl, hy4, ho4, hb4⟩
    have B4 : Below w''.heap.size w'' w4 := B2.trans (hb4.mono B2.size)
    have ho24 := ho2.below hb4
    have hr4 := hr.below B4
    have HY4 : Hid (y4 = four (crcOf y2)) := hy4
    have h4l : y4.length = 4 := by rw [hy4]; simp [four, fourTo]
    have H4L : Hid (y4.length = 4) := h4l
    have h4p : 4 ≤ y4.length := by omega
    rcases ho4.reads.cases with h | ⟨b4, o4, rfl, _, hc4⟩
    · rw [h] at h4l; simp at h4l
    have hc0 : ∀ i, i < zs.length → w4.cell? ⟨b, off + i, none⟩ = some (.int .u8 (zs.getD i 0)) := by
      rcases hr4.cases with h | ⟨b', o', h', _, hh⟩
      · rw [h] at hpos; simp at hpos
      · cases h'; exact hh
    clear hy4 h4l hcell hrB hrP hrG hg2
    go_wp2
    go_loopw [12] (fun i wr => ∃ j : Nat, j ≤ 4 ∧ i = .int .i64 j ∧ Hid (∀ t, t < j → (zs.drop (k + m)).getD t 0 = y4.getD t 0) ∧ ∃ n, wr = w4.drewN n) (fun i _ => 4 - (intOf i).toNat)
    case atStart => exact ⟨0, by omega, rfl, fun t ht => by omega, 0, rfl⟩
    case round =>
      obtain ⟨j, hj, rfl, hall, n, rfl⟩ := hrel
      by_cases hlt : j < 4
      · have h1 := hc0 (k + m + j) (by omega)
        have h2 := hc4 j (by omega)
        obtain ⟨hn, hn2⟩ := bytes_nat hby (k + m + j)
        obtain ⟨hn', hn2'⟩ := bytes_nat ho4.1 j
        have HZ : Hid ((zs.drop (k + m)).getD j 0 = ((zs.getD (k + m + j) 0).toNat : Int)) := by rw [Hid, HSD.out]; exact hn
        have HY : Hid (y4.getD j 0 = ((y4.getD j 0).toNat : Int)) := hn'
        rw [hn] at h1
        rw [hn'] at h2
        clear hn hn' hc0 hc4
        generalize (zs.getD (k + m + j) 0).toNat = zz at *
        generalize (y4.getD j 0).toNat = yy at *
        have hx1 : (k : Int) + (m : Int) + (j : Int) < (zs.length : Int) := by omega
        have hx2 : (j : Int) < (y4.length : Int) := by omega
        have hw1 : IntKind.i64.wrap ((k : Int) + (m : Int)) = (k : Int) + (m : Int) := by rw [IntKind.wrap_i64]; omega
        have hw2 : IntKind.i64.wrap ((k : Int) + (m : Int) + (j : Int)) = (k : Int) + (m : Int) + (j : Int) := by rw [IntKind.wrap_i64]; omega
        by_cases hzy : zz = yy
        · have HN : Hid (∀ t, t < j + 1 → (zs.drop (k + m)).getD t 0 = y4.getD t 0) := by
            intro t ht
            by_cases e : t = j
            · rw [e, HZ.out, HY.out, hzy]
            · exact hall.out t (by omega)
          subst hzy
          go_wp2
          go_region
          go_wp2
          go_roundw
          case rel => exact ⟨j + 1, by omega, by go_num, HN, _, rfl⟩
          case measure => simp [intOf]; omega
        · have hzb : (((zz : Nat) : Int) == (yy : Int)) = false := by simp; omega
          have HU : Hid (_ = _) := HUS.out (by rw [← HY4.out]; exact take4_not _ _ j hlt (by rw [HZ.out, HY.out]; omega))
          go_wp2
          go_region
          go_wp2
          go_ret3
          exact ⟨_, 0, [], q, 2, rfl, HU, (own_lit0 _).base (by have := B4.size; simpa using this), (below_drewN B4 _).alloc (by have := B4.size; simpa using this) _⟩
      · have HU : Hid (_ = _) := HUG.out (by rw [← HY4.out]; exact take4_of _ _ HSL.out H4L.out (fun t ht => hall.out t (by omega)))
        go_wp2
        go_ret3
        exact ⟨a2, c2, y2, (k : Int) + (m : Int) + 4, 0, rfl, HU, ho24.below (below_drewN (Below.refl _ _) n), below_drewN B4 n⟩
end Go.Proofs.Ythakapbdnoiciab
