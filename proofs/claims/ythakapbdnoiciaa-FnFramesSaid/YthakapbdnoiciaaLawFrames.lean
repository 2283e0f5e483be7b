/- The walk of laws.FnFrames. -/
import Derived.Test.YthakapbdnoiciaaFramesMath
import Derived.Test.YthakapbdnoiciaaUnframe
import Derived.Test.YthakapbdnoiciaaFrame
import Derived.Test.YthakapbdnoiciaaLenCap
import Derived.Test.YthakapbdnoiciaaDrawBytes
import Derived.Test.YthakapbdnoiciaaBig
import Derived.Test.YthakapbdnoiciaaSameBytes
import Derived.Test.YthakapbdnoiciaaOwnStore
import Derived.WalkSmall
namespace Go.Proofs.Ythakapbdnoiciaa
open Go.RowKit

theorem own_lit2 (w : World) (p q : Int) (h : ∀ z ∈ [p, q], 0 ≤ z ∧ z < 256) : Reads (w.alloc (.cells #[.int .u8 p, .int .u8 q] 5)) (some ⟨w.heap.size, 0, none⟩) [p, q] :=
  Reads.of_own h (World.ownsRow_lit w _ 2 (Nat.le_refl _) (by simp [maxLen]) rfl)

theorem u8_xor_pow (z b : Nat) (hz : z < 256) (hb : b < 8) : bits .xor .u8 (z : Int) (2 ^ b % 256) = ((z ^^^ 2 ^ b : Nat) : Int) ∧ z ^^^ 2 ^ b < 256 ∧ z ^^^ 2 ^ b ≠ z := by
  have hp : 2 ^ b < 256 := Nat.lt_of_lt_of_le (Nat.pow_lt_pow_right (by omega) hb) (by decide)
  have hx : z ^^^ 2 ^ b < 256 := Nat.xor_lt_two_pow (n := 8) (by omega) (by omega)
  refine ⟨?_, hx, xor_bit_ne z b⟩
  have e : ((2 : Int) ^ b % 256) = ((2 ^ b : Nat) : Int) := by
    have : ((2 ^ b % 256 : Nat) : Int) = ((2 ^ b : Nat) : Int) := by rw [Nat.mod_eq_of_lt hp]
    rw [← this]; simp
  rw [e]
  have ha' : z % 2 ^ IntKind.u8.bits = z := Nat.mod_eq_of_lt (by simp [IntKind.bits]; omega)
  have hb' : 2 ^ b % 2 ^ IntKind.u8.bits = 2 ^ b := Nat.mod_eq_of_lt (by simp [IntKind.bits]; omega)
  simp only [bits, BitVec.ofInt_natCast, BitVec.toNat_xor, BitVec.toNat_ofNat, ha', hb']
  simp [IntKind.wrap, IntKind.signed, IntKind.bits]
  omega

theorem frame_bytes (y : List Int) (h : ∀ z ∈ y, 0 ≤ z ∧ z < 256) : ∀ z ∈ frameOf y, 0 ≤ z ∧ z < 256 := by
  intro z hz
  unfold frameOf at hz
  rcases List.mem_append.1 hz with h1 | h1
  · rcases List.mem_append.1 h1 with h2 | h2
    · exact putOf_byte _ z h2
    · exact h z h2
  · exact four_byte _ z h1

set_option maxHeartbeats 1000000 in
set_option maxRecDepth 100000 in
theorem lawFrames_walk (a : Option Addr) (cap : Nat) (zs : List Int) (w : World) (hr : Reads w a zs) :
    Calls Try.prog 4 #[.slice a zs.length cap] w fun e w' => e = .returned (.bool true) ∧ Below w.heap.size w w' := by
  by_cases hbig : 1048576 < zs.length
  · have hd : decide (1048576 < zs.length) = true := decide_eq_true hbig
    go_enter Try.func4, Try.ntmps4
    go_wp2_with (go_at_call 9; refine (big_any _ _ _ _).mono ?_; rintro e w' ⟨rfl, rfl⟩)
    go_ret
    exact ⟨rfl, Below.refl _ _⟩
  have hd : decide (1048576 < zs.length) = false := decide_eq_false hbig
  go_enter Try.func4, Try.ntmps4
  go_wp2_with fail
  refine (big_any _ _ _ _).mono ?_
  rintro e w0 ⟨rfl, rfl⟩
  go_wp2_with fail
  refine (drawFrame_any a cap zs w0 hr (by omega)).mono ?_
  rintro e w1 ⟨a1, c1, y, rfl, hy1, ho1, hb1⟩
  go_wp2_with fail
  refine (implFrame_any a1 c1 y w1 ho1.reads ho1.nocap (by omega)).mono ?_
  rintro e w2 ⟨a2, c2, F, rfl, hF, ho2, hb2⟩
  have HF : Hid (F = frameOf y) := hF
  have hFl : F.length = y.length + 5 := by rw [hF, frame_short y hy1]; simp [four_len]
  have hFn : 5 ≤ F.length ∧ F.length ≤ 14 := by omega
  obtain ⟨hF5, hF14⟩ := hFn
  have HBK : Hid (unfOf (F ++ [7, 7]) 0 = (y, (F.length : Int), 0)) := by rw [Hid, hF]; exact frames_back y hy1
  have HCT : Hid (∀ n, n < F.length → unfOf (F.take n) 0 = ([], 0, 1)) := by intro n hn; rw [hF] at hn ⊢; exact frames_cut y hy1 n hn
  have HTN : Hid (∀ i v, 1 ≤ i → i < F.length → (0 ≤ v ∧ v < 256) → v ≠ F.getD i 0 → unfOf (F.set i v) 0 = ([], 0, 2)) := by
    intro i v h1 h2 h3 h4; rw [hF] at h2 h4 ⊢; exact frames_turned y ho1.1 hy1 i h1 h2 v h3 h4
  have B2 : Below w0.heap.size w0 w2 := hb1.trans (hb2.mono hb1.size)
  have ho1' := ho1.below hb2
  clear hF hFl hb1 hb2 ho1
  go_wp2_with (first | (at_builtin; refine append_bytes rfl _ _ rfl w2.heap.size (some ⟨w2.heap.size, 0, none⟩) 0 [] rfl (own_lit0 _) a2 c2 F rfl (ho2.reads.alloc _) ho2.nocap (by simp; omega) (by simp) ?_; intro a3 c3 y3 w3 hy3 ho3 hg3; obtain rfl : y3 = F := (by rw [hy3.out]; rfl)) | (at_builtin; refine append_bytes rfl _ _ rfl w2.heap.size a3 c3 y3 rfl (ho3.alloc _) (some ⟨w3.heap.size, 0, none⟩) 2 [7, 7] rfl (own_lit2 w3 7 7 (by simp)) (fun h => by cases h) (by simp; omega) (by have := hg3.size; simp at this ⊢; omega) ?_; intro a4 c4 y4 w4 hy4 ho4 hg4))
  have B24 : Below w2.heap.size w2 w4 := ((((Below.refl _ _).alloc (Nat.le_refl _) _).grown hg3 (by simp) (fun j hj => (own_lit0 w2).2.lt j hj |>.1)).alloc (by have := hg3.size; simp at this; omega) _).grown hg4 (by have := hg3.size; simp at this ⊢; omega) (fun j hj => (ho3.2.lt j hj).1)
  have HBK4 : Hid (unfOf y4 0 = (y, (y3.length : Int), 0)) := by rw [Hid, hy4.out]; exact HBK.out
  have hy4l : y4.length ≤ 16 := by rw [hy4.out]; simp; omega
  have ho2_4 := ho2.below B24
  have ho1_4 := ho1'.below B24
  have B4 : Below w0.heap.size w0 w4 := B2.trans (B24.mono B2.size)
  clear HBK hy3 ho3 hg3 hg4 hy4 B24 ho2 ho1' B2
  refine (implUnframe_any a4 c4 y4 0 w4 ho4.reads (by omega) ho4.len_cap).mono ?_
  rintro e w5 ⟨a5, c5, x, q, cd, rfl, HX, ho5, hb5⟩
  obtain ⟨rfl, rfl, rfl⟩ : x = y ∧ q = (y3.length : Int) ∧ cd = 0 := by have h := HX.out; rw [HBK4.out] at h; simp only [Prod.mk.injEq] at h; exact ⟨h.1.symm, h.2.1.symm, h.2.2.symm⟩
  have ho2_5 := ho2_4.below hb5
  have ho1_5 := ho1_4.below hb5
  have B5 : Below w0.heap.size w0 w5 := B4.trans (hb5.mono B4.size)
  clear HX HBK4 ho2_4 ho1_4 ho4 hb5 B4
  go_wp2_with fail
  refine (sameBytes_same a5 a1 c5 c1 x w5 ho5.reads ho1_5.reads (by omega)).mono ?_
  rintro e w6 ⟨rfl, n6, rfl⟩
  have B6 : Below w0.heap.size w0 (w5.drewN n6) := below_drewN B5 n6
  have ho2_6 : OwnB (w5.drewN n6) _ a2 c2 y3 := ho2_5.below (below_drewN (Below.refl _ _) n6)
  generalize w5.drewN n6 = w6 at *
  clear ho2_5 ho1_5 ho5 B5
  have hr6 := hr.below B6
  go_wp2_with fail
  refine (at_any a cap zs 2 w6 hr6 (by omega) (by omega)).mono ?_
  rintro e w7 ⟨⟨n2, hn2, rfl⟩, rfl⟩
  go_wp2_with fail
  refine (at_any a cap zs 3 w7 hr6 (by omega) (by omega)).mono ?_
  rintro e w8 ⟨⟨n3, hn3, rfl⟩, rfl⟩
  obtain ⟨r, hr8, hm⟩ : ∃ r : Nat, r < 8 * y3.length - 8 ∧ ((n2 : Int) * 256 + (n3 : Int)) % (8 * (y3.length : Int) - 8) = (r : Int) := by
    refine ⟨(n2 * 256 + n3) % (8 * y3.length - 8), Nat.mod_lt _ (by omega), ?_⟩
    rw [show (8 * (y3.length : Int) - 8) = ((8 * y3.length - 8 : Nat) : Int) from by omega]
    rw [show ((n2 : Int) * 256 + (n3 : Int)) = ((n2 * 256 + n3 : Nat) : Int) from by omega]
    rfl
  obtain ⟨i, bb, hi1, hi2, hb8, hib, hib2⟩ : ∃ i bb : Nat, 1 ≤ i ∧ i < y3.length ∧ bb < 8 ∧ (8 + (r : Int)) / 8 = (i : Int) ∧ (8 + (r : Int)) % 8 = (bb : Int) := ⟨(8 + r) / 8, (8 + r) % 8, by omega, by omega, by omega, by omega, by omega⟩
  go_wp2_with (at_builtin; refine append_bytes rfl _ _ rfl w8.heap.size (some ⟨w8.heap.size, 0, none⟩) 0 [] rfl (own_lit0 _) a2 c2 y3 rfl (ho2_6.reads.alloc _) ho2_6.nocap (by simp; omega) (by simp) ?_; intro a9 c9 y9 w9 hy9 ho9 hg9; obtain rfl : y9 = y3 := (by rw [hy9.out]; rfl); obtain ⟨g, rfl, hgl, hgs⟩ := ho9.at (by omega); have hfz := ho9.2.frozenAt i; have hct := ho9.cell i (by omega); obtain ⟨hz1, hz2⟩ := bytes_nat ho9.1 i; have HZ1 : Hid (_ = _) := hz1; clear hz1; generalize (y9.getD i 0).toNat = z at *)
  obtain ⟨hve, hv256, hvne⟩ := u8_xor_pow z bb hz2 hb8
  rw [hve]
  clear hve
  generalize z ^^^ 2 ^ bb = v at *
  obtain ⟨ho10, hg10⟩ := ho9.stored i (v : Int) (by omega)
  have HT2 : Hid (_ = _) := HTN.out i (v : Int) hi1 hi2 (by omega) (by rw [HZ1.out]; omega)
  have B9 : Below w8.heap.size w8 w9 := ((Below.refl _ _).alloc (Nat.le_refl _) _).grown hg9 (by simp) (fun j hj => (own_lit0 w8).2.lt j hj |>.1)
  have B10 : Below w8.heap.size w8 _ := B9.grown hg10 B9.size (fun j hj => by cases hj; exact hgl)
  have hun := implUnframe_any (some ⟨g, 0, none⟩) c9 (y9.set i v) 0 _ ho10.reads (by rw [List.length_set]; omega) ho10.len_cap
  rw [List.length_set] at hun
  generalize w9.setCell ⟨g, i, none⟩ (.int .u8 (v : Int)) = w10 at *
  clear HTN hct hfz ho10 hg10 hg9 ho9 HZ1 hy9
  refine hun.mono ?_
  clear hun
  rintro e w11 ⟨a11, c11, x11, q11, cd11, rfl, HX, ho11, hb11⟩
  obtain ⟨rfl, rfl, rfl⟩ : x11 = [] ∧ q11 = 0 ∧ cd11 = 2 := by have h := HX.out; rw [HT2.out] at h; simp only [Prod.mk.injEq] at h; exact ⟨h.1.symm, h.2.1.symm, h.2.2.symm⟩
  have B11 : Below w8.heap.size w8 w11 := B10.trans (hb11.mono B10.size)
  have ho2_11 := ho2_6.below B11
  have B11' : Below w0.heap.size w0 w11 := B6.trans (B11.mono B6.size)
  have hr11 := hr.below B11'
  clear HX HT2 ho11 hb11 B9 B10 B11
  go_wp2_with fail
  refine (at_any a cap zs 4 w11 hr11 (by omega) (by omega)).mono ?_
  rintro e w12 ⟨⟨n4, hn4, rfl⟩, rfl⟩
  obtain ⟨u, hu, hum⟩ : ∃ u : Nat, u < y9.length ∧ (n4 : Int) % (y9.length : Int) = (u : Int) := ⟨n4 % y9.length, Nat.mod_lt _ (by omega), rfl⟩
  have HC1 : Hid (_ = _) := HCT.out u hu
  have htl : (y9.take u).length = u := by simp; omega
  have hrT := own_prefix ho2_11 u
  have hcl := ho2_11.len_cap
  have hun := implUnframe_any a2 c2 (y9.take u) 0 w12 hrT (by omega) (by omega)
  rw [htl] at hun
  clear HCT htl hrT
  go_wp2_with fail
  refine hun.mono ?_
  clear hun
  rintro e w13 ⟨a13, c13, x13, q13, cd13, rfl, HX, ho13, hb13⟩
  obtain ⟨rfl, rfl, rfl⟩ : x13 = [] ∧ q13 = 0 ∧ cd13 = 1 := by have h := HX.out; rw [HC1.out] at h; simp only [Prod.mk.injEq] at h; exact ⟨h.1.symm, h.2.1.symm, h.2.2.symm⟩
  go_wp2
  go_ret
  exact ⟨rfl, B11'.trans (hb13.mono B11'.size)⟩
end Go.Proofs.Ythakapbdnoiciaa
