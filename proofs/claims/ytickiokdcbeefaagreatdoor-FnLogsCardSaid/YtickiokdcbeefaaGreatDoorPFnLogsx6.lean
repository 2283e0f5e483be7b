/- Several texts in one, in their order. -/
import Derived.Test.YtickiokdcbeefaaGreatDoorProg
import Derived.Test.YtickiokdcbeefaaGreatDoorPFnLogsx5
import Derived.Test.YtickiokdcbeefaaGreatDoorPFnLogsx1
import Derived.WalkKit
import Derived.Test.YtickiokdcbeefaaGreatDoorPFnLogsx2
import Derived.Test.YtickiokdcbeefaaGreatDoorPFnLogsx4
/- The walk of impl.crcByte. -/
namespace Go.Proofs.YtickiokdcbeefaaGreatDoor
open Go.RowKit



theorem crcBit_odd (x : Nat) (h : (x : Int) % 2 = 1) : crcBit x = x / 2 ^^^ 3988292384 := by
  unfold crcBit; rw [if_pos (by omega)]
theorem crcBit_even (x : Nat) (h : ¬ (x : Int) % 2 = 1) : crcBit x = x / 2 := by
  unfold crcBit; rw [if_neg (by omega)]

theorem crc_odd (x y : Nat) (hx : x < 4294967296) (h : (x : Int) % 2 = 1) (hy : y = crcBit x) : bits .xor .u32 ((x : Int) / 2) 3988292384 = (y : Int) := by
  rw [hy, crcBit_odd x h]
  have := u32_xor_nat (x / 2) 3988292384 (by omega) (by omega)
  rw [← this]
  rfl

theorem crc_even (x y : Nat) (h : ¬ (x : Int) % 2 = 1) (hy : y = crcBit x) : (x : Int) / 2 = (y : Int) := by
  rw [hy, crcBit_even x h]
  omega

set_option maxHeartbeats 400000 in
theorem crcByte_any (s c : Nat) (w : World) (hs : s < 4294967296) (hc : c < 256) :
    Calls Tryz.prog 72 #[.int .u32 s, .int .u8 c] w fun e w' => e = .returned (.int .u32 (crcByte s c : Nat)) ∧ w' = w := by
  go_enter Tryz.func72, Tryz.ntmps72
  go_wp2
  go_loop [0, 10] (fun x i => ∃ k : Nat, k ≤ 8 ∧ i = .int .i64 k ∧ x = .int .u32 (crcBits k (s ^^^ c) : Nat)) (fun _ i => 8 - (intOf i).toNat)
  case atStart => exact ⟨0, by omega, rfl, by rw [u32_xor_nat s c hs (by omega)]; rfl⟩
  case round =>
    obtain ⟨k, hk, rfl, rfl⟩ := hrel
    have hx := crcBits_lt k (s ^^^ c) (xor_byte_lt s c hs hc)
    have HS : Hid (crcBits (k + 1) (s ^^^ c) = crcBit (crcBits k (s ^^^ c))) := rfl
    have HC : Hid (crcByte s c = crcBits 8 (s ^^^ c)) := rfl
    generalize hgx : crcBits k (s ^^^ c) = x at *
    have HG : Hid (crcBits k (s ^^^ c) = x) := hgx
    clear hgx
    by_cases hlt : k < 8
    · by_cases ho : (x : Int) % 2 = 1
      all_goals
        go_wp2
        go_round
        case rel => exact ⟨k + 1, by omega, by go_num, val_int (by first | exact crc_odd x _ hx ho HS.out | exact crc_even x _ ho HS.out)⟩
        case measure => simp [intOf]; omega
    · have e8 : k = 8 := by omega
      have HX : Hid (crcByte s c = x) := by rw [Hid, HC.out, ← e8]; exact HG.out
      clear e8
      go_wp2
      go_ret
      exact ⟨ret_int (by rw [HX.out]), rfl⟩
end Go.Proofs.YtickiokdcbeefaaGreatDoor

/- The walk of impl.Crc: it comes to crcOf. -/
namespace Go.Proofs.YtickiokdcbeefaaGreatDoor
open Go.RowKit

theorem u32_max : IntKind.u32.max = ((4294967295 : Nat) : Int) := by simp [IntKind.max, IntKind.signed, IntKind.bits]

theorem crc_end (x y : Nat) (hx : x < 4294967296) (hy : y = 4294967295 ^^^ x) : wrap64 (bits .xor .u32 IntKind.u32.max (x : Int)) = (y : Int) := by
  rw [u32_max, u32_xor_nat _ _ (by omega) hx, hy]
  have : 4294967295 ^^^ x < 4294967296 := Nat.xor_lt_two_pow (n := 32) (by omega) (by omega)
  unfold wrap64
  omega

theorem crcOf_nil : crcOf [] = 4294967295 ^^^ 4294967295 := by simp [crcOf, crcTo]

set_option maxHeartbeats 400000 in
theorem implCrc_any (a : Option Addr) (cap : Nat) (zs : List Int) (w : World) (hr : Reads w a zs) (hl : zs.length ≤ 140737488351232) :
    Calls Tryz.prog 50 #[.slice a zs.length cap] w fun e w' => e = .returned (.int .i64 (crcOf zs : Nat)) ∧ w' = w := by
  have hb := hr.byte
  rcases hr.cases with rfl | ⟨b, off, rfl, hpos, hcell⟩
  · go_enter Tryz.func50, Tryz.ntmps50
    go_wp2
    refine wp_loop_rounds 1 ?_
    rw [rounds_succ]
    go_wp2
    go_ret
    exact ⟨ret_int (crc_end 4294967295 _ (by omega) crcOf_nil), rfl⟩
  · go_enter Tryz.func50, Tryz.ntmps50
    go_wp2
    go_loop [3, 8] (fun x i => ∃ k : Nat, k ≤ zs.length ∧ i = .int .i64 k ∧ x = .int .u32 (crcTo zs k : Nat)) (fun _ i => zs.length - (intOf i).toNat)
    case atStart => exact ⟨0, by omega, rfl, by rw [crcTo_zero]; rfl⟩
    case round =>
      obtain ⟨k, hk, rfl, rfl⟩ := hrel
      have hx := crcTo_lt zs hb k
      by_cases hlt : k < zs.length
      · have hc := hcell k hlt
        obtain ⟨hn, hn2⟩ := bytes_nat hb k
        have HS : Hid (crcTo zs (k + 1) = _) := crcTo_succ zs k hlt
        rw [hn] at hc
        clear hn hcell
        generalize (zs.getD k 0).toNat = c at *
        generalize crcTo zs k = x at *
        go_wp2_with (go_at_call 72; refine (crcByte_any _ _ _ hx hn2).mono ?_; rintro e w' ⟨rfl, rfl⟩)
        go_round
        case rel => exact ⟨k + 1, by omega, by go_num, by rw [HS.out]⟩
        case measure => simp [intOf]; omega
      · have HE : Hid (crcOf zs = 4294967295 ^^^ crcTo zs k) := by
          have e : k = zs.length := by omega
          rw [e]; rfl
        go_wp2
        go_ret
        exact ⟨ret_int (crc_end _ _ hx HE.out), rfl⟩
end Go.Proofs.YtickiokdcbeefaaGreatDoor

/- The walk of impl.appendSum: four bytes of a sum, the lowest first. -/
namespace Go.Proofs.YtickiokdcbeefaaGreatDoor
open Go.RowKit

def sumByte (x k : Nat) : Int := ((x / 256 ^ k % 256 : Nat) : Int)
def fourTo (x k : Nat) : List Int := (List.range k).map (sumByte x)
def four (x : Nat) : List Int := fourTo x 4

theorem four_eq (x : Nat) : four x = [((x % 256 : Nat) : Int), ((x / 256 % 256 : Nat) : Int), ((x / 65536 % 256 : Nat) : Int), ((x / 16777216 % 256 : Nat) : Int)] := by
  simp [four, fourTo, List.range_succ, sumByte]
theorem fourTo_succ (x k : Nat) : fourTo x (k + 1) = fourTo x k ++ [sumByte x k] := by simp [fourTo, List.range_succ]
theorem fourTo_len (x k : Nat) : (fourTo x k).length = k := by simp [fourTo]
theorem sumByte_byte (x k : Nat) : 0 ≤ sumByte x k ∧ sumByte x k < 256 := by unfold sumByte; omega
theorem sumByte_eq (x k : Nat) : (x : Int) / 2 ^ (8 * k) % 256 = sumByte x k := by
  unfold sumByte
  rw [show (256 : Nat) ^ k = 2 ^ (8 * k) from by rw [Nat.pow_mul]]
  simp
set_option maxHeartbeats 400000 in
set_option maxRecDepth 100000 in
theorem appendSum_any (base : Nat) (a : Option Addr) (c : Nat) (xs : List Int) (x : Nat) (w : World) (hown : OwnB w base a c xs) (hl : xs.length ≤ 70368744177000) (hbase : base ≤ w.heap.size) :
    Calls Tryz.prog 49 #[.slice a xs.length c, .int .i64 x] w fun e w' => ∃ a' c' ys, e = .returned (.slice a' ys.length c') ∧ ys = xs ++ four x ∧ OwnB w' base a' c' ys ∧ Below base w w' := by
  go_enter Tryz.func49, Tryz.ntmps49
  go_wp2
  go_loopw [0, 6] (fun out i wr => ∃ (a' : Option Addr) (c' : Nat) (ys : List Int) (k : Nat), out = .slice a' ys.length c' ∧ i = .int .i64 k ∧ k ≤ 4 ∧ OwnB wr base a' c' ys ∧ Hid (ys = xs ++ fourTo x k) ∧ Below base w wr)
    (fun _ i _ => 4 - (intOf i).toNat)
  case atStart => exact ⟨a, c, xs, 0, rfl, rfl, by omega, hown, by simp [Hid, fourTo], Below.refl _ _⟩
  case round =>
    obtain ⟨a', c', ys, k, rfl, rfl, hk, ho, hy, hnx⟩ := hrel
    have hsz := hnx.size
    have hyl : ys.length ≤ 70368744177600 := by
      have e := congrArg List.length hy.out
      rw [List.length_append, fourTo_len] at e
      omega
    clear hown
    by_cases hlt : k < 4
    · have hb := sumByte_byte x k
      have HS : Hid (_ = _) := fourTo_succ x k
      have hz : 0 ≤ (x : Int) / 2 ^ (8 * k) % 256 ∧ (x : Int) / 2 ^ (8 * k) % 256 < 256 := by omega
      have HX : Hid (_ = _) := sumByte_eq x k
      clear hb
      go_wp2_with (at_builtin; refine append_bytes rfl _ _ rfl base a' c' ys rfl (ho.alloc _) _ _ [(x : Int) / 2 ^ (8 * k) % 256] rfl (reads_lit1 wr _ _ hz) (by intro h; cases h) (by simp; omega) (by simp; omega) ?_; intro a2 c2 y2 w2 hy2 ho2 hg2)
      go_roundw
      case rel => exact ⟨a2, c2, y2, k + 1, rfl, by go_num, by omega, ho2, by rw [Hid, hy2.out, hy.out, HX.out, HS.out, List.append_assoc], (hnx.alloc (by omega) _).grown hg2 (by simp; omega) (fun j hj => (ho.2.lt j hj).1)⟩
      case measure => simp [intOf]; omega
    · go_wp2
      go_ret
      exact ⟨a', c', ys, rfl, by rw [hy.out, show k = 4 from by omega]; rfl, ho, hnx⟩
end Go.Proofs.YtickiokdcbeefaaGreatDoor

/- The walk of impl.putInts: b, and behind it the bytes of each number. -/
namespace Go.Proofs.YtickiokdcbeefaaGreatDoor
open Go.RowKit

def putTo (ns : List Int) (k : Nat) : List Int := (ns.take k).flatMap putOf
theorem putTo_succ (ns : List Int) (k : Nat) (h : k < ns.length) : putTo ns (k + 1) = putTo ns k ++ putOf (ns.getD k 0) := by
  unfold putTo
  rw [List.take_succ_eq_append_getElem h, List.flatMap_append]
  simp [List.getD, h]
theorem putTo_all (ns : List Int) (k : Nat) (h : ns.length ≤ k) : putTo ns k = ns.flatMap putOf := by
  unfold putTo; rw [List.take_of_length_le h]
theorem putTo_len (ns : List Int) (k : Nat) : (putTo ns k).length ≤ 65 * k := by
  induction k with
  | zero => simp [putTo]
  | succ k ih =>
    by_cases h : k < ns.length
    · rw [putTo_succ ns k h, List.length_append]
      have := (putOf_len (ns.getD k 0)).2
      omega
    · rw [putTo_all ns _ (by omega), ← putTo_all ns k (by omega)]
      omega

set_option maxHeartbeats 400000 in
set_option maxRecDepth 100000 in
theorem putInts_any (a : Option Addr) (c : Nat) (zs : List Int) (na : Option Addr) (nc : Nat) (ns : List Int) (w : World) (hr : Reads w a zs) (hc : a = none → c = 0) (hn : ReadsI w na ns)
    (hl : zs.length + 65 * ns.length ≤ 70368744170000) :
    Calls Tryz.prog 33 #[.slice a zs.length c, .slice na ns.length nc] w fun e w' => ∃ a' c' ys, e = .returned (.slice a' ys.length c') ∧ ys = zs ++ ns.flatMap putOf ∧ OwnB w' w.heap.size a' c' ys ∧ Below w.heap.size w w' := by
  obtain ⟨i0, hi, hz0, hz1, hz2⟩ := info_parts Tryz.infoU8
  have fin : ns = [] ∨ ∃ b off, na = some ⟨b, off, none⟩ ∧ 0 < ns.length ∧ b < w.heap.size ∧ ∀ i, i < ns.length → w.cell? ⟨b, off + i, none⟩ = some (.int .i64 (ns.getD i 0)) := by
    by_cases e : ns = []
    · exact .inl e
    · obtain ⟨b, off, h1, h2⟩ := hn e
      have hp := List.length_pos_iff.2 e
      exact .inr ⟨b, off, h1, hp, block_lt (h2 0 hp), h2⟩
  have HC : Hid (a = none → c = 0) := hc
  clear hc
  rcases fin with rfl | ⟨b, off, rfl, hpos, hbB, hcell⟩
  · go_enter Tryz.func33, Tryz.ntmps33
    go_wp2_with (first | (at_make; refine wpList_make_own _ rfl _ _ 22 rfl w.heap.size 5 i0 (.int .u8 0) 1 Tryz.underlying22 hi hz0 hz1 _ _ _ zs.length rfl rfl (by simp) (by rw [hz2]; omega) (by simp only [maxLen]; omega) (Nat.le_refl _) ?_) | fail)
    intro w0 hown0 hgrow0
    have hb0 : Below w.heap.size w w0 := (Below.refl _ _).grown hgrow0 (Nat.le_refl _) (fun k h => by cases h)
    have ho0 : OwnB w0 w.heap.size (some ⟨w.heap.size, 0, none⟩) zs.length [] := ⟨by simp, hown0⟩
    have hr0 := hr.below hb0
    have hs0 := hb0.size
    clear hown0 hgrow0 hr
    go_wp2_with (at_builtin; refine append_bytes rfl _ _ rfl w.heap.size _ _ [] rfl ho0 a c zs rfl hr0 HC.out (by simp; omega) hs0 ?_; intro a1 c1 y1 w1 hy1 ho1 hg1)
    have hb1 := hb0.grown hg1 hs0 (fun k hk => (ho0.2.lt k hk).1)
    refine wp_loop_rounds 1 ?_
    rw [rounds_succ]
    go_wp2
    go_ret
    exact ⟨a1, c1, y1, rfl, by rw [hy1.out]; simp, ho1, hb1⟩
  · go_enter Tryz.func33, Tryz.ntmps33
    go_wp2_with (first | (at_make; refine wpList_make_own _ rfl _ _ 22 rfl w.heap.size 5 i0 (.int .u8 0) 1 Tryz.underlying22 hi hz0 hz1 _ _ _ (zs.length + 6 * ns.length) rfl rfl (by omega) (by rw [hz2]; omega) (by simp only [maxLen]; omega) (Nat.le_refl _) ?_) | fail)
    intro w0 hown0 hgrow0
    have hb0 : Below w.heap.size w w0 := (Below.refl _ _).grown hgrow0 (Nat.le_refl _) (fun k h => by cases h)
    have ho0 : OwnB w0 w.heap.size (some ⟨w.heap.size, 0, none⟩) (zs.length + 6 * ns.length) [] := ⟨by simp, hown0⟩
    have hr0 := hr.below hb0
    have hs0 := hb0.size
    clear hown0 hgrow0 hr
    go_wp2_with (at_builtin; refine append_bytes rfl _ _ rfl w.heap.size _ _ [] rfl ho0 a c zs rfl hr0 HC.out (by simp; omega) hs0 ?_; intro a1 c1 y1 w1 hy1 ho1 hg1)
    have hb1 := hb0.grown hg1 hs0 (fun k hk => (ho0.2.lt k hk).1)
    clear ho0 hr0 hg1 hb0 hs0
    go_loopw [5, 20] (fun out i wr => ∃ (a' : Option Addr) (c' : Nat) (ys : List Int) (k : Nat), out = .slice a' ys.length c' ∧ i = .int .i64 k ∧ k ≤ ns.length ∧ OwnB wr w.heap.size a' c' ys ∧ Hid (ys = zs ++ putTo ns k) ∧ Below w.heap.size w wr)
      (fun _ i _ => ns.length - (intOf i).toNat)
    case atStart => exact ⟨a1, c1, y1, 0, rfl, rfl, Nat.zero_le _, ho1, by rw [Hid, hy1.out]; simp [putTo], hb1⟩
    case round =>
      obtain ⟨a', c', ys, k, rfl, rfl, hk, ho, hy, hnx⟩ := hrel
      clear ho1 hb1 hy1
      have hsz := hnx.size
      have hyl : ys.length ≤ 70368744177000 := by
        have e := congrArg List.length hy.out
        have := putTo_len ns k
        rw [List.length_append] at e
        omega
      by_cases hlt : k < ns.length
      · have hcx : wr.cell? ⟨b, off + k, none⟩ = some (.int .i64 (ns.getD k 0)) := (hnx.cell (by exact hbB)).trans (hcell k hlt)
        have HS : Hid (putTo ns (k + 1) = _) := putTo_succ ns k hlt
        have HZ := zig_le (ns.getD k 0)
        have HP : Hid (putOf (ns.getD k 0) = groups (zig (ns.getD k 0))) := rfl
        clear hcell
        generalize ns.getD k 0 = n at *
        go_wp2_with fail
        refine (foldSign_any n wr).mono ?_
        rintro e w2 ⟨rfl, rfl⟩
        go_wp2_with fail
        refine (appendGroups_any w.heap.size a' c' ys (zig n) w2 ho HZ hyl hsz).mono ?_
        rintro e w3 ⟨a3, c3, y3, rfl, hy3, ho3, hb3⟩
        have HY : Hid (y3 = zs ++ putTo ns (k + 1)) := by rw [Hid, hy3, hy.out, HS.out, HP.out, List.append_assoc]
        clear hy3
        go_wp2
        go_roundw
        case rel => exact ⟨a3, c3, y3, k + 1, rfl, by go_num, by omega, ho3, HY, hnx.trans hb3⟩
        case measure => simp [intOf]; omega
      · have HE : Hid (ys = zs ++ ns.flatMap putOf) := by rw [Hid, hy.out, putTo_all ns k (by omega)]
        go_wp2
        go_ret
        exact ⟨a', c', ys, rfl, HE.out, ho, hnx⟩
end Go.Proofs.YtickiokdcbeefaaGreatDoor

/- The walk of impl.Frame: it comes to frameOf. -/
namespace Go.Proofs.YtickiokdcbeefaaGreatDoor
open Go.RowKit

def frameOf (zs : List Int) : List Int := (putOf zs.length ++ zs) ++ four (crcOf zs)

theorem crcOf_lt (zs : List Int) (h : ∀ z ∈ zs, 0 ≤ z ∧ z < 256) : crcOf zs < 4294967296 := by
  have := crcTo_lt zs h zs.length
  exact Nat.xor_lt_two_pow (n := 32) (by omega) (by omega)
theorem readsI_lit1 (w : World) (n : Int) (e : TypeId) : ReadsI (w.alloc (.cells #[.int .i64 n] e)) (some ⟨w.heap.size, 0, none⟩) [n] := by
  intro _
  refine ⟨_, _, rfl, fun i hi => ?_⟩
  simp at hi
  subst hi
  simp

theorem reads_nil (w : World) (a : Option Addr) : Reads w a [] := ⟨by simp, by simp⟩

set_option maxHeartbeats 400000 in
set_option maxRecDepth 100000 in
theorem implFrame_any (a : Option Addr) (c : Nat) (zs : List Int) (w : World) (hr : Reads w a zs) (hc : a = none → c = 0) (hl : zs.length ≤ 70368744100000) :
    Calls Tryz.prog 26 #[.slice a zs.length c] w fun e w' => ∃ a' c' ys, e = .returned (.slice a' ys.length c') ∧ ys = frameOf zs ∧ OwnB w' w.heap.size a' c' ys ∧ Below w.heap.size w w' := by
  have HC : Hid (a = none → c = 0) := hc
  have HB : Hid (∀ z ∈ zs, 0 ≤ z ∧ z < 256) := hr.byte
  have HL : Hid ((putOf (zs.length : Int)).length ≤ 65) := (putOf_len _).2
  clear hc
  go_enter Tryz.func26, Tryz.ntmps26
  go_wp2_with fail
  refine (putInts_any none 0 [] _ _ [(zs.length : Int)] _ (reads_nil _ _) (fun _ => rfl) (readsI_lit1 w _ _) (by simp)).mono ?_
  rintro e w1 ⟨a1, c1, y1, rfl, hy1, ho1, hb1⟩
  have hbw : Below w.heap.size w w1 := ((Below.refl _ _).alloc (Nat.le_refl _) _).trans (hb1.mono (by simp))
  have hr1 := hr.below hbw
  have HY1 : Hid (y1 = putOf zs.length) := by rw [Hid, hy1]; simp
  have hl1 : y1.length ≤ 65 := by rw [HY1.out]; exact HL.out
  have ho1' : OwnB w1 w.heap.size a1 c1 y1 := ho1.base (by simp)
  have hs1 := hbw.size
  clear hy1 hb1 ho1
  go_wp2_with (at_builtin; refine append_bytes rfl _ _ rfl w.heap.size a1 c1 y1 rfl ho1' a c zs rfl hr1 HC.out (by omega) hs1 ?_; intro a2 c2 y2 w2 hy2 ho2 hg2)
  have hbw2 := hbw.grown hg2 hs1 (fun j hj => (ho1'.2.lt j hj).1)
  have hr2 := hr.below hbw2
  have HY2 : Hid (y2 = putOf zs.length ++ zs) := by rw [Hid, hy2.out, HY1.out]
  have hl2 : y2.length ≤ 70368744177000 := by
    have e := congrArg List.length HY2.out
    have := HL.out
    rw [List.length_append] at e
    omega
  clear hr hr1 hbw ho1' hg2 hs1 hl1
  refine (implCrc_any a c zs w2 hr2 (by omega)).mono ?_
  rintro e w3 ⟨rfl, rfl⟩
  go_wp2_with fail
  refine (appendSum_any w.heap.size a2 c2 y2 (crcOf zs) w3 ho2 hl2 hbw2.size).mono ?_
  rintro e w4 ⟨a4, c4, y4, rfl, hy4, ho4, hb4⟩
  have HY4 : Hid (y4 = frameOf zs) := by rw [Hid, hy4, HY2.out]; rfl
  clear hy4
  go_wp2
  go_ret
  exact ⟨a4, c4, y4, rfl, HY4.out, ho4, hbw2.trans hb4⟩
end Go.Proofs.YtickiokdcbeefaaGreatDoor

/- The walks of impl.unfoldSign and impl.joinGroups. -/
namespace Go.Proofs.YtickiokdcbeefaaGreatDoor
open Go.RowKit

theorem unzig_even (m : Nat) (h : (m : Int) % 2 = 0) : unzig m = (m : Int) / 2 := by unfold unzig; rw [if_pos (by omega)]; omega
theorem unzig_odd (m : Nat) (h : ¬ (m : Int) % 2 = 0) : unzig m = -((m : Int) / 2) - 1 := by unfold unzig; rw [if_neg (by omega)]; omega

set_option maxHeartbeats 400000 in
theorem unfoldSign_any (m : Nat) (w : World) (hm : m ≤ 4398046511104) :
    Calls Tryz.prog 120 #[.int .i64 m] w fun e w' => e = .returned (.int .i64 (unzig m)) ∧ w' = w := by
  by_cases ho : (m : Int) % 2 = 0
  · have HU : Hid (_ = _) := unzig_even m ho
    go_enter Tryz.func120, Tryz.ntmps120
    go_wp2
    go_ret
    exact ⟨ret_int HU.out.symm, rfl⟩
  · have HU : Hid (_ = _) := unzig_odd m ho
    have ho' : ((m : Int) % 2 == 0) = false := by simp; omega
    go_enter Tryz.func120, Tryz.ntmps120
    go_wp2
    go_ret
    exact ⟨ret_int HU.out.symm, rfl⟩

/-- May these groups be a number's? -/
def fits (G : List Int) : Prop := G.length ≤ 6 ∧ ¬ (1 < G.length ∧ G.getD (G.length - 1) 0 = 0)

theorem shl_go (c j : Nat) (hj : j < 6) : wrap64 ((c : Int) % 128 * 2 ^ (7 * j)) = (((c % 128) * 128 ^ j : Nat) : Int) ∧ (c % 128) * 128 ^ j ≤ 4398046511104 := by
  have e7 : (128 : Nat) ^ j = 2 ^ (7 * j) := by rw [Nat.pow_mul]
  have hp : (128 : Nat) ^ j ≤ 128 ^ 5 := Nat.pow_le_pow_right (by omega) (by omega)
  have h5 : (128 : Nat) ^ 5 = 34359738368 := by decide
  have hb : (c % 128) * 128 ^ j ≤ 127 * 34359738368 := Nat.mul_le_mul (by omega) (by omega)
  have e : ((c : Int) % 128 * 2 ^ (7 * j)) = (((c % 128) * 128 ^ j : Nat) : Int) := by
    rw [e7]; simp
  rw [e]
  constructor
  · unfold wrap64; omega
  · omega

set_option maxHeartbeats 400000 in
theorem joinGroups_no (a : Option Addr) (c : Nat) (G : List Int) (w : World) (hr : Reads w a G) (hl : G.length ≤ 6) (hf : ¬ fits G) :
    Calls Tryz.prog 119 #[.slice a G.length c] w fun e w' => e = .returned (.tuple #[.int .i64 0, .bool false]) ∧ w' = w := by
  have h2 : 1 < G.length ∧ G.getD (G.length - 1) 0 = 0 := by
    by_cases h : 1 < G.length ∧ G.getD (G.length - 1) 0 = 0
    · exact h
    · exact absurd ⟨by omega, h⟩ hf
  rcases hr.cases with rfl | ⟨b, off, rfl, hpos, hcell⟩
  · simp at h2
  have hc := hcell (G.length - 1) (by omega)
  rw [h2.2] at hc
  have h3 := h2.1
  have hgt : (0 : Int) < (G.length : Int) - 1 := by omega
  have hcc : w.cell? ⟨b, off + ((G.length : Int) - 1).toNat, none⟩ = some (.int .u8 0) := by
    rw [show ((G.length : Int) - 1).toNat = G.length - 1 from by omega]; exact hc
  clear hf h2 hcell
  go_enter Tryz.func119, Tryz.ntmps119
  go_wp2
  go_ret2
  exact ⟨rfl, rfl⟩

theorem join_end (m v : Nat) (h : m = v) : Ending.returned (.tuple #[.int .i64 (m : Int), .bool (decide ((m : Int) ≤ 2000000000000))]) = .returned (.tuple #[.int .i64 ((v : Nat) : Int), .bool (decide (v ≤ 2000000000000))]) := by
  subst h
  have e : decide ((m : Int) ≤ 2000000000000) = decide (m ≤ 2000000000000) := decide_eq_decide.2 (by omega)
  rw [e]

set_option maxHeartbeats 400000 in
theorem joinGroups_yes (a : Option Addr) (c : Nat) (G : List Int) (w : World) (hr : Reads w a G) (h1 : 1 ≤ G.length) (hf : fits G) :
    Calls Tryz.prog 119 #[.slice a G.length c] w fun e w' => e = .returned (.tuple #[.int .i64 (valOf G : Nat), .bool (decide (valOf G ≤ 2000000000000))]) ∧ w' = w := by
  have hby := hr.byte
  rcases hr.cases with rfl | ⟨b, off, rfl, hpos, hcell⟩
  · simp at h1
  obtain ⟨h6, h2⟩ := hf
  have hc := hcell (G.length - 1) (by omega)
  obtain ⟨hn, hn2⟩ := bytes_nat hby (G.length - 1)
  have hcc : w.cell? ⟨b, off + ((G.length : Int) - 1).toNat, none⟩ = some (.int .u8 ((G.getD (G.length - 1) 0).toNat : Int)) := by
    rw [show ((G.length : Int) - 1).toNat = G.length - 1 from by omega, ← hn]; exact hc
  have hcs : G.length < 2 ∨ (1 < G.length ∧ (((G.getD (G.length - 1) 0).toNat : Int) == 0) = false) := by
    by_cases e : 1 < G.length
    · refine .inr ⟨e, ?_⟩
      have : ¬ G.getD (G.length - 1) 0 = 0 := fun h => h2 ⟨e, h⟩
      simp only [beq_eq_false_iff_ne, ne_eq]
      omega
    · exact .inl (by omega)
  have HTA : Hid (valOf (G.take G.length) = valOf G) := by rw [Hid, List.take_of_length_le (Nat.le_refl _)]
  rw [hn] at hc
  generalize (G.getD (G.length - 1) 0).toNat = last at *
  clear hn h2
  rcases hcs with hlt | ⟨hgt, hnz⟩
  all_goals
    go_enter Tryz.func119, Tryz.ntmps119
    go_wp2
    go_loop [5, 22] (fun m i => ∃ k : Nat, k ≤ G.length ∧ i = .int .i64 k ∧ m = .int .i64 (valOf (G.take k) : Nat)) (fun _ i => G.length - (intOf i).toNat)
    case atStart => exact ⟨0, by omega, rfl, rfl⟩
    case round =>
      obtain ⟨k, hk, rfl, rfl⟩ := hrel
      have hm := (valOf_take_lt G k (by omega)).1
      by_cases hlt : k < G.length
      · have hck := hcell k hlt
        obtain ⟨hkn, hkn2⟩ := bytes_nat hby k
        have HV : Hid (_ = _) := valOf_take G k hlt
        rw [hkn] at hck
        have HT : Hid ((G.getD k 0 % 128).toNat = (G.getD k 0).toNat % 128) := by rw [Hid]; omega
        clear hkn hcell hby
        generalize (G.getD k 0).toNat = cc at *
        obtain ⟨hsh, hshl⟩ := shl_go cc k (by omega)
        have HV2 : Hid (valOf (G.take (k + 1)) = valOf (G.take k) + cc % 128 * 128 ^ k) := by rw [Hid, HV.out, HT.out]
        clear HV HT
        generalize cc % 128 * 128 ^ k = t at *
        generalize valOf (G.take k) = m at *
        go_wp2
        go_round
        case rel => exact ⟨k + 1, by omega, by go_num, by rw [HV2.out]; go_num⟩
        case measure => simp [intOf]; omega
      · have HE : Hid (valOf (G.take k) = valOf G) := by
          have e : k = G.length := by omega
          rw [e]; exact HTA
        generalize valOf (G.take k) = m at *
        go_wp2
        go_ret2
        exact ⟨join_end _ _ HE.out, rfl⟩
end Go.Proofs.YtickiokdcbeefaaGreatDoor

/- The walk of impl.countGroups. -/
namespace Go.Proofs.YtickiokdcbeefaaGreatDoor
open Go.RowKit

/-- How many groups are counted: those that say more, up to six, and one. -/
def countOf (L : List Int) : Nat := min (lead L) 6 + 1

theorem countOf_go (L : List Int) (j : Nat) (hj : j ≤ 6) (hl : j ≤ L.length) (hall : ∀ i, i < j → 128 ≤ L.getD i 0) (hs : j = 6 ∨ j = L.length ∨ (j < L.length ∧ L.getD j 0 < 128)) : countOf L = j + 1 := by
  have h1 := lead_ge j L hl hall
  have h2 := lead_le L
  unfold countOf
  rcases hs with h | h | ⟨h, h'⟩
  · omega
  · omega
  · have := lead_stop j L h h'
    omega

set_option maxHeartbeats 400000 in
set_option maxRecDepth 100000 in
theorem countGroups_any (a : Option Addr) (c : Nat) (zs : List Int) (w : World) (hr : Reads w a zs) (hl : zs.length ≤ 70368744177664) :
    Calls Tryz.prog 118 #[.slice a zs.length c] w fun e w' => e = .returned (.int .i64 (countOf zs : Nat)) ∧ w' = w := by
  have hby := hr.byte
  rcases hr.cases with rfl | ⟨b, off, rfl, hpos, hcell⟩
  · go_enter Tryz.func118, Tryz.ntmps118
    go_wp2
    refine wp_loop_rounds 1 ?_
    rw [rounds_succ]
    go_wp2
    go_ret
    exact ⟨rfl, rfl⟩
  go_enter Tryz.func118, Tryz.ntmps118
  go_wp2
  go_loop [3] (fun i => ∃ j : Nat, j ≤ 6 ∧ j ≤ zs.length ∧ i = .int .i64 ((j + 1 : Nat) : Int) ∧ Hid (∀ i, i < j → 128 ≤ zs.getD i 0)) (fun i => 7 - (intOf i).toNat)
  case atStart => exact ⟨0, by omega, by omega, rfl, fun i hi => by omega⟩
  case round =>
    obtain ⟨j, hj6, hjl, rfl, hall⟩ := hrel
    by_cases hm : (zs.length : Int) < 6
    all_goals
    by_cases h6 : j < 6
    · by_cases hlt : j < zs.length
      · have hc := hcell j hlt
        obtain ⟨hn, hn2⟩ := bytes_nat hby j
        have HCC : Hid (zs.getD j 0 = ((zs.getD j 0).toNat : Int)) := hn
        rw [hn] at hc
        clear hn
        generalize (zs.getD j 0).toNat = cc at *
        by_cases hcc : 128 ≤ cc
        · have HN : Hid (∀ i, i < j + 1 → 128 ≤ zs.getD i 0) := by
            intro i hi
            by_cases e : i = j
            · rw [e, HCC.out]; omega
            · exact hall.out i (by omega)
          clear hcell hby
          go_wp2
          go_round
          case rel => exact ⟨j + 1, by omega, by omega, by go_num, HN⟩
          case measure => simp [intOf]; omega
        · have HE : Hid (countOf zs = j + 1) := countOf_go zs j hj6 hjl hall.out (.inr (.inr ⟨hlt, by rw [HCC.out]; omega⟩))
          clear hcell hby
          go_wp2
          go_ret
          exact ⟨ret_int (by rw [HE.out]; omega), rfl⟩
      · have HE : Hid (countOf zs = j + 1) := countOf_go zs j hj6 hjl hall.out (.inr (.inl (by omega)))
        clear hcell hby
        go_wp2
        all_goals go_ret
        all_goals exact ⟨ret_int (by rw [HE.out]; omega), rfl⟩
    · have HE : Hid (countOf zs = j + 1) := countOf_go zs j hj6 hjl hall.out (.inl (by omega))
      clear hcell hby
      go_wp2
      all_goals go_ret
      all_goals exact ⟨ret_int (by rw [HE.out]; omega), rfl⟩
end Go.Proofs.YtickiokdcbeefaaGreatDoor

/- The walk of impl.scanInt. -/
namespace Go.Proofs.YtickiokdcbeefaaGreatDoor
open Go.RowKit

/-- What scanInt answers where there is a number. -/
def scanOk (r : Int × Nat) : Value := .tuple #[.int .i64 r.1, .int .i64 (r.2 : Nat), .int .i64 0]
/-- Why there is none: 1: the bytes end within fewer than six groups; 3: else. -/
def scanWhy (zs : List Int) (p : Int) : Int := if 0 ≤ p ∧ p ≤ zs.length ∧ lead (zs.drop p.toNat) = zs.length - p.toNat ∧ lead (zs.drop p.toNat) < 6 then 1 else 3
def scanOf (zs : List Int) (p : Int) : Value := match getAt zs p with
  | some r => scanOk r
  | none => .tuple #[.int .i64 0, .int .i64 0, .int .i64 (scanWhy zs p)]

theorem scan_none (zs : List Int) (p : Int) (h : getAt zs p = none) (c : Int) (hc : scanWhy zs p = c) : scanOf zs p = .tuple #[.int .i64 0, .int .i64 0, .int .i64 c] := by
  unfold scanOf; rw [h, hc]

theorem scan_got {zs : List Int} {q j v : Nat} (hA : getAt zs q = (getOf (zs.drop q)).map fun r => (r.1, q + r.2)) (hG : getOf (zs.drop q) = some (unzig v, j + 1)) :
    Ending.returned (.tuple #[.int .i64 (unzig v), .int .i64 ((q : Int) + (j : Int) + 1), .int .i64 0]) = .returned (scanOf zs q) := by
  unfold scanOf
  rw [hA, hG]
  simp only [Option.map_some, scanOk]
  rw [show ((q + (j + 1) : Nat) : Int) = (q : Int) + (j : Int) + 1 from by omega]

theorem reads_part {w : World} {b off : Nat} {zs : List Int} (hby : ∀ z ∈ zs, 0 ≤ z ∧ z < 256) (hcell : ∀ i, i < zs.length → w.cell? ⟨b, off + i, none⟩ = some (.int .u8 (zs.getD i 0))) (q k : Nat) (h : q + k ≤ zs.length) :
    Reads w (some ⟨b, off + q, none⟩) ((zs.drop q).take k) := by
  refine ⟨fun z hz => hby z (List.mem_of_mem_drop (List.mem_of_mem_take hz)), fun _ => ⟨b, off + q, rfl, fun i hi => ?_⟩⟩
  have hi' : i < k := by simp at hi; omega
  rw [Nat.add_assoc, hcell (q + i) (by omega)]
  have : ((zs.drop q).take k).getD i 0 = zs.getD (q + i) 0 := by simp [List.getD, hi']
  rw [this]

theorem reads_slice {w : World} {a : Option Addr} {zs : List Int} (hr : Reads w a zs) (q k : Nat) (h : q + k ≤ zs.length) : Reads w (a.map fun x => x.add q) ((zs.drop q).take k) := by
  rcases hr.cases with rfl | ⟨b, off, rfl, hpos, hcell⟩
  · exact ⟨by simp, by simp⟩
  · have := reads_part hr.byte hcell q k h
    have e : (⟨b, off, none⟩ : Addr).add q = ⟨b, off + q, none⟩ := by unfold Addr.add; split <;> simp_all
    rw [Option.map_some, e]
    exact this

set_option maxHeartbeats 1000000 in
set_option maxRecDepth 100000 in
theorem scanInt_any (a : Option Addr) (c : Nat) (zs : List Int) (p : Int) (w : World) (hr : Reads w a zs) (hl : zs.length ≤ 70368744177664) (hcap : zs.length ≤ c) :
    Calls Tryz.prog 103 #[.slice a zs.length c, .int .i64 p] w fun e w' => e = .returned (scanOf zs p) ∧ w' = w := by
  by_cases h0 : p < 0
  · have HG : Hid (_ = _) := scan_none zs p (getAt_neg zs p h0) 3 (by unfold scanWhy; rw [if_neg (by omega)])
    go_enter Tryz.func103, Tryz.ntmps103
    go_wp2
    go_ret3
    exact ⟨by rw [HG.out]; rfl, rfl⟩
  by_cases h1 : (zs.length : Int) < p
  · have HG : Hid (_ = _) := scan_none zs p (getAt_past zs p (by omega)) 3 (by unfold scanWhy; rw [if_neg (by omega)])
    go_enter Tryz.func103, Tryz.ntmps103
    go_wp2
    go_ret3
    exact ⟨by rw [HG.out]; rfl, rfl⟩
  obtain ⟨q, rfl⟩ := Int.eq_ofNat_of_zero_le (show 0 ≤ p from by omega)
  have hq : q ≤ zs.length := by omega
  have hby := hr.byte
  have HA : Hid (_ = _) := getAt_nat zs q
  have hLl : (zs.drop q).length = zs.length - q := List.length_drop
  clear h0 h1
  by_cases hck : c = q
  · have hle : (zs.length : Int) - (q : Int) < 1 := by omega
    have he : zs.drop q = [] := List.length_eq_zero_iff.1 (by omega)
    have HX : Hid (scanOf zs q = .tuple #[.int .i64 0, .int .i64 0, .int .i64 1]) := by
      refine scan_none zs q (by rw [HA.out, he]; rfl) 1 ?_
      unfold scanWhy
      rw [if_pos ⟨by omega, by omega, by rw [Int.toNat_natCast, he]; simp [lead]; omega, by rw [Int.toNat_natCast, he]; simp [lead]⟩]
    have hcg := countGroups_any a 0 [] w ⟨by simp, by simp⟩ (by simp)
    clear he HA hLl hby
    subst hck
    go_enter Tryz.func103, Tryz.ntmps103
    go_wp2_with fail
    refine hcg.mono ?_
    rintro e w' ⟨rfl, rfl⟩
    rw [show ((countOf [] : Nat) : Int) = 1 from rfl]
    go_wp2
    go_ret3
    exact ⟨by rw [HX.out]; rfl, rfl⟩
  have hrp : Reads w (a.map fun x => x.add q) (zs.drop q) := by
    have := reads_slice hr q (zs.length - q) (by omega)
    rwa [List.take_of_length_le (by omega)] at this
  have hcg := fun c' => countGroups_any (a.map fun x => x.add q) c' (zs.drop q) w hrp (by omega)
  rw [hLl] at hcg
  have HRS : Hid (∀ k, q + k ≤ zs.length → Reads w (a.map fun x => x.add q) ((zs.drop q).take k)) := fun k h => reads_slice hr q k h
  have HGT : Hid (6 < countOf (zs.drop q) → scanOf zs q = .tuple #[.int .i64 0, .int .i64 0, .int .i64 3]) := by
    intro h
    have h6 : 6 ≤ lead (zs.drop q) := by unfold countOf at h; omega
    refine scan_none zs q (by rw [HA.out, getOf_none _ (.inr (.inl h6))]; rfl) 3 ?_
    unfold scanWhy
    rw [if_neg]
    rintro ⟨_, _, _, h'⟩
    rw [Int.toNat_natCast] at h'
    omega
  have HEN : Hid (countOf (zs.drop q) ≤ 6 → zs.length - q < countOf (zs.drop q) → scanOf zs q = .tuple #[.int .i64 0, .int .i64 0, .int .i64 1]) := by
    intro h h'
    have hle := lead_le (zs.drop q)
    have h6 : lead (zs.drop q) = (zs.drop q).length := by unfold countOf at h h'; omega
    refine scan_none zs q (by rw [HA.out, getOf_none _ (.inl h6)]; rfl) 1 ?_
    unfold scanWhy
    rw [if_pos ⟨by omega, by omega, by rw [Int.toNat_natCast]; omega, by rw [Int.toNat_natCast]; unfold countOf at h; omega⟩]
  have HLD : Hid (countOf (zs.drop q) ≤ 6 → countOf (zs.drop q) ≤ zs.length - q → lead (zs.drop q) + 1 = countOf (zs.drop q)) := by
    intro h h'
    unfold countOf at h ⊢; omega
  have HPS : Hid (1 ≤ countOf (zs.drop q)) := by unfold countOf; rw [Hid]; omega
  generalize countOf (zs.drop q) = n at *
  by_cases h6 : 6 < n
  · have HX : Hid (_ = _) := HGT.out h6
    go_enter Tryz.func103, Tryz.ntmps103
    go_wp2_with fail
    refine (hcg _).mono ?_
    rintro e w' ⟨rfl, rfl⟩
    go_wp2
    go_ret3
    exact ⟨by rw [HX.out]; rfl, rfl⟩
  by_cases hen : zs.length - q < n
  · have HX : Hid (_ = _) := HEN.out (by omega) hen
    have hen' : (zs.length : Int) - (q : Int) < n := by omega
    go_enter Tryz.func103, Tryz.ntmps103
    go_wp2_with fail
    refine (hcg _).mono ?_
    rintro e w' ⟨rfl, rfl⟩
    go_wp2
    go_ret3
    exact ⟨by rw [HX.out]; rfl, rfl⟩
  obtain ⟨j, rfl⟩ : ∃ j, n = j + 1 := ⟨n - 1, by have := HPS.out; omega⟩
  have hen' : ¬ (zs.length : Int) - (q : Int) < ((j + 1 : Nat) : Int) := by omega
  have HLE : Hid (lead (zs.drop q) = j) := by have := HLD.out (by omega) (by omega); rw [Hid]; omega
  have hrG := HRS.out (j + 1) (by omega)
  have hgl : ((zs.drop q).take (j + 1)).length = j + 1 := by simp; omega
  have hgz : ((zs.drop q).take (j + 1)).getD j 0 = (zs.drop q).getD j 0 := by simp [List.getD]
  have HW : Hid (j < zs.length - q → scanWhy zs q = 3) := by intro hj; unfold scanWhy; rw [if_neg]; rintro ⟨_, _, h, _⟩; rw [Int.toNat_natCast, HLE.out] at h; omega
  have HN1 : Hid (getOf (zs.drop q) = none → scanOf zs q = .tuple #[.int .i64 0, .int .i64 0, .int .i64 3]) := fun h => scan_none zs q (by rw [HA.out, h]; rfl) 3 (HW.out (by omega))
  have HSm : Hid (_ → _ → _ → _ = _) := getOf_some (zs.drop q) j HLE.out (by omega)
  have HZ : Hid (_ → _) := getOf_none (zs.drop q)
  rw [HLE.out] at HZ
  have HQ : Hid (fits ((zs.drop q).take (j + 1)) ↔ ¬ (0 < j ∧ (zs.drop q).getD j 0 = 0)) := by
    unfold fits; rw [Hid, hgl, Nat.add_sub_cancel, hgz]
    constructor
    · rintro ⟨h1, h2⟩; exact fun h => h2 ⟨by omega, h.2⟩
    · rintro h2; exact ⟨by omega, fun h => h2 ⟨by omega, h.2⟩⟩
  have hv : valOf ((zs.drop q).take (j + 1)) < 4398046511104 := (valOf_take_lt (zs.drop q) (j + 1) (by omega)).1
  have HGL : Hid (j + 1 = ((zs.drop q).take (j + 1)).length) := by rw [Hid, hgl]
  have hg1 : 1 ≤ ((zs.drop q).take (j + 1)).length := by rw [hgl]; omega
  have hg2 : ((zs.drop q).take (j + 1)).length ≤ 6 := by rw [hgl]; omega
  clear hgl hgz HGT HEN HLD HRS HPS HW
  by_cases hfit : fits ((zs.drop q).take (j + 1))
  · have HB : Hid (_ → _) := HSm.out (by omega) (HQ.out.1 hfit)
    clear HSm HQ
    generalize (zs.drop q).take (j + 1) = G at *
    by_cases hbd : valOf G ≤ 2000000000000
    · have HG : Hid (_ = _) := HB.out hbd
      go_enter Tryz.func103, Tryz.ntmps103
      go_wp2_with fail
      refine (hcg _).mono ?_
      rintro e w' ⟨rfl, rfl⟩
      go_wp2_with fail
      rw [HGL.out]
      refine (joinGroups_yes _ _ G _ hrG hg1 hfit).mono ?_
      rintro e w' ⟨rfl, rfl⟩
      rw [decide_eq_true hbd]
      go_wp2_with fail
      refine (unfoldSign_any (valOf G) _ (by omega)).mono ?_
      rintro e w'' ⟨rfl, rfl⟩
      go_wp2
      go_ret3
      exact ⟨scan_got HA.out HG.out, rfl⟩
    · have HG : Hid (_ = _) := HN1.out (HZ.out (.inr (.inr (.inr (by omega)))))
      go_enter Tryz.func103, Tryz.ntmps103
      go_wp2_with fail
      refine (hcg _).mono ?_
      rintro e w' ⟨rfl, rfl⟩
      go_wp2_with fail
      rw [HGL.out]
      refine (joinGroups_yes _ _ G _ hrG hg1 hfit).mono ?_
      rintro e w' ⟨rfl, rfl⟩
      rw [decide_eq_false hbd]
      go_wp2
      go_ret3
      exact ⟨by rw [HG.out]; rfl, rfl⟩
  · have HG : Hid (_ = _) := HN1.out (HZ.out (by
      by_cases hz : 0 < j ∧ (zs.drop q).getD j 0 = 0
      · exact .inr (.inr (.inl hz))
      · exact absurd (HQ.out.2 hz) hfit))
    clear HSm HZ HQ HN1
    generalize (zs.drop q).take (j + 1) = G at *
    go_enter Tryz.func103, Tryz.ntmps103
    go_wp2_with fail
    refine (hcg _).mono ?_
    rintro e w' ⟨rfl, rfl⟩
    go_wp2_with fail
    rw [HGL.out]
    refine (joinGroups_no _ _ G _ hrG hg2 hfit).mono ?_
    rintro e w' ⟨rfl, rfl⟩
    go_wp2
    go_ret3
    exact ⟨by rw [HG.out]; rfl, rfl⟩
end Go.Proofs.YtickiokdcbeefaaGreatDoor

/- What Unframe answers, in plain mathematics; four bytes and the sum that they hold. -/
namespace Go.Proofs.YtickiokdcbeefaaGreatDoor
open Go.RowKit

/-- The sum that the first k bytes hold, the lowest first. -/
def sumTo (zs : List Int) : Nat → Nat
  | 0 => 0
  | k + 1 => sumTo zs k + (zs.getD k 0).toNat * 256 ^ k

theorem sumTo_lt (zs : List Int) (hb : ∀ z ∈ zs, 0 ≤ z ∧ z < 256) (k : Nat) : sumTo zs k < 256 ^ k := by
  induction k with
  | zero => simp [sumTo]
  | succ k ih =>
    have := (bytes_nat hb k).2
    unfold sumTo
    rw [Nat.pow_succ]
    have h : (zs.getD k 0).toNat * 256 ^ k ≤ 255 * 256 ^ k := Nat.mul_le_mul_right _ (by omega)
    omega

theorem sumTo_four (zs : List Int) : sumTo zs 4 = (zs.getD 0 0).toNat + (zs.getD 1 0).toNat * 256 + (zs.getD 2 0).toNat * 65536 + (zs.getD 3 0).toNat * 16777216 := by
  simp [sumTo]

theorem take4 (zs : List Int) (h : 4 ≤ zs.length) : zs.take 4 = [zs.getD 0 0, zs.getD 1 0, zs.getD 2 0, zs.getD 3 0] := by
  match zs, h with
  | a :: b :: c :: d :: r, _ => simp

theorem sum_iff (zs : List Int) (hb : ∀ z ∈ zs, 0 ≤ z ∧ z < 256) (h : 4 ≤ zs.length) (x : Nat) (hx : x < 4294967296) : sumTo zs 4 = x ↔ zs.take 4 = four x := by
  rw [take4 zs h, four_eq, sumTo_four]
  have h0 := bytes_nat hb 0
  have h1 := bytes_nat hb 1
  have h2 := bytes_nat hb 2
  have h3 := bytes_nat hb 3
  generalize (zs.getD 0 0) = a at *
  generalize (zs.getD 1 0) = b at *
  generalize (zs.getD 2 0) = c at *
  generalize (zs.getD 3 0) = d at *
  simp only [List.cons.injEq, and_true]
  omega

/-- What Unframe answers: the body, the place, the code. -/
def unfOf (zs : List Int) (p : Int) : List Int × Int × Int := match getAt zs p with
  | none => ([], p, scanWhy zs p)
  | some r => if r.1 < 0 then ([], p, 3) else if (zs.length : Int) - (r.2 : Int) < r.1 + 4 then ([], p, 1) else
    if (zs.drop (r.2 + r.1.toNat)).take 4 = four (crcOf ((zs.drop r.2).take r.1.toNat)) then ((zs.drop r.2).take r.1.toNat, (r.2 : Int) + r.1 + 4, 0) else ([], p, 2)

theorem unf_none (zs : List Int) (p : Int) (h : getAt zs p = none) : unfOf zs p = ([], p, scanWhy zs p) := by unfold unfOf; rw [h]
theorem unf_neg (zs : List Int) (p n : Int) (k : Nat) (h : getAt zs p = some (n, k)) (hn : n < 0) : unfOf zs p = ([], p, 3) := by unfold unfOf; rw [h]; simp only; rw [if_pos hn]
theorem unf_end (zs : List Int) (p : Int) (m k : Nat) (h : getAt zs p = some ((m : Int), k)) (hn : (zs.length : Int) - (k : Int) < (m : Int) + 4) : unfOf zs p = ([], p, 1) := by
  unfold unfOf; rw [h]; simp only; rw [if_neg (by omega), if_pos hn]
theorem unf_sum (zs : List Int) (p : Int) (m k : Nat) (h : getAt zs p = some ((m : Int), k)) (hn : ¬ (zs.length : Int) - (k : Int) < (m : Int) + 4) (hs : ¬ (zs.drop (k + m)).take 4 = four (crcOf ((zs.drop k).take m))) : unfOf zs p = ([], p, 2) := by
  unfold unfOf; rw [h]; simp only; rw [if_neg (by omega), if_neg hn, Int.toNat_natCast, if_neg hs]
theorem unf_good (zs : List Int) (p : Int) (m k : Nat) (h : getAt zs p = some ((m : Int), k)) (hn : ¬ (zs.length : Int) - (k : Int) < (m : Int) + 4) (hs : (zs.drop (k + m)).take 4 = four (crcOf ((zs.drop k).take m))) : unfOf zs p = ((zs.drop k).take m, (k : Int) + (m : Int) + 4, 0) := by
  unfold unfOf; rw [h]; simp only; rw [if_neg (by omega), if_neg hn, Int.toNat_natCast, if_pos hs]

theorem own_none (w : World) (base : Nat) : OwnB w base none 0 [] := ⟨by simp, by simp, .inl ⟨rfl, rfl⟩⟩
end Go.Proofs.YtickiokdcbeefaaGreatDoor
