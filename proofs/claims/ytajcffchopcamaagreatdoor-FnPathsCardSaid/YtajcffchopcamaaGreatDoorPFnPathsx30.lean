/- Several texts in one, in their order. -/
import Derived.Test.YtajcffchopcamaaGreatDoorPFnPathsx22
import Derived.Test.YtajcffchopcamaaGreatDoorPFnPathsx25
import Derived.Test.YtajcffchopcamaaGreatDoorPFnPathsx29
import Derived.Test.YtajcffchopcamaaGreatDoorProg
import Derived.Test.YtajcffchopcamaaGreatDoorPFnPathsx1
import Derived.ProofKit
import Derived.OpenShut
import Derived.ChangeOld
import Derived.Test.YtajcffchopcamaaGreatDoorPFnPathsx26
import Derived.Test.YtajcffchopcamaaGreatDoorPFnPathsx27
import Derived.Test.YtajcffchopcamaaGreatDoorPFnPathsx20
import Derived.Test.YtajcffchopcamaaGreatDoorPFnPathsx21
import Derived.Test.YtajcffchopcamaaGreatDoorRows
import Derived.LaidLaws
import Derived.LaidHandle
import Derived.Stop.Joined
import Derived.ChangeVars
import Derived.Lay
import Derived.Shelf.Vars
import Derived.Test.YtajcffchopcamaaGreatDoorPFnPathsx23
/- The walks of impl.stepText, PathText. -/
namespace Go.Proofs.YtajcffchopcamaaGreatDoor
open Go.RowKit

set_option maxHeartbeats 2000000 in
set_option maxRecDepth 100000 in
theorem implStepText_any (s : StepV) (w : World) (he : PowT w) (hs : stepB s = true) :
    Calls Tryz.prog 30 #[.agg #[.int .i64 s.kd, .int .i64 s.num]] w fun e w' => e = .returned (.string (strOf (stepText s))) ∧ Below w.heap.size w w' := by
  have hnb := stepB_num hs
  have hkd := stepB_kd hs
  have hts : (strOf (numText s.num)).size ≤ 11 := by rw [strOf_size]; exact num_len _ hnb
  obtain ⟨W, hW, b0, hbW, hsW⟩ := boxes1 w [.int .i64 s.kd, .int .i64 s.num] 44
  have q0 := b0.cell 0 _ rfl
  have q1 := b0.cell 1 _ rfl
  have C := itoa_pow s.num (by omega) W (he.keep hbW)
  have HC : Hid (∀ u, Below W.heap.size W u → u.cell? ⟨w.heap.size, 0, none⟩ = some (.int .i64 s.kd)) := fun u hu => (b0.below hu b0.lt).cell 0 _ rfl
  clear b0 hsW hs he
  obtain ⟨kd, num⟩ := s
  simp only at *
  have HT : Hid (∀ d, strOf (stepText ⟨d, num⟩) = if d = 1 then (⟨#[46]⟩ : ByteArray) ++ strOf (numText num) else if d = 2 then ⟨#[46, 42]⟩ else if d = 3 then ⟨#[46, 42, 42]⟩ else if d = 4 then ((⟨#[91, 107, 61]⟩ : ByteArray) ++ strOf (numText num)) ++ ⟨#[93]⟩ else ((⟨#[91, 105, 62]⟩ : ByteArray) ++ strOf (numText num)) ++ ⟨#[93]⟩) := fun d => by
    simp only [stepText]
    repeat' split
    all_goals first | rfl | (rw [strOf_append, strOf_append]; rfl) | (rw [strOf_append]; rfl)
  rcases hkd with rfl | rfl | rfl | rfl | rfl
  · have HF : Hid (strOf (stepText ⟨1, num⟩) = _) := HT.out 1
    clear HT
    have hn3 : ¬ 9223372036854775807 < 3 + (strOf (numText num)).size := by omega
    have hn1 : ¬ 9223372036854775807 < 1 + (strOf (numText num)).size := by omega
    have hn4 : ¬ 9223372036854775807 < 3 + (strOf (numText num)).size + 1 := by omega
    generalize strOf (numText num) = S at *
    generalize strOf (stepText ⟨1, num⟩) = R at *
    go_enter Tryz.func30, Tryz.ntmps30
    go_upto_region 1 with fail
    rw [hW.out]
    clear hW
    go_wp2_with fail
    refine C.mono ?_
    rintro e w1 ⟨rfl, hb1⟩
    have p0 := HC.out w1 hb1
    clear HC C q0 q1
    go_wp2
    go_ret
    exact ⟨by rw [HF.out]; rfl, hbW.trans (hb1.mono hbW.size)⟩
  · have HF : Hid (strOf (stepText ⟨2, num⟩) = _) := HT.out 2
    clear HT
    have hn3 : ¬ 9223372036854775807 < 3 + (strOf (numText num)).size := by omega
    have hn1 : ¬ 9223372036854775807 < 1 + (strOf (numText num)).size := by omega
    have hn4 : ¬ 9223372036854775807 < 3 + (strOf (numText num)).size + 1 := by omega
    generalize strOf (numText num) = S at *
    generalize strOf (stepText ⟨2, num⟩) = R at *
    go_enter Tryz.func30, Tryz.ntmps30
    go_upto_region 1 with fail
    rw [hW.out]
    clear hW
    go_wp2_with fail
    refine C.mono ?_
    rintro e w1 ⟨rfl, hb1⟩
    have p0 := HC.out w1 hb1
    clear HC C q0 q1
    go_wp2
    go_ret
    exact ⟨by rw [HF.out]; rfl, hbW.trans (hb1.mono hbW.size)⟩
  · have HF : Hid (strOf (stepText ⟨3, num⟩) = _) := HT.out 3
    clear HT
    have hn3 : ¬ 9223372036854775807 < 3 + (strOf (numText num)).size := by omega
    have hn1 : ¬ 9223372036854775807 < 1 + (strOf (numText num)).size := by omega
    have hn4 : ¬ 9223372036854775807 < 3 + (strOf (numText num)).size + 1 := by omega
    generalize strOf (numText num) = S at *
    generalize strOf (stepText ⟨3, num⟩) = R at *
    go_enter Tryz.func30, Tryz.ntmps30
    go_upto_region 1 with fail
    rw [hW.out]
    clear hW
    go_wp2_with fail
    refine C.mono ?_
    rintro e w1 ⟨rfl, hb1⟩
    have p0 := HC.out w1 hb1
    clear HC C q0 q1
    go_wp2
    go_ret
    exact ⟨by rw [HF.out]; rfl, hbW.trans (hb1.mono hbW.size)⟩
  · have HF : Hid (strOf (stepText ⟨4, num⟩) = _) := HT.out 4
    clear HT
    have hn3 : ¬ 9223372036854775807 < 3 + (strOf (numText num)).size := by omega
    have hn1 : ¬ 9223372036854775807 < 1 + (strOf (numText num)).size := by omega
    have hn4 : ¬ 9223372036854775807 < 3 + (strOf (numText num)).size + 1 := by omega
    generalize strOf (numText num) = S at *
    generalize strOf (stepText ⟨4, num⟩) = R at *
    go_enter Tryz.func30, Tryz.ntmps30
    go_upto_region 1 with fail
    rw [hW.out]
    clear hW
    go_wp2_with fail
    refine C.mono ?_
    rintro e w1 ⟨rfl, hb1⟩
    have p0 := HC.out w1 hb1
    clear HC C q0 q1
    go_wp2
    go_ret
    exact ⟨by rw [HF.out]; rfl, hbW.trans (hb1.mono hbW.size)⟩
  · have HF : Hid (strOf (stepText ⟨5, num⟩) = _) := HT.out 5
    clear HT
    have hn3 : ¬ 9223372036854775807 < 3 + (strOf (numText num)).size := by omega
    have hn1 : ¬ 9223372036854775807 < 1 + (strOf (numText num)).size := by omega
    have hn4 : ¬ 9223372036854775807 < 3 + (strOf (numText num)).size + 1 := by omega
    generalize strOf (numText num) = S at *
    generalize strOf (stepText ⟨5, num⟩) = R at *
    go_enter Tryz.func30, Tryz.ntmps30
    go_upto_region 1 with fail
    rw [hW.out]
    clear hW
    go_wp2_with fail
    refine C.mono ?_
    rintro e w1 ⟨rfl, hb1⟩
    have p0 := HC.out w1 hb1
    clear HC C q0 q1
    go_wp2
    go_ret
    exact ⟨by rw [HF.out]; rfl, hbW.trans (hb1.mono hbW.size)⟩

set_option maxHeartbeats 2000000 in
set_option maxRecDepth 100000 in
theorem implPathText_any (x : Int) (T : List StepV) (a : Option Addr) (c : Nat) (w : World) (he : PowT w) (hr : ReadsPh w a T) (hl : T.length ≤ 1099511627776) :
    Calls Tryz.prog 7 #[.agg #[.int .i64 x, .slice a T.length c]] w fun e w' => e = .returned (.string (strOf (pathText x T))) ∧ Below w.heap.size w w' := by
  obtain ⟨W, hW, b0, hbW, hsW⟩ := boxes1 w [.int .i64 x, .slice a T.length c] 27
  have HOK : Hid (Calls Tryz.prog 12 #[.agg #[.int .i64 x, .slice a T.length c]] W fun e w' => e = .returned (.bool (pathB x T)) ∧ Below W.heap.size W w') := implPathOk_any x T a c W (hr.below hbW) hl
  have HC : Hid (∀ u, Below W.heap.size W u → (u.cell? ⟨w.heap.size, 0, none⟩ = some (.int .i64 x) ∧ u.cell? ⟨w.heap.size, 1, none⟩ = some (.slice a T.length c)) ∧ ∀ k, k < T.length → ∃ b off, a = some ⟨b, off, none⟩ ∧ u.cell? ⟨b, off + k * 2, none⟩ = some (.int .i64 (T.getD k zeroPh).kd) ∧ u.cell? ⟨b, off + k * 2 + 1, none⟩ = some (.int .i64 (T.getD k zeroPh).num)) := fun u hu => by
    refine ⟨⟨(b0.below hu b0.lt).cell 0 _ rfl, (b0.below hu b0.lt).cell 1 _ rfl⟩, fun k hk => ?_⟩
    obtain ⟨b, off, ha, hc⟩ := ((hr.below hbW).below hu) (by intro e; rw [e] at hk; simp at hk)
    exact ⟨b, off, ha, hc k hk⟩
  have HP : Hid (∀ u, Below W.heap.size W u → PowT u) := fun u hu => (he.keep hbW).keep hu
  clear hr b0 hsW he
  obtain ⟨⟨q0, q1⟩, -⟩ := HC.out W (Below.refl _ _)
  cases hB : pathB x T with
  | false =>
    have HT : Hid (strOf (pathText x T) = ⟨#[]⟩) := by rw [Hid, pathText, if_neg (by rw [hB]; decide)]; rfl
    have C := HOK.out
    rw [hB] at C
    clear HOK hB HC HP
    generalize strOf (pathText x T) = R at *
    go_enter Tryz.func7, Tryz.ntmps7
    go_upto_region 1 with fail
    rw [hW.out]
    clear hW
    go_wp2_with fail
    refine C.mono ?_
    rintro e w1 ⟨rfl, hb1⟩
    go_wp2
    go_ret
    exact ⟨by have h := HT.out; subst h; rfl, hbW.trans (hb1.mono hbW.size)⟩
  | true =>
    obtain ⟨hx, h8, hs⟩ := pathB_info hB
    have HT : Hid (pathText x T = pathTo x T T.length) := by rw [Hid, pathText, if_pos hB]
    have HLEN : Hid (∀ k, k ≤ T.length → (strOf (pathTo x T k)).size ≤ 11 + 15 * k) := fun k hk => by rw [strOf_size]; exact pathTo_len hB k hk
    have HS : Hid (∀ k, k < T.length → stepB (T.getD k zeroPh) = true) := hs
    have HX : Hid (∀ u, Below W.heap.size W u → Calls Tryz.prog 29 #[.int .i64 x] u fun e w' => e = .returned (.string (strOf (numText x))) ∧ Below u.heap.size u w') := fun u hu => itoa_pow x (by omega) u (HP.out u hu)
    have H0 : Hid (strOf (numText x) = strOf (pathTo x T 0)) := by simp [Hid, pathTo]
    have HST : Hid (∀ k, k < T.length → strOf (pathTo x T (k + 1)) = strOf (pathTo x T k) ++ strOf (stepText (T.getD k zeroPh))) := fun k hk => by rw [pathTo_step x T hk, strOf_append]
    have C := HOK.out
    rw [hB] at C
    clear HOK hB hs
    have hz0 : (strOf (numText x)).size ≤ 11 := by rw [strOf_size]; exact num_len x hx
    clear hx
    generalize strOf (numText x) = S0 at *
    go_enter Tryz.func7, Tryz.ntmps7
    go_upto_region 1 with fail
    rw [hW.out]
    clear hW
    go_wp2_with fail
    refine C.mono ?_
    rintro e w1 ⟨rfl, hb1⟩
    clear C
    obtain ⟨⟨p0, p1⟩, -⟩ := HC.out w1 hb1
    have CX := HX.out w1 hb1
    clear HX
    go_wp2_with fail
    refine CX.mono ?_
    rintro e w2 ⟨rfl, hb2⟩
    have hB2 : Below W.heap.size W w2 := hb1.trans (hb2.mono hb1.size)
    clear CX hb1 hb2 p0 p1 q0 q1
    obtain ⟨⟨p0, p1⟩, -⟩ := HC.out w2 hB2
    go_wp2_with fail
    clear p0 p1
    go_loopw [3, 15] (fun s i wr => ∃ (S : ByteArray) (k : Nat), s = .string S ∧ i = .int .i64 k ∧ k ≤ T.length ∧ S.size ≤ 11 + 15 * k ∧ Hid (S = strOf (pathTo x T k)) ∧ Below W.heap.size W wr) (fun _ i _ => T.length - (RowKit.intOf i).toNat)
    case atStart => exact ⟨S0, 0, rfl, rfl, Nat.zero_le _, by omega, H0.out, hB2⟩
    case round =>
      obtain ⟨S, k, rfl, rfl, hk, hsz, hS, hbl⟩ := hrel
      clear hB2
      obtain ⟨-, hst⟩ := HC.out wr hbl
      by_cases hlt : k < T.length
      · obtain ⟨b, off, rfl, c0, c1⟩ := hst k hlt
        have hsb := HS.out k hlt
        have hpw := HP.out wr hbl
        have HE : Hid (S ++ strOf (stepText (T.getD k zeroPh)) = strOf (pathTo x T (k + 1))) := by rw [Hid, HST.out k hlt, hS.out]
        have hes : (strOf (pathTo x T (k + 1))).size ≤ 11 + 15 * (k + 1) := HLEN.out (k + 1) hlt
        have hss : (strOf (stepText (T.getD k zeroPh))).size ≤ 15 := by rw [strOf_size]; exact stepText_len hsb
        obtain ⟨V, hV, bz, hbV, hsV⟩ := boxes1 wr [.int .i64 (T.getD k zeroPh).kd, .int .i64 (T.getD k zeroPh).num] 44
        have z0 := bz.cell 0 _ rfl
        have z1 := bz.cell 1 _ rfl
        have CS := implStepText_any (T.getD k zeroPh) V (hpw.keep hbV) hsb
        have hBV : Below W.heap.size W V := hbl.trans (hbV.mono hbl.size)
        clear HC HS HST HLEN hS hst HT H0 hsb hpw HP bz hsV hbV hbl
        generalize hN : strOf (pathTo x T (k + 1)) = N at *
        have HN : Hid (N = strOf (pathTo x T (k + 1))) := hN.symm
        clear hN
        generalize strOf (stepText (T.getD k zeroPh)) = Q at *
        generalize T.getD k zeroPh = z at *
        have hcat : ¬ 9223372036854775807 < S.size + Q.size := by omega
        go_wp2_with fail
        rw [hV.out]
        clear hV
        go_wp2_with fail
        refine CS.mono ?_
        rintro e w3 ⟨rfl, hb3⟩
        have hB3 : Below W.heap.size W w3 := hBV.trans (hb3.mono hBV.size)
        clear CS hb3 hBV c0 c1 z0 z1
        go_wp2_with fail
        go_roundw
        case rel => exact ⟨S ++ Q, k + 1, rfl, by go_num, by omega, by have := hes; rw [← HE.out] at this; exact this, by rw [Hid, HE.out]; exact HN.out, hB3⟩
        case measure => simp [RowKit.intOf]; omega
      · have HR : Hid (S = strOf (pathText x T)) := by rw [Hid, hS.out, HT.out, show k = T.length from by omega]
        clear HC HS HST HLEN hS hst HT H0 HP
        go_wp2
        go_ret
        exact ⟨by rw [← HR.out]; rfl, hbW.trans (hbl.mono hbW.size)⟩
end Go.Proofs.YtajcffchopcamaaGreatDoor

/- What came in, read: a slice of bytes. -/
namespace Go.Proofs.YtajcffchopcamaaGreatDoor
open Go.ChangeShapes Go.WideShapes Go.ChangeAt Go.RowKit

section
variable {H : Type} {enc : TypeId × Value → H} {w : World} {base : Nat} {spare : Nat → Bool} {held : Bool}

theorem trod_bytes {fuel : Nat} {cs : List Value} {x : DataW H × List MemPlace} (h : DataW.trod enc Tryz.prog w base spare held fuel 22 cs = some x) :
    ∃ (a : Option Addr) (c : Nat) (ns : List Int), cs = [.slice a ns.length c] ∧ Reads w a ns ∧ (a = none → c = 0) ∧ ns.length ≤ maxLen := by
  rcases open_ints Tryz.underlying22 Tryz.underlying5 (by kernel_rfl) h with ⟨rfl, _⟩ | ⟨a, len, cap, zs, rfl, _, hl, hm, hz, _, hcell, hwf⟩
  · exact ⟨none, 0, [], rfl, ⟨by simp, by simp⟩, fun _ => rfl, by simp⟩
  · have hlz : len ≤ zs.length := by rw [hz]; split <;> omega
    refine ⟨some a, cap, zs.take len, by simp; omega, ⟨fun z hzz => ?_, ?_⟩, (fun h => by cases h), by simp; omega⟩
    · have := hwf z (List.mem_of_mem_take hzz)
      simp [Lit.wf, IntKind.min, IntKind.max, IntKind.signed, IntKind.bits] at this
      omega
    · intro hne
      have hpos := List.length_pos_iff.2 hne
      simp at hpos
      obtain ⟨b, off, spot⟩ := a
      have hc0 := hcell 0 (by omega)
      have hspot : spot = none := by simpa [Addr.add] using World.cell?_spot hc0
      subst hspot
      refine ⟨b, off, rfl, fun i hi => ?_⟩
      have hi' : i < len := by simp at hi; omega
      have := hcell i (by omega)
      have e : (List.take len zs).getD i 0 = zs.getD i 0 := by simp [List.getD, hi']
      rw [e, ← Addr_add]
      exact this

set_option maxRecDepth 100000 in
/-- A slice of bytes that came in as an argument. -/
theorem open_bytes {b0 : Nat} {v : Value} {d : DataW H} {ps : List MemPlace} (hval : Value.okWide Tryz.prog w .any b0 22 v) (h : DataW.Trod enc Tryz.prog w base spare held 22 v d ps) :
    ∃ (a : Option Addr) (c : Nat) (ns : List Int), v = .slice a ns.length c ∧ Reads w a ns ∧ (a = none → c = 0) ∧ ns.length ≤ maxLen := by
  obtain ⟨a, len, cap, hv⟩ := okWide_slice (e := 5) Tryz.underlying22 hval
  subst hv
  obtain ⟨fuel, hf⟩ := h
  have e : (Value.slice a len cap).cells.toList = [Value.slice a len cap] := rfl
  rw [e] at hf
  obtain ⟨a', c', ns, hc, rest⟩ := trod_bytes hf
  simp only [List.cons.injEq, and_true] at hc
  exact ⟨a', c', ns, hc, rest⟩
end
end Go.Proofs.YtajcffchopcamaaGreatDoor

/- The walk of laws.FnPaths. -/
namespace Go.Proofs.YtajcffchopcamaaGreatDoor
open Go.RowKit

set_option maxHeartbeats 4000000 in
set_option maxRecDepth 100000 in
theorem lawPaths_walk (a : Option Addr) (c : Nat) (zs : List Int) (w : World) (hg : ErrT w) (hn : EnvN w) (hr : Reads w a zs) :
    Calls Tryz.prog 3 #[.slice a zs.length c] w fun e w' => e = .returned (.bool true) ∧ Below w.heap.size w w' := by
  have C0 := big_any a c zs.length w
  by_cases hbig : 1048576 < zs.length
  · rw [decide_eq_true hbig] at C0
    go_enter Tryz.func3, Tryz.ntmps3
    go_wp2_with fail
    refine C0.mono ?_
    rintro e w' ⟨rfl, rfl⟩
    go_wp2
    go_ret
    exact ⟨rfl, Below.refl _ _⟩
  rw [decide_eq_false hbig] at C0
  have hzl : zs.length ≤ 70368744177664 := by omega
  clear hbig
  go_enter Tryz.func3, Tryz.ntmps3
  go_wp2_with fail
  refine C0.mono ?_
  rintro e w0 ⟨rfl, rfl⟩
  clear C0
  go_wp2_with fail
  refine (drawAsked_any a c zs w0 hr hzl).mono ?_
  rintro e w1 ⟨g, ts, x, T, aT, cT, rfl, hts, hv1, hT1, hb1⟩
  obtain ⟨h32, hvB, hfit, hpB⟩ := hts.out
  have hx := pathB_from' hpB
  obtain ⟨xn, rfl⟩ : ∃ xn : Nat, x = xn := ⟨x.toNat, by omega⟩
  have hTl := (pathB_info hpB).2.1
  obtain ⟨W, hW, bP, hbW, hsW⟩ := boxes1 w1 [.int .i64 (xn : Int), .slice aT T.length cT] 27
  have HBP : Hid (∀ u, Below W.heap.size W u → u.cell? ⟨w1.heap.size, 0, none⟩ = some (.int .i64 (xn : Int)) ∧ u.cell? ⟨w1.heap.size, 1, none⟩ = some (.slice aT T.length cT)) := fun u hu => ⟨(bP.below hu bP.lt).cell 0 _ rfl, (bP.below hu bP.lt).cell 1 _ rfl⟩
  have HRV : Hid (∀ u, Below W.heap.size W u → ReadsVw u (some ⟨g, 0, none⟩) ts) := fun u hu => (hv1.below hbW).below hu
  have HRT : Hid (∀ u, Below W.heap.size W u → ReadsPh u aT T) := fun u hu => (hT1.below hbW).below hu
  have HBW : Hid (∀ u, Below W.heap.size W u → Below w0.heap.size w0 u) := fun u hu => (hb1.trans (hbW.mono hb1.size)).trans (hu.mono (Nat.le_trans hb1.size hbW.size))
  have HERR : Hid (∀ u, Below W.heap.size W u → ErrT u ∧ EnvN u) := fun u hu => ⟨hg.keep (HBW.out u hu), hn.keep (HBW.out u hu)⟩
  -- what each call answers
  have HTX : Hid (∀ u, Below W.heap.size W u → ∀ aX cX, ReadsPh u aX T → Calls Tryz.prog 7 #[.agg #[.int .i64 (xn : Int), .slice aX T.length cX]] u fun e w' => e = .returned (.string (strOf (pathText xn T))) ∧ Below u.heap.size u w') := fun u hu aX cX hX => implPathText_any xn T aX cX u (HERR.out u hu).2.pow hX (by omega)
  have HPP : Hid (∀ u, Below W.heap.size W u → Calls Tryz.prog 8 #[.string (strOf (pathText xn T))] u fun e w' => ∃ aX cX, e = .returned (.tuple #[.agg #[.int .i64 (xn : Int), .slice aX T.length cX], .bool true]) ∧ ReadsPh w' aX T ∧ Below u.heap.size u w') := fun u hu => by
    have hsz : (strOf (pathText xn T)).size ≤ 1048576 := by
      rw [pathText, if_pos hpB, strOf_size]
      have := pathTo_len hpB T.length (Nat.le_refl _)
      omega
    refine (implParsePath_any (strOf (pathText xn T)) u (HERR.out u hu).2 hsz).mono ?_
    have hP := (path_same hpB (strOf (pathText xn T))).1 rfl
    rintro e w' ⟨h, hb⟩
    rcases h with ⟨y, U, aX, cX, rfl, hP2, ho⟩ | ⟨rfl, hno⟩
    · obtain ⟨rfl, rfl⟩ := isPath_one hP hP2
      exact ⟨aX, cX, rfl, ho.reads, hb⟩
    · exact absurd hP (hno xn T)
  have HEV : Hid (∀ u, Below W.heap.size W u → Calls Tryz.prog 9 #[.slice (some ⟨g, 0, none⟩) 32 32, .agg #[.int .i64 (xn : Int), .slice aT T.length cT]] u fun e w' => ReachAns u (reachL (evalTo (vsOf ts) xn T T.length)) e w') := fun u hu => by
    have := implEval_any (some ⟨g, 0, none⟩) 32 ts xn T aT cT u (HERR.out u hu).1 (HRV.out u hu) (by omega) hfit (HRT.out u hu) (by omega)
    rw [h32, evalV, hvB, hpB, Bool.and_self, if_pos rfl] at this
    exact this
  have HEVS : Hid (∀ u, Below W.heap.size W u → Calls Tryz.prog 11 #[.slice (some ⟨g, 0, none⟩) 32 32, .agg #[.int .i64 (xn : Int), .slice aT T.length cT]] u fun e w' => ReachAns u (reachL (evalTo (vsOf ts) xn T T.length)) e w') := fun u hu => by
    have := specEval_any (some ⟨g, 0, none⟩) 32 ts xn T aT cT u (HRV.out u hu) hfit (HRT.out u hu) (by omega)
    rw [h32, evalV, hvB, hpB, Bool.and_self, if_pos rfl] at this
    exact this
  have HOK : Hid (∀ u, Below W.heap.size W u → Calls Tryz.prog 12 #[.agg #[.int .i64 (xn : Int), .slice aT T.length cT]] u fun e w' => e = .returned (.bool true) ∧ Below u.heap.size u w') := fun u hu => by
    have := implPathOk_any xn T aT cT u (HRT.out u hu) (by omega)
    rw [hpB] at this
    exact this
  have HRC : Hid (∀ u, Below W.heap.size W u → Calls Tryz.prog 13 #[.slice (some ⟨g, 0, none⟩) 32 32, .int .i64 (xn : Int)] u fun e w' => ReachAns u (reachL (runM (vsOf ts) 40 xn).met) e w') := fun u hu => by
    have := implReach_any (some ⟨g, 0, none⟩) 32 ts xn u (HERR.out u hu).1 (HRV.out u hu) (by omega) hfit
    have e : reachV (vsOf ts) xn = reachL (runM (vsOf ts) 40 xn).met := by
      have hin : inB (xn : Int) 1 31 = true := by simp [inB, hx.1, hx.2]
      rw [reachV, hvB, hin]
      rfl
    rw [h32, e] at this
    exact this
  have HDP : Hid (∀ u, Below W.heap.size W u → ∀ aX cX, ReadsPh u aX [⟨3, 0⟩] → Calls Tryz.prog 9 #[.slice (some ⟨g, 0, none⟩) 32 32, .agg #[.int .i64 (xn : Int), .slice aX 1 cX]] u fun e w' => ReachAns u (reachL (runM (vsOf ts) 40 xn).met) e w') := fun u hu aX cX hX => by
    have := implEval_any (some ⟨g, 0, none⟩) 32 ts xn [⟨3, 0⟩] aX cX u (HERR.out u hu).1 (HRV.out u hu) (by omega) hfit hX (by simp)
    rw [h32, eval_deep hvB xn hx] at this
    exact this
  have HTH : Hid (∀ y ∈ reachL (evalTo (vsOf ts) xn T T.length), ∃ k : Nat, y = k ∧ k < 32 ∧ ((vsOf ts).getD k noS).has = true ∧ (reachL (runM (vsOf ts) 40 xn).met).any (· == y) = true) := asked_there hvB hx T T.length
  have HVC : Hid (∀ u, Below W.heap.size W u → ∀ k : Nat, k < 32 → u.cell? ⟨g, 0 + k * 4, none⟩ = some (.bool ((vsOf ts).getD k noS).has)) := fun u hu k hk => (view_cells (HRV.out W (Below.refl _ _)) h32 hu k hk).1
  have HL1 : (reachL (evalTo (vsOf ts) xn T T.length)).length ≤ 32 := reachTo_len _ 32
  have HL2 : (reachL (runM (vsOf ts) 40 xn).met).length ≤ 32 := reachTo_len _ 32
  clear hts hv1 hT1 hb1 hbW hsW h32 hvB hfit hpB hg hn hr HRV HERR bP
  generalize reachL (evalTo (vsOf ts) xn T T.length) = L at *
  generalize reachL (runM (vsOf ts) 40 xn).met = R at *
  generalize strOf (pathText xn T) = S at *
  have hSS : (S.toList == S.toList) = true := by simp
  go_upto_region 4 with fail
  rw [hW.out]
  clear hW
  obtain ⟨p0, p1⟩ := HBP.out W (Below.refl _ _)
  have C4 := HTX.out W (Below.refl _ _) aT cT (HRT.out W (Below.refl _ _))
  go_wp2_with fail
  refine C4.mono ?_
  clear C4 p0 p1
  rintro e w4 ⟨rfl, K4⟩
  have C5 := HPP.out w4 K4
  clear HPP
  go_wp2_with fail
  refine C5.mono ?_
  clear C5
  rintro e w5 ⟨aX, cX, rfl, hX5, hb5⟩
  have K5 : Below W.heap.size W w5 := K4.trans (hb5.mono K4.size)
  obtain ⟨W6, hW6, bX, hbW6, hsW6⟩ := boxes1 w5 [.int .i64 (xn : Int), .slice aX T.length cX] 27
  have K6 : Below W.heap.size W W6 := K5.trans (hbW6.mono K5.size)
  have hX6 := hX5.below hbW6
  go_upto_region 6 with fail
  rw [hW6.out]
  clear hW6 hsW6 hbW6 hb5 hX5 K5 K4
  obtain ⟨p0, p1⟩ := HBP.out W6 K6
  have C6 := HEV.out W6 K6
  clear HEV
  go_wp2_with fail
  refine C6.mono ?_
  clear C6 p0 p1
  rintro e w7 ⟨a7, c7, rfl, ho7, hb7⟩
  have K7 : Below W.heap.size W w7 := K6.trans (hb7.mono K6.size)
  replace bX := bX.below hb7 bX.lt
  have x0 := bX.cell 0 _ rfl
  have x1 := bX.cell 1 _ rfl
  have C7 := HTX.out w7 K7 aX cX (hX6.below hb7)
  clear HTX hX6 hb7 K6 bX
  go_wp2_with fail
  refine C7.mono ?_
  clear C7 x0 x1
  rintro e w8 ⟨rfl, hb8⟩
  have K8 : Below W.heap.size W w8 := K7.trans (hb8.mono K7.size)
  replace ho7 := ho7.below hb8
  obtain ⟨p0, p1⟩ := HBP.out w8 K8
  have C8 := HEVS.out w8 K8
  clear HEVS hb8 K7
  go_wp2_with fail
  refine C8.mono ?_
  clear C8 p0 p1
  rintro e w9 ⟨a9, c9, rfl, ho9, hb9⟩
  have K9 : Below W.heap.size W w9 := K8.trans (hb9.mono K8.size)
  replace ho7 := ho7.below hb9
  go_wp2_with fail
  refine (sameInts_same a7 a9 c7 c9 L w9 ho7.reads ho9.reads (by omega)).mono ?_
  rintro e w10 ⟨rfl, nq, hq⟩
  have d10 : Below w9.heap.size w9 w10 := by rw [hq]; exact below_drewN (Below.refl _ _) nq
  have K10 : Below W.heap.size W w10 := K9.trans (d10.mono K9.size)
  replace ho7 := ho7.below d10
  clear hq d10 ho9 hb9 K8 K9
  obtain ⟨p0, p1⟩ := HBP.out w10 K10
  have C10 := HOK.out w10 K10
  clear HOK
  go_wp2_with fail
  refine C10.mono ?_
  clear C10 p0 p1
  rintro e w11 ⟨rfl, hb11⟩
  have K11 : Below W.heap.size W w11 := K10.trans (hb11.mono K10.size)
  replace ho7 := ho7.below hb11
  obtain ⟨p0, p1⟩ := HBP.out w11 K11
  have C11 := HRC.out w11 K11
  clear HRC hb11 K10
  go_wp2_with fail
  refine C11.mono ?_
  clear C11 p0 p1
  rintro e w12 ⟨a12, c12, rfl, ho12, hb12⟩
  have K12 : Below W.heap.size W w12 := K11.trans (hb12.mono K11.size)
  replace ho7 := ho7.below hb12
  clear hb12 K11
  have HRL : Hid (ReadsI w12 a7 L) := ho7.reads
  have HAM : Hid (∀ y, Calls Tryz.prog 14 #[.slice a12 R.length c12, .int .i64 y] w12 fun e w' => e = .returned (.bool (R.any (· == y))) ∧ w' = w12) := fun y => among_any a12 c12 R y w12 ho12.reads (by omega)
  have HR12 : Hid (OwnI w12 w11.heap.size w12.heap.size a12 c12 R) := ho12
  clear ho7 ho12
  go_wp2_with fail
  go_loopw [10] (fun iv wr => ∃ i : Nat, i ≤ L.length ∧ iv = .int .i64 i ∧ wr = w12) (fun iv _ => L.length - (RowKit.intOf iv).toNat)
  case atStart => exact ⟨0, Nat.zero_le _, rfl, rfl⟩
  case round =>
    obtain ⟨i, hi, rfl, rfl⟩ := hrel
    by_cases hlt : i < L.length
    · obtain ⟨bl, ol, rfl, hcl⟩ := HRL.out (by intro e; rw [e] at hlt; simp at hlt)
      have f0 := hcl i hlt
      obtain ⟨k, hke, hk32, hkh, hka⟩ := HTH.out _ (mem_getDM hlt)
      have v0 := HVC.out wr K12 k hk32
      rw [hkh, Nat.zero_add] at v0
      have C := HAM.out (L.getD i 0)
      rw [hka] at C
      rw [hke] at f0 C
      have hkI : (k : Int) < 32 := by omega
      have hiI : (i : Int) < (L.length : Int) := by omega
      clear hcl hkh hka hke
      go_wp2_with fail
      refine C.mono ?_
      clear C
      rintro e w' ⟨rfl, rfl⟩
      go_wp2_with fail
      go_roundw
      case rel => exact ⟨i + 1, by omega, by go_num, by trivial⟩
      case measure => simp [RowKit.intOf]; omega
    · obtain ⟨p0, p1⟩ := HBP.out wr K12
      obtain ⟨U, hU, bz, hbU, hsU⟩ := boxes1 wr [.int .i64 3, .int .i64 0] 44
      have hrz : ReadsPh U (some ⟨wr.heap.size, 0, none⟩) [⟨3, 0⟩] := by rw [← hU.out]; exact readsPh_one wr ⟨3, 0⟩ _
      obtain ⟨U2, hU2, b2, hbU2, hsU2⟩ := boxes1 U [.int .i64 (xn : Int), .slice (some ⟨wr.heap.size, 0, none⟩) 1 1] 27
      have KU : Below wr.heap.size wr U2 := hbU.trans (hbU2.mono hbU.size)
      have K13 : Below W.heap.size W U2 := K12.trans (KU.mono K12.size)
      have hsU' : U.heap.size = wr.heap.size + 1 := hsU
      have C13 := HDP.out U2 K13 (some ⟨wr.heap.size, 0, none⟩) 1 (hrz.below hbU2)
      have q0 := b2.cell 0 _ rfl
      have q1 := b2.cell 1 _ rfl
      have ho13 := HR12.out.below KU
      rw [hsU'] at q0 q1
      have hlast : ¬ (i : Int) < (L.length : Int) := by omega
      clear hrz bz b2 hbU hbU2 hsU hsU2 hsU' HDP HAM HTH HVC HRL HR12
      go_upto_region 16 with fail
      rw [hU.out, hU2.out]
      clear hU hU2
      go_wp2_with fail
      refine C13.mono ?_
      clear C13
      rintro e w14 ⟨a14, c14, rfl, ho14, hb14⟩
      have K14 : Below W.heap.size W w14 := K13.trans (hb14.mono K13.size)
      replace ho13 := ho13.below hb14
      go_wp2_with fail
      refine (sameInts_same a14 a12 c14 c12 R w14 ho14.reads ho13.reads (by omega)).mono ?_
      rintro e w15 ⟨rfl, nq15, hq15⟩
      have d15 : Below w14.heap.size w14 w15 := by rw [hq15]; exact below_drewN (Below.refl _ _) nq15
      have K15 : Below W.heap.size W w15 := K14.trans (d15.mono K14.size)
      clear hq15
      go_wp2
      go_ret
      exact ⟨rfl, HBW.out _ K15⟩
end Go.Proofs.YtajcffchopcamaaGreatDoor

/- What a row's condition on the library's table of powers and its two errors gives; a law for a witness. -/
namespace Go.Proofs.YtajcffchopcamaaGreatDoor
open Go.ChangeShapes Go.WideShapes Go.RowKit

theorem laidMet_overN {P : Program} {w0 : World} {laid : List (String × DataW Unit)} (args : Array Value) (hf : w0.layFits P laid [] = true) (hi : w0.layIfaces P laid (w0.layVars P laid) = true) :
    laidMet P laid ((w0.layVars P laid).forCall (fun _ _ => 0) ⟨#[], args, []⟩).memory := by
  have e1 : (laid.filter fun x => (laid.map (·.1)).contains x.1) = laid := List.filter_eq_self.2 fun x hx => List.contains_iff_mem.2 (List.mem_map.2 ⟨x, hx, rfl⟩)
  have e2 : (laid.filter fun x => !(laid.map (·.1)).contains x.1) = [] := List.filter_eq_nil_iff.2 fun x hx => by rw [List.contains_iff_mem.2 (List.mem_map.2 ⟨x, hx, rfl⟩)]; simp
  have h : laidMet P laid (w0.layVars P laid) := laidMet_layVars (w0 := w0) (laid.map (·.1)) [] (by rw [e1]) (by rw [e1]; exact hf) (by rw [e1]; exact hi) (by rw [e2]; exact LaidIn.none)
  exact h.of_heap (by simp [World.memory, World.forCall, Input.heap])

theorem Tryz.pow10DataN : (Rows.laid_internal_strconv_uint64pow10 : DataW Unit) = Lib.tabData .u64 Lib.pow10Tab := by kernel_rfl

theorem powT_of {W : World} {laid : List (String × DataW Unit)} {name : String} (hn : Tryz.prog.globalNamed name = some 0) (hl : laidMet Tryz.prog laid W) (hm : (name, Rows.laid_internal_strconv_uint64pow10) ∈ laid) : PowT W := by
  rw [Tryz.pow10DataN] at hm
  exact tab_heap hl hm hn (by kernel_rfl) Tryz.underlying155 Tryz.underlying139 (by kernel_rfl) (by kernel_rfl)

/-- A listed interface value lies in its variable's cell. -/
theorem iface_cellN {P : Program} {w : World} {laid : List (String × DataW Unit)} {name tn : String} {d : DataW Unit} {g : Nat} {t : TypeId} {ms : Array (String × TypeId)} (hl : laidMet P laid w) (hm : (name, DataW.iface tn d) ∈ laid)
    (hg : P.globalNamed name = some g) (hty : (P.globals[g]?).map (·.type) = some t) (hi : P.underlying t = some (.interface ms)) : ∃ u v, w.cell? ⟨g, 0, none⟩ = some (.iface u v) := by
  obtain ⟨ps, hv, _⟩ := hl
  obtain ⟨g', t', cs, fuel, p, h1, h2, h3, h4⟩ := laidVars_mem laid ps hv name _ hm
  obtain rfl := Option.some.inj (hg.symm.trans h1)
  obtain rfl := Option.some.inj (hty.symm.trans h2)
  obtain ⟨_, u, v, hc, _, _⟩ := iface_of_trod hi h4
  refine ⟨u, v, ?_⟩
  have h := World.var?_cell hg h3 0
  have e : cs[0]? = some (.iface u v) := by
    rw [← Array.getElem?_toList, hc]; rfl
  rw [e] at h
  exact h

theorem envN_of {W : World} {laid : List (String × DataW Unit)} {n0 n1 n2 : String} (hd : laidMet Tryz.prog laid W)
    (h0 : Tryz.prog.globalNamed n0 = some 0) (m0 : (n0, Rows.laid_internal_strconv_uint64pow10) ∈ laid)
    (h1 : Tryz.prog.globalNamed n1 = some 3) (m1 : (n1, Rows.laid_strconv_ErrRange) ∈ laid)
    (h2 : Tryz.prog.globalNamed n2 = some 2) (m2 : (n2, Rows.laid_strconv_ErrSyntax) ∈ laid) : EnvN W := by
  refine ⟨powT_of h0 hd m0, ?_, ?_⟩
  · obtain ⟨u, v, h⟩ := iface_cellN hd m2 h2 (by kernel_rfl) Tryz.underlying127
    exact ⟨u, v, h⟩
  · obtain ⟨u, v, h⟩ := iface_cellN hd m1 h1 (by kernel_rfl) Tryz.underlying127
    exact ⟨u, v, h⟩
end Go.Proofs.YtajcffchopcamaaGreatDoor

/- What the row's condition on errors.errorType gives a walk; a world that meets it. -/
namespace Go.Proofs.YtajcffchopcamaaGreatDoor
open Go.ChangeShapes Go.WideShapes Go.RowKit

theorem Tryz.et : Tryz.prog.globalNamed "errors.errorType" = some 6 := by kernel_rfl
theorem Tryz.rt : (Tryz.prog.cutTypes.find? (·.1 == "internal/reflectlite.rtype")).map (·.2) = some 216 := by kernel_rfl
theorem Tryz.oneRow : ((List.range 257).filter fun t => Tryz.prog.rowNamed t [101, 114, 114, 111, 114]) = [127] := by kernel_rfl
theorem Tryz.typesSize : Tryz.prog.types.size = 257 := by kernel_rfl

theorem errT_of_handles {W : World} {laid : List (String × DataW Unit)} (hm : ("errors.errorType", Rows.laid_errors_errorType) ∈ laid) (h : handlesMet Tryz.prog laid W) : ErrT W := by
  obtain ⟨name, u, ty, e1, e2, e3, e4, e5⟩ := h _ hm
  have en : name = [101, 114, 114, 111, 114] := (Option.some.inj e1).symm
  subst en
  obtain rfl := Option.some.inj (Tryz.rt.symm.trans e2)
  have hm : ty ∈ (List.range 257).filter fun t => Tryz.prog.rowNamed t [101, 114, 114, 111, 114] := List.mem_filter.2 ⟨List.mem_range.2 (by rw [← Tryz.typesSize]; exact e3), e4⟩
  rw [Tryz.oneRow] at hm
  obtain rfl := List.mem_singleton.1 hm
  have hh : typeHandle Tryz.prog 127 = .pointer (some ⟨7, 127, none⟩) := by kernel_rfl
  rw [hh] at e5
  unfold ErrT
  simpa using World.var?_cell Tryz.et e5 0

end Go.Proofs.YtajcffchopcamaaGreatDoor
