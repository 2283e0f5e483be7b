/- The walk of laws.FnInts. -/
import Derived.Test.YthakapbdnoiciaaTextMath
import Derived.Test.YthakapbdnoiciaaDrawText
import Derived.Test.YthakapbdnoiciaaLenCap
namespace Go.Proofs.Ythakapbdnoiciaa
open Go.RowKit

set_option maxHeartbeats 400000 in
theorem big_any (a : Option Addr) (c n : Nat) (w : World) : Calls Try.prog 9 #[.slice a n c] w fun e w' => e = .returned (.bool (decide (1048576 < n))) ∧ w' = w := by
  by_cases h : 1048576 < n
  · have HB : Hid (decide (1048576 < n) = true) := decide_eq_true h
    go_enter Try.func9, Try.ntmps9
    go_wp2
    go_ret
    exact ⟨by rw [HB.out]; exact ret_bool (decide_eq_true (by omega)), rfl⟩
  · have HB : Hid (decide (1048576 < n) = false) := decide_eq_false h
    go_enter Try.func9, Try.ntmps9
    go_wp2
    go_ret
    exact ⟨by rw [HB.out]; exact ret_bool (decide_eq_false (by omega)), rfl⟩

theorem own_prefix {w : World} {base : Nat} {a : Option Addr} {c : Nat} {ys : List Int} (h : OwnB w base a c ys) (k : Nat) : Reads w a (ys.take k) := by
  refine ⟨fun z hz => h.1 z (List.mem_of_mem_take hz), fun hne => ?_⟩
  have hy : ys ≠ [] := by intro e; simp [e] at hne
  obtain ⟨b, off, ha, hc⟩ := h.reads.2 hy
  refine ⟨b, off, ha, fun i hi => ?_⟩
  have hi2 : i < k ∧ i < ys.length := by simp at hi; omega
  rw [hc i hi2.2]
  have : (ys.take k).getD i 0 = ys.getD i 0 := by simp [List.getD, hi2.1]
  rw [this]

set_option maxHeartbeats 1000000 in
theorem lawInts_walk (a : Option Addr) (cap : Nat) (zs : List Int) (w : World) (hr : Reads w a zs) :
    Calls Try.prog 3 #[.slice a zs.length cap] w fun e w' => e = .returned (.bool true) ∧ Below w.heap.size w w' := by
  by_cases hbig : 1048576 < zs.length
  · have hd : decide (1048576 < zs.length) = true := decide_eq_true hbig
    go_enter Try.func3, Try.ntmps3
    go_wp2_with (go_at_call 9; refine (big_any _ _ _ _).mono ?_; rintro e w' ⟨rfl, rfl⟩)
    go_ret
    exact ⟨rfl, Below.refl _ _⟩
  have hd : decide (1048576 < zs.length) = false := decide_eq_false hbig
  go_enter Try.func3, Try.ntmps3
  go_wp2_with fail
  refine (big_any _ _ _ _).mono ?_
  rintro e w0 ⟨rfl, rfl⟩
  go_wp2_with fail
  refine (drawPutInt_any a cap zs w0 hr (by omega)).mono ?_
  rintro e w1 ⟨a1, c1, y1, n, rfl, hy1, ho1, hb1⟩
  go_wp2_with fail
  refine (implPutInt_any a1 c1 y1 n w1 ho1.reads ho1.nocap (by omega)).mono ?_
  rintro e w2 ⟨a2, c2, p, rfl, hp, ho2, hb2⟩
  have HP : Hid (p = y1 ++ putOf n) := hp
  have hpl : p.length ≤ 74 := by have := (putOf_len n).2; rw [hp, List.length_append]; omega
  have hp1 : 1 ≤ p.length := by have := (putOf_len n).1; rw [hp, List.length_append]; omega
  have HT : Hid (triple (getAt p y1.length) = .tuple #[.int .i64 (clampI n), .int .i64 (p.length : Nat), .bool true]) := by
    rw [Hid, hp]
    have h := back_int y1 [] n
    rw [List.append_nil] at h
    rw [h, List.length_append]
    rfl
  have HC : Hid (triple (getAt (p.take (p.length - 1)) y1.length) = .tuple #[.int .i64 0, .int .i64 0, .bool false]) := by
    rw [Hid, hp, cut_int]; rfl
  have hcl := ho2.len_cap
  have htl : (p.take (p.length - 1)).length = p.length - 1 := by simp
  have HTL : Hid (_ = _) := htl
  clear hp htl
  have hb02 : Below w0.heap.size w0 w2 := hb1.trans (hb2.mono hb1.size)
  go_wp2_with fail
  refine (implGetInt_any a2 c2 p y1.length w2 ho2.reads (by omega) hcl).mono ?_
  rintro e w2' ⟨rfl, rfl⟩
  rw [HT.out]
  have cs : (1000000000000 < n ∧ Hid (clampI n = 1000000000000)) ∨ (n < -1000000000000 ∧ Hid (clampI n = -1000000000000)) ∨ (¬ 1000000000000 < n ∧ ¬ n < -1000000000000 ∧ Hid (clampI n = n)) := by
    by_cases h1 : 1000000000000 < n
    · exact .inl ⟨h1, by unfold clampI; rw [Hid, if_pos h1]⟩
    · by_cases h2 : n < -1000000000000
      · exact .inr (.inl ⟨h2, by unfold clampI; rw [Hid, if_neg h1, if_pos h2]⟩)
      · exact .inr (.inr ⟨h1, h2, by unfold clampI; rw [Hid, if_neg h1, if_neg h2]⟩)
  rcases cs with ⟨h1, HK⟩ | ⟨h1, HK⟩ | ⟨h1, h2, HK⟩
  all_goals
    rw [HK.out]
    go_wp2_with fail
    have hget := implGetInt_any a2 c2 (p.take (p.length - 1)) y1.length w2' (own_prefix ho2 _) (by rw [HTL.out]; omega) (by rw [HTL.out]; omega)
    rw [HTL.out] at hget
    refine hget.mono ?_
    clear hget
    rintro e w2'' ⟨rfl, rfl⟩
    rw [HC.out]
    have hr2 := hr.below hb02
    have hwz : w0.heap.size ≤ w2''.heap.size := hb02.size
    go_wp2_with fail
    refine (drawPutText_any a cap zs w2'' hr2 (by omega)).mono ?_
    rintro e w3 ⟨a3, c3, y3, s3, rfl, hy3, hs3, hsb3, ho3, hb3⟩
    have hsz : (strOf s3).size ≤ 9 := by
      have : (strOf s3).size = s3.length := by simp [strOf, ByteArray.size]
      omega
    generalize strOf s3 = S at *
    clear hsb3 hs3
    have hb03 : Below w0.heap.size w0 w3 := hb02.trans (hb3.mono hwz)
    go_wp2_with fail
    refine (implPutText_any a3 c3 y3 S w3 ho3.reads ho3.nocap (by omega)).mono ?_
    rintro e w4 ⟨a4, c4, q, rfl, hq, ho4, hb4⟩
    have hql : q.length ≤ 200 := by
      have := (putOf_len (S.size : Int)).2
      rw [hq, List.length_append, putTextOf, List.length_append, sBytes_len]; omega
    have HQ : Hid (textOf q y3.length = .tuple #[.string S, .int .i64 (q.length : Nat), .bool true]) := by rw [Hid, hq]; exact back_text y3 S (by omega)
    clear hq
    go_wp2_with fail
    refine (implGetText_any a4 c4 q y3.length w4 ho4.reads (by omega) ho4.len_cap).mono ?_
    rintro e w4' ⟨rfl, rfl⟩
    rw [HQ.out]
    go_wp2
    go_ret
    exact ⟨rfl, hb03.trans (hb4.mono hb03.size)⟩
end Go.Proofs.Ythakapbdnoiciaa
