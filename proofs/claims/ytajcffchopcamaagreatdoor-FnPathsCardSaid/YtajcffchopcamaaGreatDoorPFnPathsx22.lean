/- Several texts in one, in their order. -/
import Derived.Test.YtajcffchopcamaaGreatDoorPFnPathsx2
import Derived.ProofKit
import Derived.OpenShut
import Derived.ChangeOld
import Derived.Test.YtajcffchopcamaaGreatDoorPFnPathsx6
import Derived.Deep.Cut
import Derived.Test.YtajcffchopcamaaGreatDoorPFnPathsx7
import Derived.Test.YtajcffchopcamaaGreatDoorPFnPathsx8
import Derived.Test.YtajcffchopcamaaGreatDoorPFnPathsx14
/- What came in, read: a slice of numbers, an object. -/
namespace Go.Proofs.YtajcffchopcamaaGreatDoor
open Go.ChangeShapes Go.WideShapes Go.ChangeAt Go.RowKit

def InI64 (z : Int) : Prop := -9223372036854775808 ≤ z ∧ z ≤ 9223372036854775807
theorem wf_i64 {z : Int} (h : (Lit.int .i64 z).wf = true) : InI64 z := by
  simp [Lit.wf, IntKind.min, IntKind.max, IntKind.signed, IntKind.bits] at h
  unfold InI64; omega

section
variable {H : Type} {enc : TypeId × Value → H} {w : World} {base : Nat} {spare : Nat → Bool} {held : Bool}

end
end Go.Proofs.YtajcffchopcamaaGreatDoor

/- Paths: what they are, what came in, and laws.toPath, szPath, eqPath, markPath, heldPath. -/
namespace Go.Proofs.YtajcffchopcamaaGreatDoor
open Go.RowKit Go.ChangeShapes Go.WideShapes Go.ChangeAt

structure PathA where
  frm : Int
  steps : List StepV
  a : Option Addr
  c : Nat
def PathA.val (p : PathA) : Value := .agg #[.int .i64 p.frm, .slice p.a p.steps.length p.c]

end Go.Proofs.YtajcffchopcamaaGreatDoor

/- Paths that are right; the walk of spec.PathOk. -/
namespace Go.Proofs.YtajcffchopcamaaGreatDoor
open Go.RowKit

def stepB (s : StepV) : Bool := if s.kd = 1 then inB s.num 0 9 else if s.kd = 2 then s.num == 0 else if s.kd = 3 then s.num == 0 else if s.kd = 4 then inB s.num 1 99 else if s.kd = 5 then inB s.num (-1000000) 1000000 else false
def pathB (x : Int) (T : List StepV) : Bool := T.all stepB && (inB x 1 31 && decide (T.length ≤ 8))

set_option maxHeartbeats 1000000 in
set_option maxRecDepth 100000 in
theorem l12Step_any (s : StepV) (w : World) :
    Calls Tryz.prog 64 #[.agg #[.int .i64 s.kd, .int .i64 s.num]] w fun e w' => e = .returned (.bool (stepB s)) ∧ Below w.heap.size w w' := by
  obtain ⟨x, y⟩ := s
  obtain ⟨W, hW, b0, hbW, hsW⟩ := boxes1 w [.int .i64 x, .int .i64 y] 44
  have q0 := b0.cell 0 _ rfl
  have q1 := b0.cell 1 _ rfl
  have HL : Hid (∀ (a b : Int) (u : World), Calls Tryz.prog 65 #[.int .i64 y, .int .i64 a, .int .i64 b] u fun e w' => e = .returned (.bool (inB y a b)) ∧ w' = u) := fun a b u => l1In_any y a b u
  clear b0 hsW
  simp only [stepB]
  by_cases h1 : x = 1
  · subst h1
    rw [if_pos rfl]
    have C := HL.out 0 9 W
    generalize inB y 0 9 = R at *
    clear HL
    go_enter Tryz.func64, Tryz.ntmps64
    go_upto_region 1 with fail
    rw [hW.out]
    clear hW
    go_wp2_with fail
    refine C.mono ?_
    rintro e w1 ⟨rfl, rfl⟩
    go_wp2
    go_ret
    exact ⟨rfl, hbW⟩
  rw [if_neg h1]
  have k1 : (x == 1) = false := by simpa using h1
  by_cases h2 : x = 2
  · subst h2
    rw [if_pos rfl]
    clear HL
    go_enter Tryz.func64, Tryz.ntmps64
    go_upto_region 1 with fail
    rw [hW.out]
    clear hW
    go_wp2
    go_ret
    exact ⟨rfl, hbW⟩
  rw [if_neg h2]
  have k2 : (x == 2) = false := by simpa using h2
  by_cases h3 : x = 3
  · subst h3
    rw [if_pos rfl]
    clear HL
    go_enter Tryz.func64, Tryz.ntmps64
    go_upto_region 1 with fail
    rw [hW.out]
    clear hW
    go_wp2
    go_ret
    exact ⟨rfl, hbW⟩
  rw [if_neg h3]
  have k3 : (x == 3) = false := by simpa using h3
  by_cases h4 : x = 4
  · subst h4
    rw [if_pos rfl]
    have C := HL.out 1 99 W
    generalize inB y 1 99 = R at *
    clear HL
    go_enter Tryz.func64, Tryz.ntmps64
    go_upto_region 1 with fail
    rw [hW.out]
    clear hW
    go_wp2_with fail
    refine C.mono ?_
    rintro e w1 ⟨rfl, rfl⟩
    go_wp2
    go_ret
    exact ⟨rfl, hbW⟩
  rw [if_neg h4]
  have k4 : (x == 4) = false := by simpa using h4
  by_cases h5 : x = 5
  · subst h5
    rw [if_pos rfl]
    have C := HL.out (-1000000) 1000000 W
    generalize inB y (-1000000) 1000000 = R at *
    clear HL
    go_enter Tryz.func64, Tryz.ntmps64
    go_upto_region 1 with fail
    rw [hW.out]
    clear hW
    go_wp2_with fail
    refine C.mono ?_
    rintro e w1 ⟨rfl, rfl⟩
    go_wp2
    go_ret
    exact ⟨rfl, hbW⟩
  rw [if_neg h5]
  have k5 : (x == 5) = false := by simpa using h5
  clear HL h1 h2 h3 h4 h5
  go_enter Tryz.func64, Tryz.ntmps64
  go_upto_region 1 with fail
  rw [hW.out]
  clear hW
  go_wp2
  go_ret
  exact ⟨rfl, hbW⟩

set_option maxHeartbeats 1000000 in
set_option maxRecDepth 100000 in
theorem specPathOk_any (x : Int) (T : List StepV) (a : Option Addr) (c : Nat) (w : World) (hr : ReadsPh w a T) (hl : T.length ≤ 1099511627776) :
    Calls Tryz.prog 37 #[.agg #[.int .i64 x, .slice a T.length c]] w fun e w' => e = .returned (.bool (pathB x T)) ∧ Below w.heap.size w w' := by
  obtain ⟨W, hW, b0, hbW, hsW⟩ := boxes1 w [.int .i64 x, .slice a T.length c] 27
  have HC : Hid (∀ u, Below W.heap.size W u → (u.cell? ⟨w.heap.size, 0, none⟩ = some (.int .i64 x) ∧ u.cell? ⟨w.heap.size, 1, none⟩ = some (.slice a T.length c)) ∧ ∀ k, k < T.length → ∃ b off, a = some ⟨b, off, none⟩ ∧ u.cell? ⟨b, off + k * 2, none⟩ = some (.int .i64 (T.getD k zeroPh).kd) ∧ u.cell? ⟨b, off + k * 2 + 1, none⟩ = some (.int .i64 (T.getD k zeroPh).num)) := fun u hu => by
    refine ⟨⟨(b0.below hu b0.lt).cell 0 _ rfl, (b0.below hu b0.lt).cell 1 _ rfl⟩, fun k hk => ?_⟩
    obtain ⟨b, off, ha, hc⟩ := ((hr.below hbW).below hu) (by intro e; rw [e] at hk; simp at hk)
    exact ⟨b, off, ha, hc k hk⟩
  have HHIT : Hid (∀ k, k < T.length → stepB (T.getD k zeroPh) = false → pathB x T = false) := fun k hk h => by unfold pathB; rw [all_hit (k := k) hk h]; rfl
  have HSTEP : Hid (∀ k, k < T.length → (T.take k).all stepB = true → stepB (T.getD k zeroPh) = true → (T.take (k + 1)).all stepB = true) := fun k hk h h1 => all_step hk h h1
  have HEND : Hid (∀ k, ¬ k < T.length → (T.take k).all stepB = true → pathB x T = (inB x 1 31 && decide (T.length ≤ 8))) := fun k hk h => by unfold pathB; rw [all_end hk h]; rfl
  have HL : Hid (∀ u, Calls Tryz.prog 65 #[.int .i64 x, .int .i64 1, .int .i64 31] u fun e w' => e = .returned (.bool (inB x 1 31)) ∧ w' = u) := fun u => l1In_any x 1 31 u
  clear hr b0 hsW
  generalize pathB x T = R at *
  generalize inB x 1 31 = I at *
  go_enter Tryz.func37, Tryz.ntmps37
  go_upto_region 1 with fail
  rw [hW.out]
  clear hW
  go_wp2_with fail
  go_loopw [3] (fun i wr => ∃ k : Nat, k ≤ T.length ∧ i = .int .i64 k ∧ Hid ((T.take k).all stepB = true) ∧ Below W.heap.size W wr) (fun i _ => T.length - (RowKit.intOf i).toNat)
  case atStart => exact ⟨0, Nat.zero_le _, rfl, (show (T.take 0).all stepB = true by simp), Below.refl _ _⟩
  case round =>
    obtain ⟨k, hk, rfl, hall, hbl⟩ := hrel
    obtain ⟨⟨p0, p1⟩, hst⟩ := HC.out wr hbl
    by_cases hlt : k < T.length
    · obtain ⟨b, off, rfl, c0, c1⟩ := hst k hlt
      have HH1 : Hid (stepB (T.getD k zeroPh) = false → R = false) := fun h => HHIT.out k hlt h
      have HH2 : Hid (stepB (T.getD k zeroPh) = true → (T.take (k + 1)).all stepB = true) := fun h => HSTEP.out k hlt hall.out h
      clear HC HHIT HSTEP HEND hall hst
      generalize T.getD k zeroPh = z at *
      have C := l12Step_any z wr
      generalize stepB z = zb at *
      cases zb with
      | false =>
        have HR : Hid (R = false) := HH1.out rfl
        clear HH1 HH2
        go_wp2_with fail
        refine C.mono ?_
        rintro e w1 ⟨rfl, hb1⟩
        go_wp2
        go_ret
        exact ⟨ret_bool HR.out.symm, hbW.trans ((hbl.trans (hb1.mono hbl.size)).mono hbW.size)⟩
      | true =>
        have HN : Hid ((T.take (k + 1)).all stepB = true) := HH2.out rfl
        clear HH1 HH2
        go_wp2_with fail
        refine C.mono ?_
        rintro e w1 ⟨rfl, hb1⟩
        have hB1 : Below W.heap.size W w1 := hbl.trans (hb1.mono hbl.size)
        clear C hb1 hbl c0 c1 p0 p1
        go_wp2_with fail
        go_roundw
        case rel => exact ⟨k + 1, by omega, by go_num, HN, hB1⟩
        case measure => simp [RowKit.intOf]; omega
    · have HR : Hid (R = (I && decide (T.length ≤ 8))) := HEND.out k hlt hall.out
      have hBw := hbW.trans (hbl.mono hbW.size)
      have CI := HL.out wr
      clear HC HHIT HSTEP HEND hall hst HL
      cases I with
      | false =>
        have HT : Hid (R = false) := HR.out
        clear HR
        go_wp2_with fail
        refine CI.mono ?_
        rintro e w1 ⟨rfl, rfl⟩
        go_wp2
        go_ret
        exact ⟨ret_bool HT.out.symm, hBw⟩
      | true =>
        have HT : Hid (decide ((T.length : Int) ≤ 8) = R) := by rw [Hid, HR.out, Bool.true_and]; exact decide_eq_decide.2 (by omega)
        clear HR
        go_wp2_with fail
        refine CI.mono ?_
        rintro e w1 ⟨rfl, rfl⟩
        go_wp2
        go_ret
        exact ⟨ret_bool HT.out, hBw⟩
end Go.Proofs.YtajcffchopcamaaGreatDoor

/- The text of a path; the walk of spec.PathText. -/
namespace Go.Proofs.YtajcffchopcamaaGreatDoor
open Go.RowKit

def stepText (s : StepV) : List Int := if s.kd = 1 then [46] ++ numText s.num else if s.kd = 2 then [46, 42] else if s.kd = 3 then [46, 42, 42] else if s.kd = 4 then ([91, 107, 61] ++ numText s.num) ++ [93] else ([91, 105, 62] ++ numText s.num) ++ [93]
/-- The text of the first k steps. -/
def pathTo (x : Int) (T : List StepV) (k : Nat) : List Int := numText x ++ (T.take k).flatMap stepText
def pathText (x : Int) (T : List StepV) : List Int := if pathB x T then pathTo x T T.length else []

theorem stepB_num {s : StepV} (h : stepB s = true) : -1000000000 ≤ s.num ∧ s.num ≤ 1000000000 := by
  unfold stepB at h
  repeat' split at h
  all_goals simp [inB] at h
  all_goals omega
theorem stepB_kd {s : StepV} (h : stepB s = true) : s.kd = 1 ∨ s.kd = 2 ∨ s.kd = 3 ∨ s.kd = 4 ∨ s.kd = 5 := by
  unfold stepB at h
  repeat' split at h
  all_goals simp [*] at h ⊢
theorem stepText_len {s : StepV} (h : stepB s = true) : (stepText s).length ≤ 15 := by
  have := num_len _ (stepB_num h)
  unfold stepText
  repeat' split
  all_goals simp
  all_goals omega
theorem pathTo_step (x : Int) (T : List StepV) {k : Nat} (hk : k < T.length) : pathTo x T (k + 1) = pathTo x T k ++ stepText (T.getD k zeroPh) := by
  have e : T.take (k + 1) = T.take k ++ [T.getD k zeroPh] := by rw [List.take_add_one]; simp [List.getD, hk]
  unfold pathTo
  rw [e, List.flatMap_append]
  simp
theorem pathB_info {x : Int} {T : List StepV} (h : pathB x T = true) : (-1000000000 ≤ x ∧ x ≤ 1000000000) ∧ T.length ≤ 8 ∧ ∀ k, k < T.length → stepB (T.getD k zeroPh) = true := by
  simp only [pathB, inB, Bool.and_eq_true, List.all_eq_true, decide_eq_true_eq] at h
  refine ⟨by omega, h.2.2, fun k hk => h.1 _ (by simp [List.getD, hk])⟩
theorem pathTo_len {x : Int} {T : List StepV} (h : pathB x T = true) (k : Nat) (hk : k ≤ T.length) : (pathTo x T k).length ≤ 11 + 15 * k := by
  obtain ⟨hx, _, hs⟩ := pathB_info h
  induction k with
  | zero => have := num_len x hx; simp [pathTo]; omega
  | succ k ih =>
    rw [pathTo_step x T hk, List.length_append]
    have := ih (by omega)
    have := stepText_len (hs k hk)
    omega

end Go.Proofs.YtajcffchopcamaaGreatDoor

/- What comes of a path in a view: plain mathematics. -/
namespace Go.Proofs.YtajcffchopcamaaGreatDoor

theorem reachL_in {S : List Bool} (hS : S.length = 32) (k : Int) : k ∈ reachL S ↔ (0 ≤ k ∧ metM S k = true) := by
  unfold reachL
  rw [List.mem_filter, List.mem_map]
  constructor
  · rintro ⟨⟨i, _, rfl⟩, h⟩
    exact ⟨by omega, h⟩
  · rintro ⟨h1, h2⟩
    refine ⟨⟨k.toNat, List.mem_range.2 ?_, by omega⟩, h2⟩
    rcases Nat.lt_or_ge k.toNat 32 with h | h
    · exact h
    · rw [metM_out hS (by omega)] at h2; cases h2
def kindM (vs : List SlotV) (i : Int) : Int := (vs.getD i.toNat noS).o.kind
def intsM (vs : List SlotV) (i : Int) : List Int := (vs.getD i.toNat noS).o.ints
def overB (n : Int) (l : List Int) : Bool := l.any (fun i => decide (n < i))
/-- What comes of one object by a step. -/
def comesL (vs : List SlotV) (s : StepV) (k : Int) : List Int :=
  if s.kd = 1 then (if s.num.toNat < (refsM vs k).length then [(refsM vs k).getD s.num.toNat 0].filter (hasM vs) else [])
  else if s.kd = 2 then (refsM vs k).filter (hasM vs)
  else if s.kd = 3 then reachL (runM vs 40 k).met
  else if s.kd = 4 then (if kindM vs k = s.num then [k] else [])
  else (if overB s.num (intsM vs k) = true then [k] else [])
def setAll (A : List Bool) (l : List Int) : List Bool := l.foldl (fun A x => A.set x.toNat true) A
def comesS (vs : List SlotV) (s : StepV) (A : List Bool) (k : Int) : List Bool := setAll A (comesL vs s k)
def noneS : List Bool := List.replicate 32 false
def nextS (vs : List SlotV) (s : StepV) (S : List Bool) : List Bool := (reachL S).foldl (comesS vs s) noneS
def startS (vs : List SlotV) (x : Int) : List Bool := noneS.set x.toNat (hasM vs x)
/-- The marks behind the first n steps. -/
def evalTo (vs : List SlotV) (x : Int) (T : List StepV) (n : Nat) : List Bool := (T.take n).foldl (fun S s => nextS vs s S) (startS vs x)
def evalV (vs : List SlotV) (x : Int) (T : List StepV) : List Int := if (viewB vs && pathB x T) = true then reachL (evalTo vs x T T.length) else []

theorem comes_1 (vs : List SlotV) (n : Int) (k : Int) : comesL vs ⟨1, n⟩ k = if n.toNat < (refsM vs k).length then [(refsM vs k).getD n.toNat 0].filter (hasM vs) else [] := by simp only [comesL]; rw [if_pos trivial]
theorem comes_2 (vs : List SlotV) (n : Int) (k : Int) : comesL vs ⟨2, n⟩ k = (refsM vs k).filter (hasM vs) := by simp only [comesL]; rw [if_neg (by decide), if_pos trivial]
theorem comes_3 (vs : List SlotV) (n : Int) (k : Int) : comesL vs ⟨3, n⟩ k = reachL (runM vs 40 k).met := by simp only [comesL]; rw [if_neg (by decide), if_neg (by decide), if_pos trivial]
theorem comes_4 (vs : List SlotV) (n : Int) (k : Int) : comesL vs ⟨4, n⟩ k = if kindM vs k = n then [k] else [] := by simp only [comesL]; rw [if_neg (by decide), if_neg (by decide), if_neg (by decide), if_pos trivial]
theorem comes_5 (vs : List SlotV) (n : Int) (k : Int) : comesL vs ⟨5, n⟩ k = if overB n (intsM vs k) = true then [k] else [] := by simp only [comesL]; rw [if_neg (by decide), if_neg (by decide), if_neg (by decide), if_neg (by decide)]
theorem setAll_nil (A : List Bool) : setAll A [] = A := rfl
theorem setAll_one (A : List Bool) (k : Nat) : setAll A [(k : Int)] = A.set k true := by simp [setAll]
theorem setAll_len (l : List Int) : ∀ A : List Bool, (setAll A l).length = A.length := by
  induction l with
  | nil => intro A; rfl
  | cons x l ih => intro A; rw [setAll, List.foldl_cons]; have := ih (A.set x.toNat true); rw [setAll] at this; rw [this]; simp
theorem comesS_len (vs : List SlotV) (s : StepV) (A : List Bool) (k : Int) : (comesS vs s A k).length = A.length := setAll_len _ A
theorem foldS_len (vs : List SlotV) (s : StepV) (l : List Int) : ∀ A : List Bool, (l.foldl (comesS vs s) A).length = A.length := by
  induction l with
  | nil => intro A; rfl
  | cons x l ih => intro A; rw [List.foldl_cons, ih, comesS_len]
theorem noneS_len : noneS.length = 32 := by simp [noneS]
theorem nextS_len (vs : List SlotV) (s : StepV) (S : List Bool) : (nextS vs s S).length = 32 := by rw [nextS, foldS_len, noneS_len]
theorem startS_len (vs : List SlotV) (x : Int) : (startS vs x).length = 32 := by rw [startS, List.length_set, noneS_len]
theorem evalTo_step (vs : List SlotV) (x : Int) (T : List StepV) {n : Nat} (hn : n < T.length) : evalTo vs x T (n + 1) = nextS vs (T.getD n zeroPh) (evalTo vs x T n) := by
  have e : T.take (n + 1) = T.take n ++ [T.getD n zeroPh] := by rw [List.take_add_one]; simp [List.getD, hn]
  unfold evalTo
  rw [e, List.foldl_append]
  rfl
theorem evalTo_len (vs : List SlotV) (x : Int) (T : List StepV) (n : Nat) : (evalTo vs x T n).length = 32 := by
  unfold evalTo
  generalize T.take n = l
  have : ∀ S : List Bool, S.length = 32 → (l.foldl (fun S s => nextS vs s S) S).length = 32 := by
    induction l with
    | nil => intro S h; exact h
    | cons s l ih => intro S h; rw [List.foldl_cons]; exact ih _ (nextS_len vs s S)
  exact this _ (startS_len vs x)

theorem pathB_from' {x : Int} {T : List StepV} (h : pathB x T = true) : 1 ≤ x ∧ x ≤ 31 := by
  simp only [pathB, inB, Bool.and_eq_true, decide_eq_true_eq] at h
  exact h.2.1

/-- Marks of what is there, reached from the root. -/
structure GoodS (vs : List SlotV) (root : Int) (S : List Bool) : Prop where
  len : S.length = 32
  rch : ∀ k, 0 ≤ k → metM S k = true → ReachM vs root k
theorem metM_none (i : Int) : metM noneS i = false := by
  unfold metM noneS
  rw [List.getD_eq_getElem?_getD, List.getElem?_replicate]
  split <;> rfl
theorem reachM_trans {vs : List SlotV} {a b c : Int} (h : ReachM vs a b) (g : ReachM vs b c) : ReachM vs a c := by
  induction g with
  | root _ => exact h
  | step _ h2 h3 ih => exact .step ih h2 h3
theorem comesL_rch {vs : List SlotV} (hv : RngM vs) {root : Int} {s : StepV} {k : Int} (hk : 0 ≤ k ∧ k ≤ 31) (h : ReachM vs root k) : ∀ x ∈ comesL vs s k, (0 ≤ x ∧ x ≤ 31) ∧ ReachM vs root x := by
  intro x hx
  unfold comesL at hx
  split at hx
  · split at hx
    · obtain ⟨h1, h2⟩ := List.mem_filter.1 hx
      rename_i hlt
      simp only [List.mem_singleton] at h1
      have hm : x ∈ refsM vs k := by
        rw [h1]
        simp [List.getD, hlt]
      exact ⟨hv _ _ hm, .step h hm h2⟩
    · cases hx
  split at hx
  · obtain ⟨h1, h2⟩ := List.mem_filter.1 hx
    exact ⟨hv _ _ h1, .step h h1 h2⟩
  split at hx
  · obtain ⟨hl, _, hi⟩ := runM_reach hv (most := 40) (by omega) (by omega) hk
    obtain ⟨h1, h2⟩ := (reachL_in hl x).1 hx
    have h3 := (hi x h1).1 h2
    exact ⟨ReachM.rng hv hk h3, reachM_trans h h3⟩
  split at hx
  · split at hx
    · simp only [List.mem_singleton] at hx; subst hx; exact ⟨hk, h⟩
    · cases hx
  · split at hx
    · simp only [List.mem_singleton] at hx; subst hx; exact ⟨hk, h⟩
    · cases hx
theorem setAll_good {vs : List SlotV} {root : Int} (l : List Int) (hl : ∀ x ∈ l, (0 ≤ x ∧ x ≤ 31) ∧ ReachM vs root x) : ∀ {A : List Bool}, GoodS vs root A → GoodS vs root (setAll A l) := by
  induction l with
  | nil => intro A h; exact h
  | cons x l ih =>
    intro A h
    refine ih (fun y hy => hl y (List.mem_cons_of_mem _ hy)) (A := A.set x.toNat true) ⟨by rw [List.length_set]; exact h.len, fun k hk hm => ?_⟩
    obtain ⟨h1, h2⟩ := hl x List.mem_cons_self
    rw [metM_set h.len h1 hk] at hm
    simp only [Bool.or_eq_true, decide_eq_true_eq] at hm
    rcases hm with hm | rfl
    · exact h.rch k hk hm
    · exact h2
theorem foldS_good {vs : List SlotV} (hv : RngM vs) {root : Int} {s : StepV} (l : List Int) (hl : ∀ x ∈ l, (0 ≤ x ∧ x ≤ 31) ∧ ReachM vs root x) : ∀ {A : List Bool}, GoodS vs root A → GoodS vs root (l.foldl (comesS vs s) A) := by
  induction l with
  | nil => intro A h; exact h
  | cons x l ih =>
    intro A h
    obtain ⟨h1, h2⟩ := hl x List.mem_cons_self
    exact ih (fun y hy => hl y (List.mem_cons_of_mem _ hy)) (setAll_good _ (comesL_rch hv h1 h2) h)
theorem noneS_good (vs : List SlotV) (root : Int) : GoodS vs root noneS := ⟨noneS_len, fun k _ hm => by rw [metM_none] at hm; cases hm⟩
theorem GoodS.mem {vs : List SlotV} {root : Int} {S : List Bool} (h : GoodS vs root S) : ∀ x ∈ reachL S, (0 ≤ x ∧ x ≤ 31) ∧ ReachM vs root x := by
  intro x hx
  obtain ⟨h1, h2⟩ := (reachL_in h.len x).1 hx
  have h3 : x < 32 := by
    rcases Int.lt_or_le x 32 with g | g
    · exact g
    · rw [metM_out h.len g] at h2; cases h2
  exact ⟨by omega, h.rch x h1 h2⟩
theorem nextS_good {vs : List SlotV} (hv : RngM vs) {root : Int} {s : StepV} {S : List Bool} (h : GoodS vs root S) : GoodS vs root (nextS vs s S) := foldS_good hv _ h.mem (noneS_good vs root)
theorem startS_good {vs : List SlotV} {x : Int} (hx : 1 ≤ x ∧ x ≤ 31) : GoodS vs x (startS vs x) := by
  refine ⟨startS_len vs x, fun k hk hm => ?_⟩
  unfold startS at hm
  cases hh : hasM vs x with
  | true =>
    rw [hh, metM_set noneS_len (by omega) hk, metM_none] at hm
    simp only [Bool.false_or, decide_eq_true_eq] at hm
    subst hm
    exact .root hh
  | false =>
    rw [hh] at hm
    have e : metM (noneS.set x.toNat false) k = false := by
      unfold metM noneS
      rw [List.getD_eq_getElem?_getD, List.getElem?_set, List.getElem?_replicate]
      repeat' split
      all_goals rfl
    rw [e] at hm
    cases hm
theorem evalTo_good {vs : List SlotV} (hv : RngM vs) {x : Int} (hx : 1 ≤ x ∧ x ≤ 31) (T : List StepV) (n : Nat) : GoodS vs x (evalTo vs x T n) := by
  unfold evalTo
  generalize T.take n = l
  have : ∀ {S : List Bool}, GoodS vs x S → GoodS vs x (l.foldl (fun S s => nextS vs s S) S) := by
    induction l with
    | nil => intro S h; exact h
    | cons s l ih => intro S h; exact ih (nextS_good hv h)
  exact this (startS_good hx)
end Go.Proofs.YtajcffchopcamaaGreatDoor
