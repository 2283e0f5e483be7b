/- Several texts in one, in their order. -/
import Derived.Test.YtajcffchopcamaaGreatDoorPEvalx3
import Derived.ProofKit
import Derived.OpenShut
import Derived.ChangeOld
import Derived.Test.YtajcffchopcamaaGreatDoorPEvalx7
import Derived.Deep.Cut
import Derived.Test.YtajcffchopcamaaGreatDoorPEvalx8
import Derived.Test.YtajcffchopcamaaGreatDoorPEvalx9
/- What came in, read: a slice of numbers, an object. -/
namespace Go.Proofs.YtajcffchopcamaaGreatDoor
open Go.ChangeShapes Go.WideShapes Go.ChangeAt Go.RowKit

def InI64 (z : Int) : Prop := -9223372036854775808 ≤ z ∧ z ≤ 9223372036854775807
theorem wf_i64 {z : Int} (h : (Lit.int .i64 z).wf = true) : InI64 z := by
  simp [Lit.wf, IntKind.min, IntKind.max, IntKind.signed, IntKind.bits] at h
  unfold InI64; omega

theorem some_at {α : Type} (xs : List α) (i : Nat) (h : i < xs.length) : ∃ y, xs[i]? = some y := ⟨_, List.getElem?_eq_getElem h⟩

section
variable {H : Type} {enc : TypeId × Value → H} {w : World} {base : Nat} {spare : Nat → Bool} {held : Bool}

theorem trod_ints {fuel : Nat} {cs : List Value} {x : DataW H × List MemPlace} (h : DataW.trod enc Tryz.prog w base spare held fuel 33 cs = some x) :
    ∃ (a : Option Addr) (c : Nat) (ns : List Int), cs = [.slice a ns.length c] ∧ ReadsI w a ns ∧ (a = none → c = 0) ∧ ns.length ≤ maxLen ∧ ∀ z ∈ ns, InI64 z := by
  rcases open_ints Tryz.underlying33 Tryz.underlying3 (by kernel_rfl) h with ⟨rfl, _⟩ | ⟨a, len, cap, zs, rfl, _, hl, hm, hz, _, hcell, hwf⟩
  · exact ⟨none, 0, [], rfl, fun h => absurd rfl h, fun _ => rfl, by simp, by simp⟩
  · have hlz : len ≤ zs.length := by rw [hz]; split <;> omega
    refine ⟨some a, cap, zs.take len, by simp; omega, ?_, (fun h => by cases h), by simp; omega, fun z hzz => wf_i64 (hwf z (List.mem_of_mem_take hzz))⟩
    intro hne
    have hpos := List.length_pos_iff.2 hne
    simp at hpos
    obtain ⟨b, off, spot⟩ := a
    have hc0 := hcell 0 (by omega)
    have hspot : spot = none := by simpa [Addr.add] using World.cell?_spot hc0
    subst hspot
    refine ⟨b, off, rfl, fun i hi => ?_⟩
    have hi' : i < len := by simp at hi; omega
    have := hcell i (by omega)
    have e : (List.take len zs).getD i 0 = zs.getD i 0 := by simp [List.getD, hi']
    rw [e, ← Addr_add]
    exact this

theorem trod_num {fuel : Nat} {cs : List Value} {x : DataW H × List MemPlace} (h : DataW.trod enc Tryz.prog w base spare held fuel 3 cs = some x) : ∃ n : Int, cs = [.int .i64 n] ∧ InI64 n := by
  obtain ⟨n, rfl, _, hw⟩ := DataW.trod_int Tryz.underlying3 h
  exact ⟨n, rfl, wf_i64 hw⟩

theorem Tryz.cellsI : Tryz.prog.cellsOf 3 = 1 := by kernel_rfl
theorem Tryz.cellsIs : Tryz.prog.cellsOf 33 = 1 := by kernel_rfl
theorem Tryz.cellsO : Tryz.prog.cellsOf 82 = 3 := by kernel_rfl

set_option maxRecDepth 100000 in
theorem trod_obj {fuel : Nat} {cs : List Value} {x : DataW H × List MemPlace} (h : DataW.trod enc Tryz.prog w base spare held fuel 82 cs = some x) :
    ∃ (o : ObjV) (aI : Option Addr) (cI : Nat) (aR : Option Addr) (cR : Nat), cs = [.int .i64 o.kind, .slice aI o.ints.length cI, .slice aR o.refs.length cR] ∧ ReadsO w aI cI aR cR o ∧ o.ints.length ≤ maxLen ∧ o.refs.length ≤ maxLen ∧ InI64 o.kind ∧ (∀ z ∈ o.ints, InI64 z) ∧ (∀ z ∈ o.refs, InI64 z) := by
  obtain ⟨xs, n, _, _, hlen, hxl, hf⟩ := DataW.trod_struct Tryz.underlying82 h
  rw [Tryz.cellsO] at hlen
  match cs, hlen with
  | [v0, v1, v2], _ =>
    have f0 := hf 0 _ rfl
    have f1 := hf 1 _ rfl
    have f2 := hf 2 _ rfl
    obtain ⟨y0, hx0⟩ := some_at xs 0 (by rw [hxl]; decide)
    obtain ⟨y1, hx1⟩ := some_at xs 1 (by rw [hxl]; decide)
    obtain ⟨y2, hx2⟩ := some_at xs 2 (by rw [hxl]; decide)
    rw [hx0] at f0
    rw [hx1] at f1
    rw [hx2] at f2
    simp only [List.getElem_toArray, List.getElem_cons_zero, List.getElem_cons_succ, Tryz.cellsI, Tryz.cellsIs, List.drop, List.take] at f0 f1 f2
    obtain ⟨k, e0, wk⟩ := trod_num f0
    obtain ⟨aI, cI, ints, e1, hI, nI, lI, wI⟩ := trod_ints f1
    obtain ⟨aR, cR, refs, e2, hR, nR, lR, wR⟩ := trod_ints f2
    simp only [List.cons.injEq, and_true] at e0 e1 e2
    subst e0 e1 e2
    exact ⟨⟨k, ints, refs⟩, aI, cI, aR, cR, rfl, ⟨hI, hR, nI, nR⟩, lI, lR, wk, wI, wR⟩

end
end Go.Proofs.YtajcffchopcamaaGreatDoor

/- Paths: what they are, what came in, and laws.toPath, szPath, eqPath, markPath, heldPath. -/
namespace Go.Proofs.YtajcffchopcamaaGreatDoor
open Go.RowKit Go.ChangeShapes Go.WideShapes Go.ChangeAt

structure PathA where
  frm : Int
  steps : List StepV
  a : Option Addr
  c : Nat
def PathA.val (p : PathA) : Value := .agg #[.int .i64 p.frm, .slice p.a p.steps.length p.c]

set_option maxHeartbeats 1000000 in
set_option maxRecDepth 100000 in
theorem toPath_own (p : PathA) (w : World) (hr : ReadsPh w p.a p.steps) (hl : p.steps.length ≤ 1099511627776) :
    Calls Tryz.prog 18 #[.agg #[.int .i64 p.frm, .slice p.a p.steps.length p.c]] w fun e w' => ∃ a1 c1, e = .returned (.agg #[.int .i64 p.frm, .slice a1 p.steps.length c1]) ∧
      OwnPh w' w.heap.size w'.heap.size a1 c1 p.steps ∧ Below w.heap.size w w' := by
  obtain ⟨x, T, a, c⟩ := p
  simp only at *
  obtain ⟨W, hW, b0, b1, b2, hbW, hsW⟩ := boxes3 w [.int .i64 x, .slice a T.length c] [.int .i64 0, .slice none 0 0] [.int .i64 0, .slice none 0 0] 48 27 27
  have c0 := b0.cell 0 _ rfl
  have d0 := b2.cell 0 _ rfl
  have e0 := b2.frozen 0
  obtain ⟨W2, hW2, b2s, hw2, hs2⟩ := box_set b2 0 (.int .i64 x)
  simp only [List.set] at b2s
  have b02 := b0.within hw2 (by omega)
  have b12 := b1.within hw2 (by omega)
  have c1 := b02.cell 1 _ rfl
  have hWb : Below w.heap.size w W2 := hbW.trans (hw2.below (by omega) (by omega))
  have C := toPathStepS_any a c T W2 (hr.below hWb) hl
  go_enter Tryz.func18, Tryz.ntmps18
  go_upto_region 2 with fail
  rw [hW.out]
  clear hW
  go_upto_region 3 with fail
  rw [hW2.out]
  clear hW2 c0 d0 e0
  go_wp2_with fail
  refine C.mono ?_
  clear C
  rintro e w1 ⟨a1, cc1, rfl, ho1, hb1⟩
  have b0' := b02.below hb1 b02.lt
  have b1' := b12.below hb1 b12.lt
  have b2' := b2s.below hb1 b2s.lt
  have g1 := b2'.cell 1 _ rfl
  have h1 := b2'.frozen 1
  have bS := b2'.set 1 (.slice a1 T.length cc1)
  have bT := b1'.other (C := w.heap.size + 1 + 1) (i := 1) (v := .slice a1 T.length cc1) (by omega)
  simp only [List.set] at bS
  have s0 := bS.cell 0 _ rfl
  have s1 := bS.cell 1 _ rfl
  have t0 := bT.cell 0 _ rfl
  have t1 := bT.cell 1 _ rfl
  have u0 := bT.frozen 0
  have u1 := bT.frozen 1
  have bF := (bT.set 0 (.int .i64 x)).set 1 (.slice a1 T.length cc1)
  simp only [List.set] at bF
  have hwF : Within (w.heap.size + 1) (w.heap.size + 3) w1 _ := ((within_set w1 (w.heap.size + 1 + 1) 1 (.slice a1 T.length cc1) (by omega)).trans (within_set _ (w.heap.size + 1) 0 (.int .i64 x) (by omega))).trans (within_set _ (w.heap.size + 1) 1 (.slice a1 T.length cc1) (by omega))
  have HF : Hid (_ ∧ _ ∧ _) := ⟨bF.cell 0 _ rfl, bF.cell 1 _ rfl, hwF⟩
  clear bF hwF
  go_wp2
  obtain ⟨f0, f1, hwF⟩ := HF.out
  generalize ((w1.setCell ⟨w.heap.size + 1 + 1, 1, none⟩ (.slice a1 T.length cc1)).setCell ⟨w.heap.size + 1, 0, none⟩ (.int .i64 x)).setCell ⟨w.heap.size + 1, 1, none⟩ (.slice a1 T.length cc1) = WF at *
  have hs1 := hb1.size
  have hsF := hwF.size
  refine bodyPost_ret (v := .agg #[.int .i64 x, .slice a1 T.length cc1]) (by simp [results, Tryz.results18, go_sem, f0, f1]) rfl ⟨a1, cc1, rfl, (ho1.within hwF (.inr (by omega))).widen (by omega) (by omega) (Nat.le_refl _), (hWb.trans (hb1.mono (by omega))).trans (hwF.below (by omega) (by omega))⟩

set_option maxHeartbeats 1000000 in
set_option maxRecDepth 100000 in
theorem eqPath_same (x : Int) (T : List StepV) (a1 a2 : Option Addr) (c1 c2 : Nat) (w : World) (h1 : ReadsPh w a1 T) (h2 : ReadsPh w a2 T) (hl : T.length ≤ 1099511627776) :
    Calls Tryz.prog 21 #[.agg #[.int .i64 x, .slice a1 T.length c1], .agg #[.int .i64 x, .slice a2 T.length c2]] w fun e w' => e = .returned (.bool true) ∧ Below w.heap.size w w' := by
  obtain ⟨W, hW, b0, b1, hbW, hsW⟩ := boxes2 w [.int .i64 x, .slice a1 T.length c1] [.int .i64 x, .slice a2 T.length c2] 27 27
  have x0 := b0.cell 0 _ rfl
  have x1 := b0.cell 1 _ rfl
  have y0 := b1.cell 0 _ rfl
  have y1 := b1.cell 1 _ rfl
  have C := eqPathStepS_same a1 a2 c1 c2 T W (h1.below hbW) (h2.below hbW) hl
  clear b0 b1 hsW
  go_enter Tryz.func21, Tryz.ntmps21
  go_upto_region 1 with fail
  rw [hW.out]
  clear hW
  go_wp2_with fail
  refine C.mono ?_
  rintro e w1 ⟨rfl, hb1⟩
  go_wp2
  go_ret
  exact ⟨rfl, hbW.trans (hb1.mono hbW.size)⟩
end Go.Proofs.YtajcffchopcamaaGreatDoor

/- Paths that are right; the walk of spec.PathOk. -/
namespace Go.Proofs.YtajcffchopcamaaGreatDoor
open Go.RowKit

def stepB (s : StepV) : Bool := if s.kd = 1 then inB s.num 0 9 else if s.kd = 2 then s.num == 0 else if s.kd = 3 then s.num == 0 else if s.kd = 4 then inB s.num 1 99 else if s.kd = 5 then inB s.num (-1000000) 1000000 else false
def pathB (x : Int) (T : List StepV) : Bool := T.all stepB && (inB x 1 31 && decide (T.length ≤ 8))

set_option maxHeartbeats 1000000 in
set_option maxRecDepth 100000 in
theorem l12Step_any (s : StepV) (w : World) :
    Calls Tryz.prog 64 #[.agg #[.int .i64 s.kd, .int .i64 s.num]] w fun e w' => e = .returned (.bool (stepB s)) ∧ Below w.heap.size w w' := by
  obtain ⟨x, y⟩ := s
  obtain ⟨W, hW, b0, hbW, hsW⟩ := boxes1 w [.int .i64 x, .int .i64 y] 44
  have q0 := b0.cell 0 _ rfl
  have q1 := b0.cell 1 _ rfl
  have HL : Hid (∀ (a b : Int) (u : World), Calls Tryz.prog 65 #[.int .i64 y, .int .i64 a, .int .i64 b] u fun e w' => e = .returned (.bool (inB y a b)) ∧ w' = u) := fun a b u => l1In_any y a b u
  clear b0 hsW
  simp only [stepB]
  by_cases h1 : x = 1
  · subst h1
    rw [if_pos rfl]
    have C := HL.out 0 9 W
    generalize inB y 0 9 = R at *
    clear HL
    go_enter Tryz.func64, Tryz.ntmps64
    go_upto_region 1 with fail
    rw [hW.out]
    clear hW
    go_wp2_with fail
    refine C.mono ?_
    rintro e w1 ⟨rfl, rfl⟩
    go_wp2
    go_ret
    exact ⟨rfl, hbW⟩
  rw [if_neg h1]
  have k1 : (x == 1) = false := by simpa using h1
  by_cases h2 : x = 2
  · subst h2
    rw [if_pos rfl]
    clear HL
    go_enter Tryz.func64, Tryz.ntmps64
    go_upto_region 1 with fail
    rw [hW.out]
    clear hW
    go_wp2
    go_ret
    exact ⟨rfl, hbW⟩
  rw [if_neg h2]
  have k2 : (x == 2) = false := by simpa using h2
  by_cases h3 : x = 3
  · subst h3
    rw [if_pos rfl]
    clear HL
    go_enter Tryz.func64, Tryz.ntmps64
    go_upto_region 1 with fail
    rw [hW.out]
    clear hW
    go_wp2
    go_ret
    exact ⟨rfl, hbW⟩
  rw [if_neg h3]
  have k3 : (x == 3) = false := by simpa using h3
  by_cases h4 : x = 4
  · subst h4
    rw [if_pos rfl]
    have C := HL.out 1 99 W
    generalize inB y 1 99 = R at *
    clear HL
    go_enter Tryz.func64, Tryz.ntmps64
    go_upto_region 1 with fail
    rw [hW.out]
    clear hW
    go_wp2_with fail
    refine C.mono ?_
    rintro e w1 ⟨rfl, rfl⟩
    go_wp2
    go_ret
    exact ⟨rfl, hbW⟩
  rw [if_neg h4]
  have k4 : (x == 4) = false := by simpa using h4
  by_cases h5 : x = 5
  · subst h5
    rw [if_pos rfl]
    have C := HL.out (-1000000) 1000000 W
    generalize inB y (-1000000) 1000000 = R at *
    clear HL
    go_enter Tryz.func64, Tryz.ntmps64
    go_upto_region 1 with fail
    rw [hW.out]
    clear hW
    go_wp2_with fail
    refine C.mono ?_
    rintro e w1 ⟨rfl, rfl⟩
    go_wp2
    go_ret
    exact ⟨rfl, hbW⟩
  rw [if_neg h5]
  have k5 : (x == 5) = false := by simpa using h5
  clear HL h1 h2 h3 h4 h5
  go_enter Tryz.func64, Tryz.ntmps64
  go_upto_region 1 with fail
  rw [hW.out]
  clear hW
  go_wp2
  go_ret
  exact ⟨rfl, hbW⟩

set_option maxHeartbeats 1000000 in
set_option maxRecDepth 100000 in
theorem specPathOk_any (x : Int) (T : List StepV) (a : Option Addr) (c : Nat) (w : World) (hr : ReadsPh w a T) (hl : T.length ≤ 1099511627776) :
    Calls Tryz.prog 37 #[.agg #[.int .i64 x, .slice a T.length c]] w fun e w' => e = .returned (.bool (pathB x T)) ∧ Below w.heap.size w w' := by
  obtain ⟨W, hW, b0, hbW, hsW⟩ := boxes1 w [.int .i64 x, .slice a T.length c] 27
  have HC : Hid (∀ u, Below W.heap.size W u → (u.cell? ⟨w.heap.size, 0, none⟩ = some (.int .i64 x) ∧ u.cell? ⟨w.heap.size, 1, none⟩ = some (.slice a T.length c)) ∧ ∀ k, k < T.length → ∃ b off, a = some ⟨b, off, none⟩ ∧ u.cell? ⟨b, off + k * 2, none⟩ = some (.int .i64 (T.getD k zeroPh).kd) ∧ u.cell? ⟨b, off + k * 2 + 1, none⟩ = some (.int .i64 (T.getD k zeroPh).num)) := fun u hu => by
    refine ⟨⟨(b0.below hu b0.lt).cell 0 _ rfl, (b0.below hu b0.lt).cell 1 _ rfl⟩, fun k hk => ?_⟩
    obtain ⟨b, off, ha, hc⟩ := ((hr.below hbW).below hu) (by intro e; rw [e] at hk; simp at hk)
    exact ⟨b, off, ha, hc k hk⟩
  have HHIT : Hid (∀ k, k < T.length → stepB (T.getD k zeroPh) = false → pathB x T = false) := fun k hk h => by unfold pathB; rw [all_hit (k := k) hk h]; rfl
  have HSTEP : Hid (∀ k, k < T.length → (T.take k).all stepB = true → stepB (T.getD k zeroPh) = true → (T.take (k + 1)).all stepB = true) := fun k hk h h1 => all_step hk h h1
  have HEND : Hid (∀ k, ¬ k < T.length → (T.take k).all stepB = true → pathB x T = (inB x 1 31 && decide (T.length ≤ 8))) := fun k hk h => by unfold pathB; rw [all_end hk h]; rfl
  have HL : Hid (∀ u, Calls Tryz.prog 65 #[.int .i64 x, .int .i64 1, .int .i64 31] u fun e w' => e = .returned (.bool (inB x 1 31)) ∧ w' = u) := fun u => l1In_any x 1 31 u
  clear hr b0 hsW
  generalize pathB x T = R at *
  generalize inB x 1 31 = I at *
  go_enter Tryz.func37, Tryz.ntmps37
  go_upto_region 1 with fail
  rw [hW.out]
  clear hW
  go_wp2_with fail
  go_loopw [3] (fun i wr => ∃ k : Nat, k ≤ T.length ∧ i = .int .i64 k ∧ Hid ((T.take k).all stepB = true) ∧ Below W.heap.size W wr) (fun i _ => T.length - (RowKit.intOf i).toNat)
  case atStart => exact ⟨0, Nat.zero_le _, rfl, (show (T.take 0).all stepB = true by simp), Below.refl _ _⟩
  case round =>
    obtain ⟨k, hk, rfl, hall, hbl⟩ := hrel
    obtain ⟨⟨p0, p1⟩, hst⟩ := HC.out wr hbl
    by_cases hlt : k < T.length
    · obtain ⟨b, off, rfl, c0, c1⟩ := hst k hlt
      have HH1 : Hid (stepB (T.getD k zeroPh) = false → R = false) := fun h => HHIT.out k hlt h
      have HH2 : Hid (stepB (T.getD k zeroPh) = true → (T.take (k + 1)).all stepB = true) := fun h => HSTEP.out k hlt hall.out h
      clear HC HHIT HSTEP HEND hall hst
      generalize T.getD k zeroPh = z at *
      have C := l12Step_any z wr
      generalize stepB z = zb at *
      cases zb with
      | false =>
        have HR : Hid (R = false) := HH1.out rfl
        clear HH1 HH2
        go_wp2_with fail
        refine C.mono ?_
        rintro e w1 ⟨rfl, hb1⟩
        go_wp2
        go_ret
        exact ⟨ret_bool HR.out.symm, hbW.trans ((hbl.trans (hb1.mono hbl.size)).mono hbW.size)⟩
      | true =>
        have HN : Hid ((T.take (k + 1)).all stepB = true) := HH2.out rfl
        clear HH1 HH2
        go_wp2_with fail
        refine C.mono ?_
        rintro e w1 ⟨rfl, hb1⟩
        have hB1 : Below W.heap.size W w1 := hbl.trans (hb1.mono hbl.size)
        clear C hb1 hbl c0 c1 p0 p1
        go_wp2_with fail
        go_roundw
        case rel => exact ⟨k + 1, by omega, by go_num, HN, hB1⟩
        case measure => simp [RowKit.intOf]; omega
    · have HR : Hid (R = (I && decide (T.length ≤ 8))) := HEND.out k hlt hall.out
      have hBw := hbW.trans (hbl.mono hbW.size)
      have CI := HL.out wr
      clear HC HHIT HSTEP HEND hall hst HL
      cases I with
      | false =>
        have HT : Hid (R = false) := HR.out
        clear HR
        go_wp2_with fail
        refine CI.mono ?_
        rintro e w1 ⟨rfl, rfl⟩
        go_wp2
        go_ret
        exact ⟨ret_bool HT.out.symm, hBw⟩
      | true =>
        have HT : Hid (decide ((T.length : Int) ≤ 8) = R) := by rw [Hid, HR.out, Bool.true_and]; exact decide_eq_decide.2 (by omega)
        clear HR
        go_wp2_with fail
        refine CI.mono ?_
        rintro e w1 ⟨rfl, rfl⟩
        go_wp2
        go_ret
        exact ⟨ret_bool HT.out, hBw⟩
end Go.Proofs.YtajcffchopcamaaGreatDoor

/- The text of a path; the walk of spec.PathText. -/
namespace Go.Proofs.YtajcffchopcamaaGreatDoor
open Go.RowKit

theorem stepB_num {s : StepV} (h : stepB s = true) : -1000000000 ≤ s.num ∧ s.num ≤ 1000000000 := by
  unfold stepB at h
  repeat' split at h
  all_goals simp [inB] at h
  all_goals omega
theorem stepB_kd {s : StepV} (h : stepB s = true) : s.kd = 1 ∨ s.kd = 2 ∨ s.kd = 3 ∨ s.kd = 4 ∨ s.kd = 5 := by
  unfold stepB at h
  repeat' split at h
  all_goals simp [*] at h ⊢
theorem pathB_info {x : Int} {T : List StepV} (h : pathB x T = true) : (-1000000000 ≤ x ∧ x ≤ 1000000000) ∧ T.length ≤ 8 ∧ ∀ k, k < T.length → stepB (T.getD k zeroPh) = true := by
  simp only [pathB, inB, Bool.and_eq_true, List.all_eq_true, decide_eq_true_eq] at h
  refine ⟨by omega, h.2.2, fun k hk => h.1 _ (by simp [List.getD, hk])⟩
end Go.Proofs.YtajcffchopcamaaGreatDoor
