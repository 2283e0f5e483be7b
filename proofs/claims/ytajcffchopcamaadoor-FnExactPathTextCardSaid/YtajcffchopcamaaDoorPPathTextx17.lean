/- Several texts in one, in their order. -/
import Derived.Test.YtajcffchopcamaaDoorPPathTextx15
import Derived.Test.YtajcffchopcamaaDoorPPathTextx16
import Derived.Test.YtajcffchopcamaaDoorPPathTextx14
import Derived.Deep.RegionHeld3
/- The walks of impl.stepText, PathText. -/
namespace Go.Proofs.YtajcffchopcamaaDoor
open Go.RowKit

set_option maxHeartbeats 2000000 in
set_option maxRecDepth 100000 in
theorem implStepText_any (s : StepV) (w : World) (he : PowT w) (hs : stepB s = true) :
    Calls Tryd.prog 20 #[.agg #[.int .i64 s.kd, .int .i64 s.num]] w fun e w' => e = .returned (.string (strOf (stepText s))) ∧ Below w.heap.size w w' := by
  have hnb := stepB_num hs
  have hkd := stepB_kd hs
  have hts : (strOf (numText s.num)).size ≤ 11 := by rw [strOf_size]; exact num_len _ hnb
  obtain ⟨W, hW, b0, hbW, hsW⟩ := boxes1 w [.int .i64 s.kd, .int .i64 s.num] 41
  have q0 := b0.cell 0 _ rfl
  have q1 := b0.cell 1 _ rfl
  have C := itoa_pow s.num (by omega) W (he.keep hbW)
  have HC : Hid (∀ u, Below W.heap.size W u → u.cell? ⟨w.heap.size, 0, none⟩ = some (.int .i64 s.kd)) := fun u hu => (b0.below hu b0.lt).cell 0 _ rfl
  clear b0 hsW hs he
  obtain ⟨kd, num⟩ := s
  simp only at *
  have HT : Hid (∀ d, strOf (stepText ⟨d, num⟩) = if d = 1 then (⟨#[46]⟩ : ByteArray) ++ strOf (numText num) else if d = 2 then ⟨#[46, 42]⟩ else if d = 3 then ⟨#[46, 42, 42]⟩ else if d = 4 then ((⟨#[91, 107, 61]⟩ : ByteArray) ++ strOf (numText num)) ++ ⟨#[93]⟩ else ((⟨#[91, 105, 62]⟩ : ByteArray) ++ strOf (numText num)) ++ ⟨#[93]⟩) := fun d => by
    simp only [stepText]
    repeat' split
    all_goals first | rfl | (rw [strOf_append, strOf_append]; rfl) | (rw [strOf_append]; rfl)
  rcases hkd with rfl | rfl | rfl | rfl | rfl
  · have HF : Hid (strOf (stepText ⟨1, num⟩) = _) := HT.out 1
    clear HT
    have hn3 : ¬ 9223372036854775807 < 3 + (strOf (numText num)).size := by omega
    have hn1 : ¬ 9223372036854775807 < 1 + (strOf (numText num)).size := by omega
    have hn4 : ¬ 9223372036854775807 < 3 + (strOf (numText num)).size + 1 := by omega
    generalize strOf (numText num) = S at *
    generalize strOf (stepText ⟨1, num⟩) = R at *
    go_enter Tryd.func20, Tryd.ntmps20
    go_upto_region 1 with fail
    rw [hW.out]
    clear hW
    go_wp2_with fail
    refine C.mono ?_
    rintro e w1 ⟨rfl, hb1⟩
    have p0 := HC.out w1 hb1
    clear HC C q0 q1
    go_wp2
    go_ret
    exact ⟨by rw [HF.out]; rfl, hbW.trans (hb1.mono hbW.size)⟩
  · have HF : Hid (strOf (stepText ⟨2, num⟩) = _) := HT.out 2
    clear HT
    have hn3 : ¬ 9223372036854775807 < 3 + (strOf (numText num)).size := by omega
    have hn1 : ¬ 9223372036854775807 < 1 + (strOf (numText num)).size := by omega
    have hn4 : ¬ 9223372036854775807 < 3 + (strOf (numText num)).size + 1 := by omega
    generalize strOf (numText num) = S at *
    generalize strOf (stepText ⟨2, num⟩) = R at *
    go_enter Tryd.func20, Tryd.ntmps20
    go_upto_region 1 with fail
    rw [hW.out]
    clear hW
    go_wp2_with fail
    refine C.mono ?_
    rintro e w1 ⟨rfl, hb1⟩
    have p0 := HC.out w1 hb1
    clear HC C q0 q1
    go_wp2
    go_ret
    exact ⟨by rw [HF.out]; rfl, hbW.trans (hb1.mono hbW.size)⟩
  · have HF : Hid (strOf (stepText ⟨3, num⟩) = _) := HT.out 3
    clear HT
    have hn3 : ¬ 9223372036854775807 < 3 + (strOf (numText num)).size := by omega
    have hn1 : ¬ 9223372036854775807 < 1 + (strOf (numText num)).size := by omega
    have hn4 : ¬ 9223372036854775807 < 3 + (strOf (numText num)).size + 1 := by omega
    generalize strOf (numText num) = S at *
    generalize strOf (stepText ⟨3, num⟩) = R at *
    go_enter Tryd.func20, Tryd.ntmps20
    go_upto_region 1 with fail
    rw [hW.out]
    clear hW
    go_wp2_with fail
    refine C.mono ?_
    rintro e w1 ⟨rfl, hb1⟩
    have p0 := HC.out w1 hb1
    clear HC C q0 q1
    go_wp2
    go_ret
    exact ⟨by rw [HF.out]; rfl, hbW.trans (hb1.mono hbW.size)⟩
  · have HF : Hid (strOf (stepText ⟨4, num⟩) = _) := HT.out 4
    clear HT
    have hn3 : ¬ 9223372036854775807 < 3 + (strOf (numText num)).size := by omega
    have hn1 : ¬ 9223372036854775807 < 1 + (strOf (numText num)).size := by omega
    have hn4 : ¬ 9223372036854775807 < 3 + (strOf (numText num)).size + 1 := by omega
    generalize strOf (numText num) = S at *
    generalize strOf (stepText ⟨4, num⟩) = R at *
    go_enter Tryd.func20, Tryd.ntmps20
    go_upto_region 1 with fail
    rw [hW.out]
    clear hW
    go_wp2_with fail
    refine C.mono ?_
    rintro e w1 ⟨rfl, hb1⟩
    have p0 := HC.out w1 hb1
    clear HC C q0 q1
    go_wp2
    go_ret
    exact ⟨by rw [HF.out]; rfl, hbW.trans (hb1.mono hbW.size)⟩
  · have HF : Hid (strOf (stepText ⟨5, num⟩) = _) := HT.out 5
    clear HT
    have hn3 : ¬ 9223372036854775807 < 3 + (strOf (numText num)).size := by omega
    have hn1 : ¬ 9223372036854775807 < 1 + (strOf (numText num)).size := by omega
    have hn4 : ¬ 9223372036854775807 < 3 + (strOf (numText num)).size + 1 := by omega
    generalize strOf (numText num) = S at *
    generalize strOf (stepText ⟨5, num⟩) = R at *
    go_enter Tryd.func20, Tryd.ntmps20
    go_upto_region 1 with fail
    rw [hW.out]
    clear hW
    go_wp2_with fail
    refine C.mono ?_
    rintro e w1 ⟨rfl, hb1⟩
    have p0 := HC.out w1 hb1
    clear HC C q0 q1
    go_wp2
    go_ret
    exact ⟨by rw [HF.out]; rfl, hbW.trans (hb1.mono hbW.size)⟩

set_option maxHeartbeats 2000000 in
set_option maxRecDepth 100000 in
theorem implPathText_any (x : Int) (T : List StepV) (a : Option Addr) (c : Nat) (w : World) (he : PowT w) (hr : ReadsPh w a T) (hl : T.length ≤ 1099511627776) :
    Calls Tryd.prog 8 #[.agg #[.int .i64 x, .slice a T.length c]] w fun e w' => e = .returned (.string (strOf (pathText x T))) ∧ Below w.heap.size w w' := by
  obtain ⟨W, hW, b0, hbW, hsW⟩ := boxes1 w [.int .i64 x, .slice a T.length c] 29
  have HOK : Hid (Calls Tryd.prog 18 #[.agg #[.int .i64 x, .slice a T.length c]] W fun e w' => e = .returned (.bool (pathB x T)) ∧ Below W.heap.size W w') := implPathOk_any x T a c W (hr.below hbW) hl
  have HC : Hid (∀ u, Below W.heap.size W u → (u.cell? ⟨w.heap.size, 0, none⟩ = some (.int .i64 x) ∧ u.cell? ⟨w.heap.size, 1, none⟩ = some (.slice a T.length c)) ∧ ∀ k, k < T.length → ∃ b off, a = some ⟨b, off, none⟩ ∧ u.cell? ⟨b, off + k * 2, none⟩ = some (.int .i64 (T.getD k zeroPh).kd) ∧ u.cell? ⟨b, off + k * 2 + 1, none⟩ = some (.int .i64 (T.getD k zeroPh).num)) := fun u hu => by
    refine ⟨⟨(b0.below hu b0.lt).cell 0 _ rfl, (b0.below hu b0.lt).cell 1 _ rfl⟩, fun k hk => ?_⟩
    obtain ⟨b, off, ha, hc⟩ := ((hr.below hbW).below hu) (by intro e; rw [e] at hk; simp at hk)
    exact ⟨b, off, ha, hc k hk⟩
  have HP : Hid (∀ u, Below W.heap.size W u → PowT u) := fun u hu => (he.keep hbW).keep hu
  clear hr b0 hsW he
  obtain ⟨⟨q0, q1⟩, -⟩ := HC.out W (Below.refl _ _)
  cases hB : pathB x T with
  | false =>
    have HT : Hid (strOf (pathText x T) = ⟨#[]⟩) := by rw [Hid, pathText, if_neg (by rw [hB]; decide)]; rfl
    have C := HOK.out
    rw [hB] at C
    clear HOK hB HC HP
    generalize strOf (pathText x T) = R at *
    go_enter Tryd.func8, Tryd.ntmps8
    go_upto_region 1 with fail
    rw [hW.out]
    clear hW
    go_wp2_with fail
    refine C.mono ?_
    rintro e w1 ⟨rfl, hb1⟩
    go_wp2
    go_ret
    exact ⟨by have h := HT.out; subst h; rfl, hbW.trans (hb1.mono hbW.size)⟩
  | true =>
    obtain ⟨hx, h8, hs⟩ := pathB_info hB
    have HT : Hid (pathText x T = pathTo x T T.length) := by rw [Hid, pathText, if_pos hB]
    have HLEN : Hid (∀ k, k ≤ T.length → (strOf (pathTo x T k)).size ≤ 11 + 15 * k) := fun k hk => by rw [strOf_size]; exact pathTo_len hB k hk
    have HS : Hid (∀ k, k < T.length → stepB (T.getD k zeroPh) = true) := hs
    have HX : Hid (∀ u, Below W.heap.size W u → Calls Tryd.prog 19 #[.int .i64 x] u fun e w' => e = .returned (.string (strOf (numText x))) ∧ Below u.heap.size u w') := fun u hu => itoa_pow x (by omega) u (HP.out u hu)
    have H0 : Hid (strOf (numText x) = strOf (pathTo x T 0)) := by simp [Hid, pathTo]
    have HST : Hid (∀ k, k < T.length → strOf (pathTo x T (k + 1)) = strOf (pathTo x T k) ++ strOf (stepText (T.getD k zeroPh))) := fun k hk => by rw [pathTo_step x T hk, strOf_append]
    have C := HOK.out
    rw [hB] at C
    clear HOK hB hs
    have hz0 : (strOf (numText x)).size ≤ 11 := by rw [strOf_size]; exact num_len x hx
    clear hx
    generalize strOf (numText x) = S0 at *
    go_enter Tryd.func8, Tryd.ntmps8
    go_upto_region 1 with fail
    rw [hW.out]
    clear hW
    go_wp2_with fail
    refine C.mono ?_
    rintro e w1 ⟨rfl, hb1⟩
    clear C
    obtain ⟨⟨p0, p1⟩, -⟩ := HC.out w1 hb1
    have CX := HX.out w1 hb1
    clear HX
    go_wp2_with fail
    refine CX.mono ?_
    rintro e w2 ⟨rfl, hb2⟩
    have hB2 : Below W.heap.size W w2 := hb1.trans (hb2.mono hb1.size)
    clear CX hb1 hb2 p0 p1 q0 q1
    obtain ⟨⟨p0, p1⟩, -⟩ := HC.out w2 hB2
    go_wp2_with fail
    clear p0 p1
    go_loopw [3, 15] (fun s i wr => ∃ (S : ByteArray) (k : Nat), s = .string S ∧ i = .int .i64 k ∧ k ≤ T.length ∧ S.size ≤ 11 + 15 * k ∧ Hid (S = strOf (pathTo x T k)) ∧ Below W.heap.size W wr) (fun _ i _ => T.length - (intOf i).toNat)
    case atStart => exact ⟨S0, 0, rfl, rfl, Nat.zero_le _, by omega, H0.out, hB2⟩
    case round =>
      obtain ⟨S, k, rfl, rfl, hk, hsz, hS, hbl⟩ := hrel
      clear hB2
      obtain ⟨-, hst⟩ := HC.out wr hbl
      by_cases hlt : k < T.length
      · obtain ⟨b, off, rfl, c0, c1⟩ := hst k hlt
        have hsb := HS.out k hlt
        have hpw := HP.out wr hbl
        have HE : Hid (S ++ strOf (stepText (T.getD k zeroPh)) = strOf (pathTo x T (k + 1))) := by rw [Hid, HST.out k hlt, hS.out]
        have hes : (strOf (pathTo x T (k + 1))).size ≤ 11 + 15 * (k + 1) := HLEN.out (k + 1) hlt
        have hss : (strOf (stepText (T.getD k zeroPh))).size ≤ 15 := by rw [strOf_size]; exact stepText_len hsb
        obtain ⟨V, hV, bz, hbV, hsV⟩ := boxes1 wr [.int .i64 (T.getD k zeroPh).kd, .int .i64 (T.getD k zeroPh).num] 41
        have z0 := bz.cell 0 _ rfl
        have z1 := bz.cell 1 _ rfl
        have CS := implStepText_any (T.getD k zeroPh) V (hpw.keep hbV) hsb
        have hBV : Below W.heap.size W V := hbl.trans (hbV.mono hbl.size)
        clear HC HS HST HLEN hS hst HT H0 hsb hpw HP bz hsV hbV hbl
        generalize hN : strOf (pathTo x T (k + 1)) = N at *
        have HN : Hid (N = strOf (pathTo x T (k + 1))) := hN.symm
        clear hN
        generalize strOf (stepText (T.getD k zeroPh)) = Q at *
        generalize T.getD k zeroPh = z at *
        have hcat : ¬ 9223372036854775807 < S.size + Q.size := by omega
        go_wp2_with fail
        rw [hV.out]
        clear hV
        go_wp2_with fail
        refine CS.mono ?_
        rintro e w3 ⟨rfl, hb3⟩
        have hB3 : Below W.heap.size W w3 := hBV.trans (hb3.mono hBV.size)
        clear CS hb3 hBV c0 c1 z0 z1
        go_wp2_with fail
        go_roundw
        case rel => exact ⟨S ++ Q, k + 1, rfl, by go_num, by omega, by have := hes; rw [← HE.out] at this; exact this, by rw [Hid, HE.out]; exact HN.out, hB3⟩
        case measure => simp [intOf]; omega
      · have HR : Hid (S = strOf (pathText x T)) := by rw [Hid, hS.out, HT.out, show k = T.length from by omega]
        clear HC HS HST HLEN hS hst HT H0 HP
        go_wp2
        go_ret
        exact ⟨by rw [← HR.out]; rfl, hbW.trans (hbl.mono hbW.size)⟩
end Go.Proofs.YtajcffchopcamaaDoor

/- What came in, read: a path. -/
namespace Go.Proofs.YtajcffchopcamaaDoor
open Go.ChangeShapes Go.WideShapes Go.ChangeAt Go.RowKit

section
variable {H : Type} {enc : TypeId × Value → H} {w : World} {base : Nat} {spare : Nat → Bool} {held : Bool}
theorem Tryd.cellsPst : Tryd.prog.cellsOf 56 = 2 := by kernel_rfl
theorem Tryd.cellsPsts : Tryd.prog.cellsOf 22 = 1 := by kernel_rfl
theorem Tryd.cellsPth : Tryd.prog.cellsOf 24 = 2 := by kernel_rfl
theorem Tryd.cellsIp : Tryd.prog.cellsOf 3 = 1 := by kernel_rfl
theorem some_atP {α : Type} (xs : List α) (i : Nat) (h : i < xs.length) : ∃ y, xs[i]? = some y := ⟨_, List.getElem?_eq_getElem h⟩
theorem trod_numP {fuel : Nat} {cs : List Value} {x : DataW H × List MemPlace} (h : DataW.trod enc Tryd.prog w base spare held fuel 3 cs = some x) : ∃ n : Int, cs = [.int .i64 n] ∧ InI64 n := by
  obtain ⟨n, rfl, _, hw⟩ := DataW.trod_int Tryd.underlying3 h
  exact ⟨n, rfl, wf_i64 hw⟩

set_option maxRecDepth 100000 in
theorem trod_step {fuel : Nat} {cs : List Value} {x : DataW H × List MemPlace} (h : DataW.trod enc Tryd.prog w base spare held fuel 56 cs = some x) : ∃ t : StepV, cs = t.cells ∧ InI64 t.kd ∧ InI64 t.num := by
  obtain ⟨xs, n, _, _, hlen, hxl, hf⟩ := DataW.trod_struct Tryd.underlying56 h
  rw [Tryd.cellsPst] at hlen
  match cs, hlen with
  | [v0, v1], _ =>
    have f0 := hf 0 _ rfl
    have f1 := hf 1 _ rfl
    obtain ⟨y0, hx0⟩ := some_atP xs 0 (by rw [hxl]; decide)
    obtain ⟨y1, hx1⟩ := some_atP xs 1 (by rw [hxl]; decide)
    rw [hx0] at f0
    rw [hx1] at f1
    simp only [List.getElem_toArray, List.getElem_cons_zero, List.getElem_cons_succ, Tryd.cellsIp, List.drop, List.take] at f0 f1
    obtain ⟨a, e0, i0⟩ := trod_numP f0
    obtain ⟨b, e1, i1⟩ := trod_numP f1
    simp only [List.cons.injEq, and_true] at e0 e1
    subst e0 e1
    exact ⟨⟨a, b⟩, rfl, i0, i1⟩

set_option maxRecDepth 100000 in
theorem trod_steps {fuel : Nat} {cs : List Value} {x : DataW H × List MemPlace} (h : DataW.trod enc Tryd.prog w base spare held fuel 22 cs = some x) :
    ∃ (a : Option Addr) (c : Nat) (ls : List StepV), cs = [.slice a ls.length c] ∧ ReadsPh w a ls ∧ ls.length ≤ maxLen ∧ ∀ t ∈ ls, InI64 t.kd ∧ InI64 t.num := by
  rcases DataW.trod_slice Tryd.underlying22 h with ⟨rfl, _⟩ | ⟨a, len, cap, elems, rest, n, _, rfl, _, _, hl, hm, hlen, hel, _, _⟩
  · exact ⟨none, 0, [], rfl, ReadsPh.nil _ _, by simp, fun t ht => by simp at ht⟩
  rw [Tryd.cellsPst] at hel
  have each : ∀ i, i < len → ∃ t : StepV, w.cells? base (a.add (i * 2)) 2 = some t.cells ∧ InI64 t.kd ∧ InI64 t.num := by
    intro i hi
    have hy := hel i hi
    rw [List.getElem?_eq_getElem (by omega : i < elems.length), Option.bind_eq_some_iff] at hy
    obtain ⟨cs', hcs, hy'⟩ := hy
    obtain ⟨t, e, ht⟩ := trod_step hy'
    exact ⟨t, by rw [hcs, e], ht⟩
  obtain ⟨f, hf⟩ : ∃ f : Nat → StepV, ∀ i, i < len → w.cells? base (a.add (i * 2)) 2 = some (f i).cells ∧ InI64 (f i).kd ∧ InI64 (f i).num := by
    refine ⟨fun i => if h : i < len then (each i h).choose else zeroPh, fun i hi => ?_⟩
    simp only [dif_pos hi]
    exact (each i hi).choose_spec
  refine ⟨some a, cap, (List.range len).map f, by simp, ?_, by simp; omega, fun t ht => ?_⟩
  · intro hne
    have hpos := List.length_pos_iff.2 hne
    simp only [List.length_map, List.length_range] at hpos ⊢
    obtain ⟨b, off, spot⟩ := a
    have c0 := (World.cells?_some (hf 0 hpos).1).2.2 0 (by decide)
    have hspot : spot = none := by simpa [Addr.add] using World.cell?_spot c0
    subst hspot
    refine ⟨b, off, rfl, fun k hk => ?_⟩
    have e : ((List.range len).map f).getD k zeroPh = f k := by simp [List.getD, hk]
    rw [e]
    have hc := (World.cells?_some (hf k hk).1).2.2
    have d0 := hc 0 (by decide)
    have d1 := hc 1 (by decide)
    simp only [Addr_add, StepV.cells] at d0 d1
    exact ⟨by simpa using d0, by simpa using d1⟩
  · obtain ⟨k, hk, rfl⟩ := List.mem_map.1 ht
    exact (hf k (List.mem_range.1 hk)).2

/-- A path as it came in. -/
structure InPath (w : World) (p : PathA) : Prop where
  reads : ReadsPh w p.a p.steps
  len : p.steps.length ≤ maxLen
  frm : InI64 p.frm
  each : ∀ t ∈ p.steps, InI64 t.kd ∧ InI64 t.num

set_option maxRecDepth 100000 in
theorem trod_path {fuel : Nat} {cs : List Value} {x : DataW H × List MemPlace} (h : DataW.trod enc Tryd.prog w base spare held fuel 24 cs = some x) :
    ∃ p : PathA, cs = [.int .i64 p.frm, .slice p.a p.steps.length p.c] ∧ InPath w p := by
  obtain ⟨xs, n, _, _, hlen, hxl, hf⟩ := DataW.trod_struct Tryd.underlying24 h
  rw [Tryd.cellsPth] at hlen
  match cs, hlen with
  | [v0, v1], _ =>
    have f0 := hf 0 _ rfl
    have f1 := hf 1 _ rfl
    obtain ⟨y0, hx0⟩ := some_atP xs 0 (by rw [hxl]; decide)
    obtain ⟨y1, hx1⟩ := some_atP xs 1 (by rw [hxl]; decide)
    rw [hx0] at f0
    rw [hx1] at f1
    simp only [List.getElem_toArray, List.getElem_cons_zero, List.getElem_cons_succ, Tryd.cellsIp, Tryd.cellsPsts, List.drop, List.take] at f0 f1
    obtain ⟨z, e0, hz⟩ := trod_numP f0
    obtain ⟨a, c, T, e1, hT, lT, eT⟩ := trod_steps f1
    simp only [List.cons.injEq, and_true] at e0 e1
    subst e0 e1
    exact ⟨⟨z, T, a, c⟩, rfl, hT, lT, hz, eT⟩

set_option maxRecDepth 100000 in
theorem open_path {b0 : Nat} {v : Value} {d : DataW H} {ps : List MemPlace} (hval : Value.okWide Tryd.prog w .any b0 24 v) (h : DataW.Trod enc Tryd.prog w base spare held 24 v d ps) :
    ∃ p : PathA, v = .agg #[.int .i64 p.frm, .slice p.a p.steps.length p.c] ∧ InPath w p := by
  obtain ⟨cs, rfl, hcs⟩ := okWide_struct Tryd.underlying24 hval
  obtain ⟨fuel, hf⟩ := h
  have e : (Value.agg cs).cells.toList = cs.toList := rfl
  rw [e] at hf
  obtain ⟨p, hc, hin⟩ := trod_path hf
  refine ⟨p, ?_, hin⟩
  congr 1
  apply Array.toList_inj.1
  rw [hc]
end
end Go.Proofs.YtajcffchopcamaaDoor

/- The walk of laws.FnExactPathText. -/
namespace Go.Proofs.YtajcffchopcamaaDoor
open Go.RowKit

set_option maxHeartbeats 1000000 in
set_option maxRecDepth 100000 in
theorem lawPathText_walk (p : PathA) (w : World) (hp : PowT w) (hin : InPath w p) :
    Calls Tryd.prog 3 #[.agg #[.int .i64 p.frm, .slice p.a p.steps.length p.c]] w fun e w' => e = .returned (.bool true) ∧ Below w.heap.size w w' := by
  obtain ⟨x, T, a, c⟩ := p
  obtain ⟨hr, hlen, _, _⟩ := hin
  simp only at *
  have hsz : T.length ≤ 9223372036854775807 := by simp only [maxLen] at hlen; omega
  obtain ⟨W, hW, b0, hbW, hsW⟩ := boxes1 w [.int .i64 x, .slice a T.length c] 24
  go_enter Tryd.func3, Tryd.ntmps3
  go_wp2_with fail
  rw [hW.out]
  refine (szPath_any ⟨x, T, a, c⟩ W hsz).mono ?_
  rintro e w1 ⟨left, rfl, hcase, hb1⟩
  have B1 : Below w.heap.size w w1 := hbW.trans (hb1.mono hbW.size)
  have b1 := b0.below hb1 b0.lt
  rcases hcase with hs | ⟨hs, hsh⟩
  · go_wp2
    go_ret
    exact ⟨rfl, B1⟩
  have hl : T.length ≤ 1099511627776 := Nat.le_trans hsh (by decide)
  clear hsh hlen hsz
  have hlt : w.heap.size < w1.heap.size := b1.lt
  have hkeep : ∀ w', Below (w.heap.size + 1) w1 w' → w'.cell? ⟨w.heap.size, 0, none⟩ = some (.int .i64 x) ∧ w'.cell? ⟨w.heap.size, 1, none⟩ = some (.slice a T.length c) :=
    fun w' hh => ⟨(b1.below hh (by omega)).cell 0 _ rfl, (b1.below hh (by omega)).cell 1 _ rfl⟩
  obtain ⟨x0, x1⟩ := hkeep w1 (Below.refl _ _)
  have hr1 := hr.below B1
  go_wp2_with fail
  refine (toPath_own ⟨x, T, a, c⟩ w1 hr1 hl).mono ?_
  rintro e w2 ⟨p1, d1, rfl, ho2, hb2⟩
  have B2 : Below w.heap.size w w2 := B1.trans (hb2.mono B1.size)
  go_wp2_with fail
  refine (specPathText_any x T p1 d1 w2 ho2.reads hl).mono ?_
  rintro e w3 ⟨rfl, hb3⟩
  have K3 : Below w1.heap.size w1 w3 := hb2.trans (hb3.mono hb2.size)
  obtain ⟨y0, y1⟩ := hkeep w3 (K3.mono (by omega))
  go_wp2_with fail
  refine (toPath_own ⟨x, T, a, c⟩ w3 (hr1.below K3) hl).mono ?_
  rintro e w4 ⟨q1, e1, rfl, ho4, hb4⟩
  have K4 : Below w1.heap.size w1 w4 := K3.trans (hb4.mono K3.size)
  go_wp2_with fail
  obtain ⟨W5, hW5, bX, hbW5, hsW5⟩ := boxes1 w4 [.int .i64 x, .slice q1 T.length e1] 29
  rw [hW5.out]
  clear hW5
  refine (implPathText_any x T q1 e1 W5 (hp.keep (B1.trans ((K4.trans (hbW5.mono K4.size)).mono B1.size))) (ho4.reads.below hbW5) hl).mono ?_
  rintro e w6 ⟨rfl, hb6⟩
  have K6 : Below w4.heap.size w4 w6 := hbW5.trans (hb6.mono hbW5.size)
  have K16 : Below w1.heap.size w1 w6 := K4.trans (K6.mono K4.size)
  have bX6 := bX.below hb6 bX.lt
  have hX6 := bX6.lt
  have hkX : ∀ w', Below (w4.heap.size + 1) w6 w' → w'.cell? ⟨w4.heap.size, 0, none⟩ = some (.int .i64 x) ∧ w'.cell? ⟨w4.heap.size, 1, none⟩ = some (.slice q1 T.length e1) :=
    fun w' hh => ⟨(bX6.below hh (by omega)).cell 0 _ rfl, (bX6.below hh (by omega)).cell 1 _ rfl⟩
  have hkA : ∀ w', Below w6.heap.size w6 w' → w'.cell? ⟨w.heap.size, 0, none⟩ = some (.int .i64 x) ∧ w'.cell? ⟨w.heap.size, 1, none⟩ = some (.slice a T.length c) :=
    fun w' hh => hkeep w' ((K16.mono (by omega)).trans (hh.mono (by have := K16.size; omega)))
  have hk : ∀ w', Below w6.heap.size w6 w' → (w'.cell? ⟨w.heap.size, 0, none⟩ = some (.int .i64 x) ∧ w'.cell? ⟨w.heap.size, 1, none⟩ = some (.slice a T.length c)) ∧ (w'.cell? ⟨w4.heap.size, 0, none⟩ = some (.int .i64 x) ∧ w'.cell? ⟨w4.heap.size, 1, none⟩ = some (.slice q1 T.length e1)) :=
    fun w' hh => ⟨hkA w' hh, hkX w' (hh.mono (by omega))⟩
  have hr6 := hr1.below K16
  have ho46 := ho4.below K6
  clear hkeep hkX hkA
  generalize strOf (pathText x T) = B at *
  have hBB : (B.toList == B.toList) = true := by simp
  go_wp2_with fail
  have hh := hk w6 (Below.refl _ _)
  go_region_held3 (fun w' => (w'.cell? ⟨w.heap.size, 0, none⟩ = some (.int .i64 x) ∧ w'.cell? ⟨w.heap.size, 1, none⟩ = some (.slice a T.length c)) ∧ (w'.cell? ⟨w4.heap.size, 0, none⟩ = some (.int .i64 x) ∧ w'.cell? ⟨w4.heap.size, 1, none⟩ = some (.slice q1 T.length e1)))
    (first | exact hk _ hw8 | exact hk _ hw7 | go_keep)
    (first
    | (go_at_call 7; refine (toPath_own ⟨x, T, a, c⟩ _ (hr6.below (Below.refl _ _).drew) hl).mono ?_; rintro e w7 ⟨z1, f1, rfl, ho7, hb7⟩; have hw7 : Below w6.heap.size w6 w7 := (Below.refl _ _).drew.trans hb7)
    | (go_at_call 9; refine (eqPath_same x T q1 z1 e1 f1 w7 (ho46.below hw7).reads ho7.reads hl).mono ?_; rintro e w8 ⟨rfl, hb8⟩; have hw8 : Below w6.heap.size w6 w8 := hw7.trans (hb8.mono hw7.size)))
  go_wp2
  go_ret
  exact ⟨rfl, B1.trans ((K16.trans (hw8.mono K16.size)).mono B1.size)⟩
end Go.Proofs.YtajcffchopcamaaDoor
