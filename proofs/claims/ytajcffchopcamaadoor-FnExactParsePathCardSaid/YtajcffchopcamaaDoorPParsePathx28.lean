/- Several texts in one, in their order. -/
import Derived.Test.YtajcffchopcamaaDoorPParsePathx25
import Derived.Test.YtajcffchopcamaaDoorPParsePathx27
import Derived.Test.YtajcffchopcamaaDoorPParsePathx23
import Derived.Lib.ConvBytes
/- The walk of impl.parsePieces. -/
namespace Go.Proofs.YtajcffchopcamaaDoor
open Go.RowKit

/-- What the loop keeps: the box of the answer, the box of the path that is read, the row of its steps. -/
structure PPIn (w : World) (Bp : Nat) (x : Int) (wr : World) (T : List StepV) (a : Option Addr) (c : Nat) : Prop where
  hB : w.heap.size < Bp
  sz : Bp + 1 ≤ wr.heap.size
  b0 : Box wr w.heap.size [.int .i64 0, .slice none 0 0] 29
  b1 : Box wr Bp [.int .i64 x, .slice a T.length c] 29
  own : OwnPh wr (Bp + 1) wr.heap.size a c T
  bl : Below w.heap.size w wr

theorem PPIn.grown {w : World} {Bp : Nat} {x : Int} {wr u w4 : World} {T : List StepV} {a : Option Addr} {c : Nat} (h : PPIn w Bp x wr T a c) (hu : Below wr.heap.size wr u) (hg : u.grownBy w4 (Value.slice a T.length c).ownBlock) :
    Box w4 w.heap.size [.int .i64 0, .slice none 0 0] 29 ∧ Box w4 Bp [.int .i64 x, .slice a T.length c] 29 ∧ Below w.heap.size w w4 ∧ Bp + 1 ≤ w4.heap.size := by
  have tt := Touch.of_grown (bl := (Value.slice a T.length c).ownBlock.toList) hg (fun k hk => Option.mem_toList.2 hk)
  have nin : ∀ k, k < Bp + 1 → k ∉ (Value.slice a T.length c).ownBlock.toList := fun k hk hm => by
    have := (h.own.lt k (Option.mem_toList.1 hm)).1
    omega
  have hz := h.sz
  have hB := h.hB
  have hsz := hu.size
  have c0 := h.b0.below hu (by omega)
  have c1 := h.b1.below hu (by omega)
  refine ⟨c0.block (tt.block _ c0.lt (nin _ (by omega))), c1.block (tt.block _ c1.lt (nin _ (by omega))), (h.bl.trans (hu.mono h.bl.size)).grown hg (by omega) (fun k hk => by have := (h.own.lt k hk).1; omega), by have := tt.size; omega⟩

theorem PPIn.put {w : World} {Bp : Nat} {x : Int} {w4 : World} {T T3 : List StepV} {a a3 : Option Addr} {c c3 : Nat} (hB : w.heap.size < Bp) (hb0 : Box w4 w.heap.size [.int .i64 0, .slice none 0 0] 29) (hb1 : Box w4 Bp [.int .i64 x, .slice a T.length c] 29) (hb : Below w.heap.size w w4) (hz : Bp + 1 ≤ w4.heap.size) (ho : OwnPh w4 (Bp + 1) w4.heap.size a3 c3 T3) :
    PPIn w Bp x (w4.setCell ⟨Bp, 1, none⟩ (.slice a3 T3.length c3)) T3 a3 c3 := by
  have hw := within_set w4 Bp 1 (.slice a3 T3.length c3) (lo := Bp) (hi := Bp + 1) (by omega)
  refine ⟨hB, by simpa using hz, hb0.other (by omega), hb1.set 1 _, ?_, hb.trans (hw.below (by omega) (by omega))⟩
  have := ho.within hw (.inr (Nat.le_refl _))
  simpa using this

theorem PPIn.below {w : World} {Bp : Nat} {x : Int} {wr u : World} {T : List StepV} {a : Option Addr} {c : Nat} (h : PPIn w Bp x wr T a c) (hu : Below wr.heap.size wr u) : PPIn w Bp x u T a c := by
  have hz := h.sz
  have hB := h.hB
  exact ⟨hB, Nat.le_trans hz hu.size, h.b0.below hu (by omega), h.b1.below hu (by omega), (h.own.below hu).widen (Nat.le_refl _) hu.size (Nat.le_refl _), h.bl.trans (hu.mono h.bl.size)⟩

/-- What parsePieces answers of these pieces. -/
def PiecesAns (w w' : World) (bs : List (List Int)) (e : Ending) : Prop := ∃ (x : Int) (T : List StepV) (a : Option Addr) (c : Nat) (ok : Bool), e = .returned (.tuple #[.agg #[.int .i64 x, .slice a T.length c], .bool ok]) ∧
  OwnPh w' w.heap.size w'.heap.size a c T ∧ T.length ≤ bs.length ∧ (ok = true → bs = numText x :: T.map stepText) ∧ (∀ y U, pathB y U = true → bs = numText y :: U.map stepText → ok = true ∧ y = x ∧ U = T) ∧ Below w.heap.size w w'

/-- The zero path, and that it is none. -/
theorem ppAns_no {w wr : World} {bs : List (List Int)} (b0 : Box wr w.heap.size [.int .i64 0, .slice none 0 0] 29) (bl : Below w.heap.size w wr) (hn : ∀ y U, pathB y U = true → bs ≠ numText y :: U.map stepText) :
    ∃ WF, Hid ((wr.setCell ⟨w.heap.size, 0, none⟩ (.int .i64 0)).setCell ⟨w.heap.size, 1, none⟩ (.slice none 0 0) = WF) ∧ (WF.cell? ⟨w.heap.size, 0, none⟩ = some (.int .i64 0) ∧ WF.cell? ⟨w.heap.size, 1, none⟩ = some (.slice none 0 0)) ∧ Hid (PiecesAns w WF bs (.returned (.tuple #[.agg #[.int .i64 0, .slice none 0 0], .bool false]))) := by
  obtain ⟨WF, hWF, bF, hwF, hsF⟩ := box2_fillP b0 (.int .i64 0) (.slice none 0 0)
  have hz := bl.size
  exact ⟨WF, hWF, ⟨bF.cell 0 _ rfl, bF.cell 1 _ rfl⟩, 0, [], none, 0, false, rfl, ownPh_nil _ _ _ (Nat.le_refl _), Nat.zero_le _, (fun h => by cases h), (fun y U h1 h2 => absurd h2 (hn y U h1)), bl.trans (hwF.below (Nat.le_refl _) (by omega))⟩
/-- The path that was read, laid into the answer's box. -/
theorem PPIn.yes {w : World} {Bp : Nat} {x : Int} {wr : World} {T : List StepV} {a : Option Addr} {c : Nat} (h : PPIn w Bp x wr T a c) {bs : List (List Int)} (he : bs = numText x :: T.map stepText) (hu : ∀ y U, pathB y U = true → bs = numText y :: U.map stepText → y = x ∧ U = T) :
    ∃ WF, Hid ((wr.setCell ⟨w.heap.size, 0, none⟩ (.int .i64 x)).setCell ⟨w.heap.size, 1, none⟩ (.slice a T.length c) = WF) ∧ (WF.cell? ⟨w.heap.size, 0, none⟩ = some (.int .i64 x) ∧ WF.cell? ⟨w.heap.size, 1, none⟩ = some (.slice a T.length c)) ∧ Hid (PiecesAns w WF bs (.returned (.tuple #[.agg #[.int .i64 x, .slice a T.length c], .bool true]))) := by
  obtain ⟨WF, hWF, bF, hwF, hsF⟩ := box2_fillP h.b0 (.int .i64 x) (.slice a T.length c)
  have hz := h.sz
  have hB := h.hB
  refine ⟨WF, hWF, ⟨bF.cell 0 _ rfl, bF.cell 1 _ rfl⟩, x, T, a, c, true, rfl, ?_, by rw [he]; simp, (fun _ => he), (fun y U h1 h2 => ⟨rfl, hu y U h1 h2⟩), h.bl.trans (hwF.below (Nat.le_refl _) (by omega))⟩
  exact (h.own.within hwF (.inr (by omega))).widen (by omega) (by omega) (Nat.le_refl _)

/-- What the pieces that were read say of every path whose pieces they are. -/
def ReadTo (bs : List (List Int)) (x : Int) (T : List StepV) : Prop := bs.take (T.length + 1) = numText x :: T.map stepText ∧ ∀ y U, pathB y U = true → bs = numText y :: U.map stepText → y = x ∧ T = U.take T.length

theorem readTo_step {bs : List (List Int)} {x : Int} {T : List StepV} {t : StepV} {ok : Bool} (h : ReadTo bs x T) (hk : T.length + 1 < bs.length) (hs : StepAns (bs.getD (T.length + 1) []) t ok) :
    (ok = true → ReadTo bs x (T ++ [t])) ∧ (ok = false → ∀ y U, pathB y U = true → bs ≠ numText y :: U.map stepText) := by
  have key : ∀ y U, pathB y U = true → bs = numText y :: U.map stepText → T.length < U.length ∧ bs.getD (T.length + 1) [] = stepText (U.getD T.length zeroPh) ∧ stepB (U.getD T.length zeroPh) = true := fun y U hB hb => by
    have hl : T.length < U.length := by rw [hb] at hk; simpa using hk
    refine ⟨hl, ?_, (pathB_info hB).2.2 _ hl⟩
    rw [hb]
    simp [List.getD, hl]
  refine ⟨fun hok => ⟨?_, fun y U hB hb => ?_⟩, fun hok y U hB hb => ?_⟩
  · have e := hs.1 hok
    rw [List.length_append, List.length_cons, List.length_nil, Nat.zero_add, List.take_add_one (i := T.length + 1), h.1]
    rw [← hok] at *
    have e2 : bs[T.length + 1]? = some (stepText t) := by rw [List.getElem?_eq_getElem hk, ← e]; simp [List.getD, hk]
    rw [e2]
    simp
  · obtain ⟨hl, e, hB2⟩ := key y U hB hb
    obtain ⟨g1, g2⟩ := h.2 y U hB hb
    refine ⟨g1, ?_⟩
    have := (hs.2 _ hB2 e).2
    rw [List.length_append, List.length_cons, List.length_nil, Nat.zero_add, List.take_add_one, ← g2, ← this]
    simp [List.getD, hl]
  · obtain ⟨hl, e, hB2⟩ := key y U hB hb
    have := (hs.2 _ hB2 e).1
    rw [hok] at this
    cases this
theorem readTo_end {bs : List (List Int)} {x : Int} {T : List StepV} (h : ReadTo bs x T) (hk : bs.length ≤ T.length + 1) : bs = numText x :: T.map stepText ∧ ∀ y U, pathB y U = true → bs = numText y :: U.map stepText → y = x ∧ U = T := by
  have e := h.1
  rw [List.take_of_length_le hk] at e
  refine ⟨e, fun y U hB hb => ?_⟩
  obtain ⟨g1, g2⟩ := h.2 y U hB hb
  refine ⟨g1, ?_⟩
  have hl : U.length = T.length := by
    have := congrArg List.length (e.symm.trans hb)
    simp at this
    omega
  rw [g2, ← hl, List.take_length]
theorem readTo_start {p : List Int} {rest : List (List Int)} {x : Int} (h : pNum p = some x) : ReadTo (p :: rest) x [] := by
  refine ⟨by simp [pNum_sound _ _ h], fun y U hB hb => ?_⟩
  have h1 : p = numText y := by simp at hb; exact hb.1
  have hy := (pathB_info hB).1
  rw [h1, pNum_back y hy] at h
  exact ⟨by simpa using h, rfl⟩
theorem readTo_none {p : List Int} {rest : List (List Int)} (h : pNum p = none) : ∀ y U, pathB y U = true → p :: rest ≠ numText y :: U.map stepText := by
  intro y U hB hb
  have h1 : p = numText y := by simp at hb; exact hb.1
  rw [h1, pNum_back y (pathB_info hB).1] at h
  cases h

set_option maxRecDepth 100000 in
theorem run_rest (g n cp : Nat) (hn : 0 < n) (hc : n ≤ cp) : ∃ o, (0 < n - 1 → o = 1) ∧ ∀ w, (Instr.slice 49 (.slice (some ⟨g, 0, none⟩) n cp) (some (.int .i64 1)) none none).run Tryd.prog w = .ok (.slice (some ⟨g, o, none⟩) (n - 1) (cp - 1)) w := by
  refine ⟨if cp = 1 then 0 else 1, fun h => by rw [if_neg (by omega)], fun w => ?_⟩
  rw [run_slice_l w 49 (some ⟨g, 0, none⟩) n cp Tryd.underlying49 .i64 1 (by omega) (by omega)]
  have hs : (sizeOf (Tryd.prog.elem 49)).run Tryd.prog w = .ok 1 w := by kernel_rfl
  rw [hs]
  simp only [Result.andThen, sliced, show Int.toNat 1 = 1 from rfl]
  by_cases h : cp = 1
  · rw [if_pos h, if_pos h]
  · rw [if_neg h, if_neg h]; simp [Addr_add]

set_option maxHeartbeats 2000000 in
set_option maxRecDepth 100000 in
theorem parsePieces_any (B g cp : Nat) (ps : List PcA) (w : World) (he : EnvN w) (hc : ∀ k, k < ps.length → w.cell? ⟨g, k, none⟩ = some ((ps.getD k zeroPc).cell B)) (hcp : ps.length ≤ cp) (hr : ∀ p ∈ ps, Reads w (some ⟨B, p.off, none⟩) p.bs ∧ p.bs.length ≤ 1048576) (hp : 0 < ps.length) (hl : ps.length ≤ 1048577) :
    Calls Tryd.prog 24 #[.slice (some ⟨g, 0, none⟩) ps.length cp] w fun e w' => PiecesAns w w' (ps.map (·.bs)) e := by
  obtain ⟨W, hW, b0, hbW, hsW⟩ := boxes1 w [.int .i64 0, .slice none 0 0] 29
  obtain ⟨o, ho1, hSL⟩ := run_rest g ps.length cp hp hcp
  have HPC : Hid (∀ u, Below w.heap.size w u → ∀ k, k < ps.length → u.cell? ⟨g, k, none⟩ = some (.slice (some ⟨B, (ps.getD k zeroPc).off, none⟩) (ps.getD k zeroPc).bs.length (ps.getD k zeroPc).c) ∧ Reads u (some ⟨B, (ps.getD k zeroPc).off, none⟩) (ps.getD k zeroPc).bs ∧ (ps.getD k zeroPc).bs.length ≤ 1048576) := fun u hu k hk => by
    have hm : ps.getD k zeroPc ∈ ps := by simp [List.getD, hk]
    refine ⟨?_, (hr _ hm).1.below hu, (hr _ hm).2⟩
    rw [hu.cell (p := ⟨g, k, none⟩) (block_lt (hc k hk))]
    exact hc k hk
  have HST : Hid (∀ (P : ByteArray) (u : World), Below w.heap.size w u → P.size ≤ 1048576 → Calls Tryd.prog 36 #[.string P] u fun e w' => ParseStepAns (sBytes P) e ∧ Below u.heap.size u w') := fun P u hu hz => parseStep_any P u (he.keep hu) hz
  have heW := he.keep hbW
  have hzW : w.heap.size < W.heap.size := b0.lt
  clear hc hr he hsW
  obtain ⟨q0, hr0, hl0⟩ := HPC.out W hbW 0 hp
  have hb0 : ps.map (·.bs) = (ps.getD 0 zeroPc).bs :: (ps.drop 1).map (·.bs) := by
    cases ps with
    | nil => simp at hp
    | cons a r => simp [List.getD]
  have HN0 : Hid (∀ x, pNum (ps.getD 0 zeroPc).bs = some x → ReadTo (ps.map (·.bs)) x []) := fun x h => by rw [hb0]; exact readTo_start h
  have HN1 : Hid (pNum (ps.getD 0 zeroPc).bs = none → ∀ y U, pathB y U = true → ps.map (·.bs) ≠ numText y :: U.map stepText) := fun h => by rw [hb0]; exact readTo_none h
  clear hb0
  generalize ps.getD 0 zeroPc = z at *
  have hcv : ∀ cap, (convert 51 9 (.slice (some ⟨B, z.off, none⟩) z.bs.length cap)).run Tryd.prog W = .ok (.string (strOf z.bs)) W := fun cap => run_text W B z.off cap z.bs _ rfl hr0
  have hsb : sBytes (strOf z.bs) = z.bs := sBytes_strOfP z.bs hr0.1
  have CN := parseNumberN_any (strOf z.bs) W heW (by rw [strOf_size]; exact hl0)
  rw [hsb] at CN
  clear hsb hr0 heW
  generalize strOf z.bs = S0 at *
  have HLB : Hid ((ps.map (·.bs)).length = ps.length) := List.length_map ..
  have HGB : Hid (∀ k, k < ps.length → (ps.map (·.bs)).getD k [] = (ps.getD k zeroPc).bs) := fun k hk => by simp [List.getD, hk]
  generalize hbs : ps.map (·.bs) = bs at *
  clear hbs
  cases hX : pNum z.bs with
  | none =>
    rw [hX] at CN
    simp only [numAns] at CN
    have hno := HN1.out hX
    have HNO : Hid (∀ y U, pathB y U = true → bs ≠ numText y :: U.map stepText) := hno
    clear HN0 HN1 hX HPC HST hno
    go_enter Tryd.func24, Tryd.ntmps24
    go_upto_region 1 with fail
    rw [hW.out]
    clear hW
    go_wp2_with fail
    refine CN.mono ?_
    rintro e w1 ⟨rfl, hb1⟩
    clear CN
    have b01 := b0.below hb1 b0.lt
    obtain ⟨WF, hWF, ⟨r0, r1⟩, HA⟩ := ppAns_no b01 (hbW.trans (hb1.mono hbW.size)) HNO.out
    have y0 := b01.cell 0 _ rfl
    have y1 := b01.cell 1 _ rfl
    have v0 := b01.frozen 0
    have v1 := b01.frozen 1
    clear HNO b0 b01
    go_wp2
    rw [hWF.out]
    exact bodyPost_ret (v := .tuple #[.agg #[.int .i64 0, .slice none 0 0], .bool false]) (by simp [results, Tryd.results24, go_sem, r0, r1]) rfl HA.out
  | some x =>
    rw [hX] at CN
    simp only [numAns] at CN
    have HRT : Hid (ReadTo bs x []) := HN0.out x hX
    clear HN0 HN1 hX
    go_enter Tryd.func24, Tryd.ntmps24
    go_upto_region 1 with fail
    rw [hW.out]
    clear hW
    go_wp2_with fail
    refine CN.mono ?_
    rintro e w1 ⟨rfl, hb1⟩
    clear CN
    have hz1 := hb1.size
    obtain ⟨V, hV, bV, hbV, hsV⟩ := boxes1 w1 [.int .i64 x, .slice none 0 0] 29
    have hPP : PPIn w w1.heap.size x V [] none 0 := ⟨by omega, bV.lt, (b0.below hb1 b0.lt).below hbV (by omega), bV, ownPh_nil _ _ _ (Nat.le_refl _), (hbW.trans (hb1.mono hbW.size)).trans (hbV.mono (by omega))⟩
    clear b0 bV hbV hsV q0 hcv hbW hl0
    go_upto_region 5 with fail
    rw [hV.out]
    clear hV hb1 hzW
    go_wp2_with fail
    have hpl : (ps.length - 1 : Nat) ≤ 1048576 := by omega
    go_loopw [27] (fun iv wr => ∃ (T : List StepV) (a : Option Addr) (c : Nat), iv = .int .i64 T.length ∧ T.length ≤ ps.length - 1 ∧ Hid (ReadTo bs x T) ∧ Hid (PPIn w w1.heap.size x wr T a c)) (fun i _ => ps.length - 1 - (intOf i).toNat)
    case atStart => exact ⟨[], none, 0, rfl, Nat.zero_le _, HRT, hPP⟩
    case round =>
      obtain ⟨T, a, c, rfl, hT, HR, HP⟩ := hrel
      clear HRT hPP
      by_cases hlt : T.length < ps.length - 1
      · obtain rfl := ho1 (by omega)
        obtain ⟨q1, hr1, hl1⟩ := HPC.out wr HP.out.bl (T.length + 1) (by omega)
        have HSS : Hid (∀ t ok, StepAns (ps.getD (T.length + 1) zeroPc).bs t ok → (ok = true → ReadTo bs x (T ++ [t])) ∧ (ok = false → ∀ y U, pathB y U = true → bs ≠ numText y :: U.map stepText)) := fun t ok h => by
          refine readTo_step HR.out (by have := HLB.out; omega) ?_
          rw [HGB.out (T.length + 1) (by omega)]
          exact h
        clear HR
        generalize ps.getD (T.length + 1) zeroPc = z1 at *
        rw [Nat.add_comm T.length 1] at q1
        have hcv : ∀ cap, (convert 51 9 (.slice (some ⟨B, z1.off, none⟩) z1.bs.length cap)).run Tryd.prog wr = .ok (.string (strOf z1.bs)) wr := fun cap => run_text wr B z1.off cap z1.bs _ rfl hr1
        have hsb : sBytes (strOf z1.bs) = z1.bs := sBytes_strOfP z1.bs hr1.1
        have CS := HST.out (strOf z1.bs) wr HP.out.bl (by rw [strOf_size]; exact hl1)
        rw [hsb] at CS
        clear hsb hr1 hl1
        generalize strOf z1.bs = S1 at *
        go_wp2_with fail
        refine CS.mono ?_
        rintro e w2 ⟨⟨t, ok, rfl, hsa⟩, hb2⟩
        clear CS hcv q1
        have HP2 : Hid (PPIn w w1.heap.size x w2 T a c) := HP.out.below hb2
        have hS := HSS.out t ok hsa
        clear HSS hsa hb2 HP
        obtain ⟨V2, hV2, bz, hbV2, hsV2⟩ := boxes1 w2 [.int .i64 t.kd, .int .i64 t.num] 41
        have HP3 : Hid (PPIn w w1.heap.size x V2 T a c) := HP2.out.below hbV2
        have k0 := bz.cell 0 _ rfl
        have k1 := bz.cell 1 _ rfl
        clear HP2 bz hbV2 hsV2
        go_upto_region 9 with fail
        rw [hV2.out]
        clear hV2
        cases ok with
        | false =>
          obtain ⟨WF, hWF, ⟨r0, r1⟩, HA⟩ := ppAns_no HP3.out.b0 HP3.out.bl (hS.2 rfl)
          have y0 := HP3.out.b0.cell 0 _ rfl
          have y1 := HP3.out.b0.cell 1 _ rfl
          have v0 := HP3.out.b0.frozen 0
          have v1 := HP3.out.b0.frozen 1
          clear HP3 hS HPC HST HGB HLB
          go_wp2
          rw [hWF.out]
          exact bodyPost_ret (v := .tuple #[.agg #[.int .i64 0, .slice none 0 0], .bool false]) (by simp [results, Tryd.results24, go_sem, r0, r1]) rfl HA.out
        | true =>
          have HRN : Hid (ReadTo bs x (T ++ [t])) := hS.1 rfl
          have y1 := HP3.out.b1.cell 1 _ rfl
          have hr1 := readsPh_one V2 t 41
          have hu : Below V2.heap.size V2 (V2.alloc (.cells #[.int .i64 t.kd, .int .i64 t.num] 41)) := (Below.refl _ _).alloc (Nat.le_refl _) _
          have hoA := HP3.out.own.below hu
          have hlo : w1.heap.size + 1 ≤ (V2.alloc (.cells #[.int .i64 t.kd, .int .i64 t.num] 41)).heap.size := by have := HP3.out.sz; simp; omega
          clear hS HPC HST HGB HLB
          go_wp2_with (at_builtin; refine append_steps rfl _ _ rfl (w1.heap.size + 1) V2.heap.size a c T rfl hoA (some ⟨V2.heap.size, 0, none⟩) 1 [t] rfl hr1 (by intro h; cases h) (by simp; omega) hlo ?_; intro a3 c3 T3 w4 hT3 ho3 hg3; have hgg := HP3.out.grown hu hg3; have p1 := hgg.2.1.cell 1 _ rfl; have f1 := hgg.2.1.frozen 1)
          go_roundw
          case rel => exact ⟨T3, a3, c3, by rw [hT3.out]; simp, by rw [hT3.out]; simp; omega, by rw [hT3.out]; exact HRN, PPIn.put HP3.out.hB hgg.1 hgg.2.1 hgg.2.2.1 hgg.2.2.2 ho3⟩
          case measure => simp [intOf]; omega
      · obtain ⟨g1, g2⟩ := readTo_end HR.out (by have := HLB.out; omega)
        obtain ⟨WF, hWF, ⟨r0, r1⟩, HA⟩ := HP.out.yes g1 g2
        have y0 := HP.out.b0.cell 0 _ rfl
        have y1 := HP.out.b0.cell 1 _ rfl
        have v0 := HP.out.b0.frozen 0
        have v1 := HP.out.b0.frozen 1
        have p0 := HP.out.b1.cell 0 _ rfl
        have p1 := HP.out.b1.cell 1 _ rfl
        have hzz := HP.out.hB
        clear g1 g2 HR HP HPC HST HGB HLB
        go_wp2
        rw [hWF.out]
        exact bodyPost_ret (v := .tuple #[.agg #[.int .i64 x, .slice a T.length c], .bool true]) (by simp [results, Tryd.results24, go_sem, r0, r1]) rfl HA.out
end Go.Proofs.YtajcffchopcamaaDoor

/- The walks of impl.stepOk, allStepsOk, PathOk. -/
namespace Go.Proofs.YtajcffchopcamaaDoor
open Go.RowKit

set_option maxHeartbeats 400000 in
theorem oidOk_path (x : Int) (w : World) : Calls Tryd.prog 31 #[.int .i64 x] w fun e w' => e = .returned (.bool (inB x 1 31)) ∧ w' = w := by
  by_cases h1 : 1 ≤ x
  · by_cases h2 : x ≤ 31
    · have HB : Hid (inB x 1 31 = true) := by simp [Hid, inB]; omega
      go_enter Tryd.func31, Tryd.ntmps31
      go_wp2
      go_ret
      exact ⟨ret_bool HB.out.symm, rfl⟩
    · have HB : Hid (inB x 1 31 = false) := by simp [Hid, inB]; omega
      go_enter Tryd.func31, Tryd.ntmps31
      go_wp2
      go_ret
      exact ⟨ret_bool HB.out.symm, rfl⟩
  · have HB : Hid (inB x 1 31 = false) := by simp [Hid, inB]; omega
    go_enter Tryd.func31, Tryd.ntmps31
    go_wp2
    go_ret
    exact ⟨ret_bool HB.out.symm, rfl⟩

set_option maxHeartbeats 1000000 in
set_option maxRecDepth 100000 in
theorem implStepOk_any (s : StepV) (w : World) :
    Calls Tryd.prog 38 #[.agg #[.int .i64 s.kd, .int .i64 s.num]] w fun e w' => e = .returned (.bool (stepB s)) ∧ Below w.heap.size w w' := by
  obtain ⟨x, y⟩ := s
  obtain ⟨W, hW, b0, hbW, hsW⟩ := boxes1 w [.int .i64 x, .int .i64 y] 41
  have q0 := b0.cell 0 _ rfl
  have q1 := b0.cell 1 _ rfl
  clear b0 hsW
  simp only [stepB]
  by_cases h1 : x = 1
  · subst h1
    rw [if_pos rfl]
    by_cases g1 : 0 ≤ y
    · by_cases g2 : y ≤ 9
      · have HB : Hid (inB y 0 9 = true) := by simp [Hid, inB]; omega
        generalize inB y 0 9 = R at *
        go_enter Tryd.func38, Tryd.ntmps38
        go_upto_region 1 with fail
        rw [hW.out]
        clear hW
        go_wp2
        go_ret
        exact ⟨ret_bool HB.out.symm, hbW⟩
      · have HB : Hid (inB y 0 9 = false) := by simp [Hid, inB]; omega
        generalize inB y 0 9 = R at *
        go_enter Tryd.func38, Tryd.ntmps38
        go_upto_region 1 with fail
        rw [hW.out]
        clear hW
        go_wp2
        go_ret
        exact ⟨ret_bool HB.out.symm, hbW⟩
    · have HB : Hid (inB y 0 9 = false) := by simp [Hid, inB]; omega
      generalize inB y 0 9 = R at *
      go_enter Tryd.func38, Tryd.ntmps38
      go_upto_region 1 with fail
      rw [hW.out]
      clear hW
      go_wp2
      go_ret
      exact ⟨ret_bool HB.out.symm, hbW⟩
  rw [if_neg h1]
  have k1 : (x == 1) = false := by simpa using h1
  by_cases h2 : x = 2
  · subst h2
    rw [if_pos rfl]
    go_enter Tryd.func38, Tryd.ntmps38
    go_upto_region 1 with fail
    rw [hW.out]
    clear hW
    go_wp2
    go_ret
    exact ⟨rfl, hbW⟩
  rw [if_neg h2]
  have k2 : (x == 2) = false := by simpa using h2
  by_cases h3 : x = 3
  · subst h3
    rw [if_pos rfl]
    go_enter Tryd.func38, Tryd.ntmps38
    go_upto_region 1 with fail
    rw [hW.out]
    clear hW
    go_wp2
    go_ret
    exact ⟨rfl, hbW⟩
  rw [if_neg h3]
  have k3 : (x == 3) = false := by simpa using h3
  by_cases h4 : x = 4
  · subst h4
    rw [if_pos rfl]
    by_cases g1 : 1 ≤ y
    · by_cases g2 : y ≤ 99
      · have HB : Hid (inB y 1 99 = true) := by simp [Hid, inB]; omega
        generalize inB y 1 99 = R at *
        go_enter Tryd.func38, Tryd.ntmps38
        go_upto_region 1 with fail
        rw [hW.out]
        clear hW
        go_wp2
        go_ret
        exact ⟨ret_bool HB.out.symm, hbW⟩
      · have HB : Hid (inB y 1 99 = false) := by simp [Hid, inB]; omega
        generalize inB y 1 99 = R at *
        go_enter Tryd.func38, Tryd.ntmps38
        go_upto_region 1 with fail
        rw [hW.out]
        clear hW
        go_wp2
        go_ret
        exact ⟨ret_bool HB.out.symm, hbW⟩
    · have HB : Hid (inB y 1 99 = false) := by simp [Hid, inB]; omega
      generalize inB y 1 99 = R at *
      go_enter Tryd.func38, Tryd.ntmps38
      go_upto_region 1 with fail
      rw [hW.out]
      clear hW
      go_wp2
      go_ret
      exact ⟨ret_bool HB.out.symm, hbW⟩
  rw [if_neg h4]
  have k4 : (x == 4) = false := by simpa using h4
  by_cases h5 : x = 5
  · subst h5
    rw [if_pos rfl]
    by_cases g1 : -1000000 ≤ y
    · by_cases g2 : y ≤ 1000000
      · have HB : Hid (inB y (-1000000) 1000000 = true) := by simp [Hid, inB]; omega
        generalize inB y (-1000000) 1000000 = R at *
        go_enter Tryd.func38, Tryd.ntmps38
        go_upto_region 1 with fail
        rw [hW.out]
        clear hW
        go_wp2
        go_ret
        exact ⟨ret_bool HB.out.symm, hbW⟩
      · have HB : Hid (inB y (-1000000) 1000000 = false) := by simp [Hid, inB]; omega
        generalize inB y (-1000000) 1000000 = R at *
        go_enter Tryd.func38, Tryd.ntmps38
        go_upto_region 1 with fail
        rw [hW.out]
        clear hW
        go_wp2
        go_ret
        exact ⟨ret_bool HB.out.symm, hbW⟩
    · have HB : Hid (inB y (-1000000) 1000000 = false) := by simp [Hid, inB]; omega
      generalize inB y (-1000000) 1000000 = R at *
      go_enter Tryd.func38, Tryd.ntmps38
      go_upto_region 1 with fail
      rw [hW.out]
      clear hW
      go_wp2
      go_ret
      exact ⟨ret_bool HB.out.symm, hbW⟩
  rw [if_neg h5]
  have k5 : (x == 5) = false := by simpa using h5
  clear h1 h2 h3 h4 h5
  go_enter Tryd.func38, Tryd.ntmps38
  go_upto_region 1 with fail
  rw [hW.out]
  clear hW
  go_wp2
  go_ret
  exact ⟨rfl, hbW⟩

set_option maxHeartbeats 1000000 in
set_option maxRecDepth 100000 in
theorem allStepsOk_any (a : Option Addr) (c : Nat) (ls : List StepV) (w : World) (hr : ReadsPh w a ls) (hl : ls.length ≤ 1099511627776) :
    Calls Tryd.prog 32 #[.slice a ls.length c] w fun e w' => e = .returned (.bool (ls.all stepB)) ∧ Below w.heap.size w w' := by
  have HC : Hid (∀ u, Below w.heap.size w u → ∀ k, k < ls.length → ∃ b off, a = some ⟨b, off, none⟩ ∧ u.cell? ⟨b, off + k * 2, none⟩ = some (.int .i64 (ls.getD k zeroPh).kd) ∧ u.cell? ⟨b, off + k * 2 + 1, none⟩ = some (.int .i64 (ls.getD k zeroPh).num)) := fun u hu k hk => by
    obtain ⟨b, off, ha, hc⟩ := (hr.below hu) (by intro e; rw [e] at hk; simp at hk)
    exact ⟨b, off, ha, hc k hk⟩
  have HHIT : Hid (∀ k, k < ls.length → stepB (ls.getD k zeroPh) = false → ls.all stepB = false) := fun k hk h => all_hit (k := k) hk h
  have HSTEP : Hid (∀ k, k < ls.length → (ls.take k).all stepB = true → stepB (ls.getD k zeroPh) = true → (ls.take (k + 1)).all stepB = true) := fun k hk h h1 => all_step hk h h1
  have HEND : Hid (∀ k, ¬ k < ls.length → (ls.take k).all stepB = true → ls.all stepB = true) := fun k hk h => all_end hk h
  clear hr
  generalize ls.all stepB = R at *
  go_enter Tryd.func32, Tryd.ntmps32
  go_wp2
  go_loopw [7] (fun i wr => ∃ k : Nat, k ≤ ls.length ∧ i = .int .i64 k ∧ Hid ((ls.take k).all stepB = true) ∧ Below w.heap.size w wr) (fun i _ => ls.length - (intOf i).toNat)
  case atStart => exact ⟨0, Nat.zero_le _, rfl, (show (ls.take 0).all stepB = true by simp), Below.refl _ _⟩
  case round =>
    obtain ⟨k, hk, rfl, hall, hbl⟩ := hrel
    by_cases hlt : k < ls.length
    · obtain ⟨b, off, rfl, c0, c1⟩ := HC.out wr hbl k hlt
      have HH1 : Hid (stepB (ls.getD k zeroPh) = false → R = false) := fun h => HHIT.out k hlt h
      have HH2 : Hid (stepB (ls.getD k zeroPh) = true → (ls.take (k + 1)).all stepB = true) := fun h => HSTEP.out k hlt hall.out h
      clear HC HHIT HSTEP HEND hall
      generalize ls.getD k zeroPh = z at *
      obtain ⟨V, hV, bz, hbV, hsV⟩ := boxes1 wr [.int .i64 z.kd, .int .i64 z.num] 41
      have q0 := bz.cell 0 _ rfl
      have q1 := bz.cell 1 _ rfl
      have C := implStepOk_any z V
      have hB : Below w.heap.size w V := hbl.trans (hbV.mono hbl.size)
      generalize stepB z = zb at *
      clear bz hsV hbV
      cases zb with
      | false =>
        have HR : Hid (R = false) := HH1.out rfl
        clear HH1 HH2
        go_wp2_with fail
        rw [hV.out]
        go_wp2_with fail
        refine C.mono ?_
        rintro e w1 ⟨rfl, hb1⟩
        go_wp2
        go_ret
        exact ⟨ret_bool HR.out.symm, hB.trans (hb1.mono hB.size)⟩
      | true =>
        have HN : Hid ((ls.take (k + 1)).all stepB = true) := HH2.out rfl
        clear HH1 HH2
        go_wp2_with fail
        rw [hV.out]
        go_wp2_with fail
        refine C.mono ?_
        rintro e w1 ⟨rfl, hb1⟩
        have hB1 : Below w.heap.size w w1 := hB.trans (hb1.mono hB.size)
        clear C hV hb1 hB
        go_wp2_with fail
        go_roundw
        case rel => exact ⟨k + 1, by omega, by go_num, HN, hB1⟩
        case measure => simp [intOf]; omega
    · have HR : Hid (R = true) := HEND.out k hlt hall.out
      clear HC HHIT HSTEP HEND hall
      go_wp2
      go_ret
      exact ⟨ret_bool HR.out.symm, hbl⟩

set_option maxHeartbeats 1000000 in
set_option maxRecDepth 100000 in
theorem implPathOk_any (x : Int) (T : List StepV) (a : Option Addr) (c : Nat) (w : World) (hr : ReadsPh w a T) (hl : T.length ≤ 1099511627776) :
    Calls Tryd.prog 18 #[.agg #[.int .i64 x, .slice a T.length c]] w fun e w' => e = .returned (.bool (pathB x T)) ∧ Below w.heap.size w w' := by
  obtain ⟨W, hW, b0, hbW, hsW⟩ := boxes1 w [.int .i64 x, .slice a T.length c] 29
  have q0 := b0.cell 0 _ rfl
  have q1 := b0.cell 1 _ rfl
  have CO := oidOk_path x W
  have CA := allStepsOk_any a c T W (hr.below hbW) hl
  have HB : Hid (pathB x T = (T.all stepB && (inB x 1 31 && decide (T.length ≤ 8)))) := rfl
  clear b0 hsW hr
  generalize pathB x T = R at *
  generalize inB x 1 31 = I at *
  generalize T.all stepB = A at *
  cases I with
  | false =>
    have HR : Hid (R = false) := by rw [Hid, HB.out]; cases A <;> rfl
    clear HB CA
    go_enter Tryd.func18, Tryd.ntmps18
    go_upto_region 1 with fail
    rw [hW.out]
    clear hW
    go_wp2_with fail
    refine CO.mono ?_
    rintro e w1 ⟨rfl, rfl⟩
    go_wp2
    go_ret
    exact ⟨ret_bool HR.out.symm, hbW⟩
  | true =>
    by_cases h8 : T.length ≤ 8
    · have HR : Hid (R = A) := by rw [Hid, HB.out]; simp [h8]
      have k8 : (T.length : Int) ≤ 8 := by omega
      clear HB
      go_enter Tryd.func18, Tryd.ntmps18
      go_upto_region 1 with fail
      rw [hW.out]
      clear hW
      go_wp2_with fail
      refine CO.mono ?_
      rintro e w1 ⟨rfl, rfl⟩
      go_wp2_with fail
      refine CA.mono ?_
      rintro e w2 ⟨rfl, hb2⟩
      go_wp2
      go_ret
      exact ⟨ret_bool HR.out.symm, hbW.trans (hb2.mono hbW.size)⟩
    · have HR : Hid (R = false) := by rw [Hid, HB.out]; simp [h8]
      have k8 : ¬ (T.length : Int) ≤ 8 := by omega
      clear HB CA
      go_enter Tryd.func18, Tryd.ntmps18
      go_upto_region 1 with fail
      rw [hW.out]
      clear hW
      go_wp2_with fail
      refine CO.mono ?_
      rintro e w1 ⟨rfl, rfl⟩
      go_wp2
      go_ret
      exact ⟨ret_bool HR.out.symm, hbW⟩
end Go.Proofs.YtajcffchopcamaaDoor

/- The walk of impl.ParsePath. -/
namespace Go.Proofs.YtajcffchopcamaaDoor
open Go.RowKit

/-- The bytes of a text, in a row of their own. -/
theorem bytes_of_str (w : World) (s : ByteArray) :
    ∃ W c, (convert 9 51 (.string s)).run Tryd.prog w = .ok (.slice (some ⟨w.heap.size, 0, none⟩) (sBytes s).length c) W ∧ Reads W (some ⟨w.heap.size, 0, none⟩) (sBytes s) ∧ (sBytes s).length ≤ c ∧ Below w.heap.size w W ∧ w.heap.size < W.heap.size := by
  have h := Lib.run_convert_string_bytes (P := Tryd.prog) w 9 51 5 s Tryd.underlying9 Tryd.underlying51 Tryd.underlying5
  have hl := sBytes_len s
  refine ⟨_, _, by rw [hl]; exact h, ⟨fun z hz => ?_, fun hne => ⟨w.heap.size, 0, rfl, fun i hi => ?_⟩⟩, ?_, ?_, ?_⟩
  · obtain ⟨b, _, rfl⟩ := List.mem_map.1 hz
    have := b.toNat_lt
    omega
  · have hi' : i < s.size := by rw [← hl]; exact hi
    rw [Nat.zero_add, Lib.bytesWorld_cell w 5 s i hi']
    unfold sBytes
    simp only [List.getD, List.getElem?_map]
    cases s.data.toList[i]? <;> rfl
  · rw [hl]; exact grownCap_ge _ _ _ _
  · exact ⟨rfl, rfl, rfl, by rw [Lib.bytesWorld_size]; omega, fun k hk => Lib.bytesWorld_at_old w _ _ k hk⟩
  · rw [Lib.bytesWorld_size]; omega

theorem CutTo.few {L : List Int} {ps : List (List Int)} {i : Nat} (h : CutTo L ps i) : ps.length ≤ i + 1 := by
  induction h with
  | head h => simp
  | @step ps i j h hi hj ih =>
    have := hj.1
    simp
    omega

/-- What comes of the pieces that were read. -/
theorem pathAns_of {w w' : World} {L : List Int} {bs : List (List Int)} {x : Int} {T : List StepV} {a : Option Addr} {c : Nat} {ok : Bool} (hc : CutTo L bs L.length) (h1 : ok = true → bs = numText x :: T.map stepText) (h2 : ∀ y U, pathB y U = true → bs = numText y :: U.map stepText → ok = true ∧ y = x ∧ U = T)
    (ho : OwnPh w' w.heap.size w'.heap.size a c T) (hb : Below w.heap.size w w') :
    ((ok = true ∧ pathB x T = true) → PathAns w w' L (.returned (.tuple #[.agg #[.int .i64 x, .slice a T.length c], .bool true]))) ∧ ((ok = false ∨ pathB x T = false) → PathAns w w' L (.returned (.tuple #[.agg #[.int .i64 0, .slice none 0 0], .bool false]))) := by
  refine ⟨fun ⟨g1, g2⟩ => ⟨.inl ⟨x, T, a, c, rfl, pieces_yes hc g2 (h1 g1), ho⟩, hb⟩, fun g => ⟨.inr ⟨rfl, fun y U hP => ?_⟩, hb⟩⟩
  obtain ⟨e1, rfl, rfl⟩ := h2 y U hP.1 (hc.whole hP)
  rcases g with g | g
  · rw [g] at e1; cases e1
  · rw [hP.1] at g; cases g

set_option maxHeartbeats 2000000 in
set_option maxRecDepth 100000 in
theorem implParsePath_any (s : ByteArray) (w : World) (he : EnvN w) (hs : s.size ≤ 1048576) :
    Calls Tryd.prog 11 #[.string s] w fun e w' => PathAns w w' (sBytes s) e := by
  obtain ⟨W, hW, b0, hbW, hsW⟩ := boxes1 w [.int .i64 0, .slice none 0 0] 29
  obtain ⟨W1, c1, hcv, hr1, hc1, hb1, hz1⟩ := bytes_of_str W s
  have hl : (sBytes s).length ≤ 1048576 := by rw [sBytes_len]; exact hs
  have CC := cutPath_any W.heap.size c1 (sBytes s) W1 hr1 hl hc1
  have B1 : Below w.heap.size w W1 := hbW.trans (hb1.mono hbW.size)
  have heW := he.keep B1
  have b01 := b0.below hb1 b0.lt
  have hWs : W.heap.size = w.heap.size + 1 := hsW
  clear he b0 hsW hbW
  generalize sBytes s = L at *
  rw [hWs] at hcv hr1 CC
  clear hb1 hWs hz1
  go_enter Tryd.func11, Tryd.ntmps11
  go_upto_region 1 with fail
  rw [hW.out]
  clear hW
  go_wp2_with fail
  refine CC.mono ?_
  clear CC hcv
  rintro e w2 ⟨a2, c2, ps, rfl, hat, hct⟩
  have hpp : 0 < ps.length := by have := hct.pos; simpa using this
  have hpf : ps.length ≤ 1048577 := by have := hct.few; rw [List.length_map] at this; omega
  obtain ⟨g, rfl, hg, hpc, hcell⟩ := hat.own.cell hpp
  have CP := parsePieces_any (w.heap.size + 1) g c2 ps w2 (heW.keep hat.bl) hcell hpc (fun p hp => by
    obtain ⟨n, hn⟩ := hat.each p hp
    rw [hn]
    exact ⟨reads_piece (hr1.below hat.bl) p.off n, by simp; omega⟩) hpp hpf
  have B2 : Below w.heap.size w w2 := B1.trans (hat.bl.mono B1.size)
  have b02 := b01.below hat.bl b01.lt
  clear hat hcell hr1 heW b01 B1
  go_wp2_with fail
  refine CP.mono ?_
  clear CP
  rintro e w3 ⟨x, T, a, c, ok, rfl, ho, hTl, h1, h2, hb3⟩
  have hz2 := B2.size
  have hlt2 : w.heap.size < w2.heap.size := b02.lt
  obtain ⟨V, hV, bV, hbV, hsV⟩ := boxes1 w3 [.int .i64 x, .slice a T.length c] 29
  have hoV := ho.below hbV
  have CK := implPathOk_any x T a c V hoV.reads (by rw [List.length_map] at hTl; omega)
  have BV : Below w.heap.size w V := (B2.trans (hb3.mono B2.size)).trans (hbV.mono (by have := hb3.size; omega))
  have b03 := (b02.below hb3 b02.lt).below hbV (by have := hb3.size; omega)
  have hs3 := hb3.size
  have hsV' := hbV.size
  have HFIN : Hid (∀ u, Below V.heap.size V u → ∀ v0 v1, ∃ WF, Hid ((u.setCell ⟨w.heap.size, 0, none⟩ v0).setCell ⟨w.heap.size, 1, none⟩ v1 = WF) ∧ (WF.cell? ⟨w.heap.size, 0, none⟩ = some v0 ∧ WF.cell? ⟨w.heap.size, 1, none⟩ = some v1) ∧ OwnPh WF w.heap.size WF.heap.size a c T ∧ Below w.heap.size w WF) := fun u hu v0 v1 => by
    obtain ⟨WF, hWF, bF, hwF, hsF⟩ := box2_fillP (b03.below hu (by omega)) v0 v1
    have hz := hu.size
    refine ⟨WF, hWF, ⟨bF.cell 0 _ rfl, bF.cell 1 _ rfl⟩, ?_, (BV.trans (hu.mono (by omega))).trans (hwF.below (Nat.le_refl _) (by omega))⟩
    exact ((hoV.below hu).within hwF (.inr (by omega))).widen (by omega) (by omega) (Nat.le_refl _)
  have HB0 : Hid (∀ u, Below V.heap.size V u → Box u w.heap.size [.int .i64 0, .slice none 0 0] 29 ∧ Box u w3.heap.size [.int .i64 x, .slice a T.length c] 29) := fun u hu => ⟨b03.below hu (by omega), bV.below hu bV.lt⟩
  have HANS : Hid (∀ WF, OwnPh WF w.heap.size WF.heap.size a c T → Below w.heap.size w WF → ((ok = true ∧ pathB x T = true) → PathAns w WF L (.returned (.tuple #[.agg #[.int .i64 x, .slice a T.length c], .bool true]))) ∧ ((ok = false ∨ pathB x T = false) → PathAns w WF L (.returned (.tuple #[.agg #[.int .i64 0, .slice none 0 0], .bool false])))) := fun WF h3 h4 => pathAns_of hct h1 h2 h3 h4
  have k0 := bV.cell 0 _ rfl
  have k1 := bV.cell 1 _ rfl
  clear bV b03 b02 hoV ho hb3 h1 h2 hct hTl BV B2 hs3 hsV' hsV hbV
  go_upto_region 2 with fail
  rw [hV.out]
  clear hV
  cases ok with
  | false =>
    obtain ⟨c0, -⟩ := HB0.out V (Below.refl _ _)
    obtain ⟨WF, hWF, ⟨r0, r1⟩, hoF, hbF⟩ := HFIN.out V (Below.refl _ _) (.int .i64 0) (.slice none 0 0)
    have HA : Hid (PathAns w WF L (.returned (.tuple #[.agg #[.int .i64 0, .slice none 0 0], .bool false]))) := (HANS.out WF hoF hbF).2 (.inl rfl)
    have y0 := c0.cell 0 _ rfl
    have y1 := c0.cell 1 _ rfl
    have v0 := c0.frozen 0
    have v1 := c0.frozen 1
    clear HANS HFIN HB0 c0 CK hoF hbF
    go_wp2
    rw [hWF.out]
    exact bodyPost_ret (v := .tuple #[.agg #[.int .i64 0, .slice none 0 0], .bool false]) (by simp [results, Tryd.results11, go_sem, r0, r1]) rfl HA.out
  | true =>
    go_wp2_with fail
    refine CK.mono ?_
    clear CK
    rintro e w4 ⟨rfl, hb4⟩
    obtain ⟨c0, c1'⟩ := HB0.out w4 hb4
    have y0 := c0.cell 0 _ rfl
    have y1 := c0.cell 1 _ rfl
    have v0 := c0.frozen 0
    have v1 := c0.frozen 1
    have x0 := c1'.cell 0 _ rfl
    have x1 := c1'.cell 1 _ rfl
    clear HB0 c0 c1' k0 k1
    cases hB : pathB x T with
    | false =>
      obtain ⟨WF, hWF, ⟨r0, r1⟩, hoF, hbF⟩ := HFIN.out w4 hb4 (.int .i64 0) (.slice none 0 0)
      have HA : Hid (PathAns w WF L (.returned (.tuple #[.agg #[.int .i64 0, .slice none 0 0], .bool false]))) := (HANS.out WF hoF hbF).2 (.inr hB)
      clear HANS HFIN hoF hbF hB
      go_wp2
      rw [hWF.out]
      exact bodyPost_ret (v := .tuple #[.agg #[.int .i64 0, .slice none 0 0], .bool false]) (by simp [results, Tryd.results11, go_sem, r0, r1]) rfl HA.out
    | true =>
      obtain ⟨WF, hWF, ⟨r0, r1⟩, hoF, hbF⟩ := HFIN.out w4 hb4 (.int .i64 x) (.slice a T.length c)
      have HA : Hid (PathAns w WF L (.returned (.tuple #[.agg #[.int .i64 x, .slice a T.length c], .bool true]))) := (HANS.out WF hoF hbF).1 ⟨by trivial, hB⟩
      clear HANS HFIN hoF hbF hB
      go_wp2
      rw [hWF.out]
      exact bodyPost_ret (v := .tuple #[.agg #[.int .i64 x, .slice a T.length c], .bool true]) (by simp [results, Tryd.results11, go_sem, r0, r1]) rfl HA.out
end Go.Proofs.YtajcffchopcamaaDoor
