/- Several texts in one, in their order. -/
import Derived.Test.YtajcffchopcamaaDoorPParsePathx24
import Derived.Test.YtajcffchopcamaaDoorPParsePathx22
import Derived.Test.YtajcffchopcamaaDoorPParsePathx12
import Derived.Lib.ItoaNum
import Derived.Lib.Join
/- The path of a text; the walk of spec.ParsePath. -/
namespace Go.Proofs.YtajcffchopcamaaDoor
open Go.RowKit

/-- What ParsePath answers: the path whose text it is, owned, or nothing where it is none's. -/
def PathAns (w w' : World) (L : List Int) (e : Ending) : Prop :=
  ((∃ (x : Int) (T : List StepV) (a : Option Addr) (c : Nat), e = .returned (.tuple #[.agg #[.int .i64 x, .slice a T.length c], .bool true]) ∧ IsPath L x T ∧ OwnPh w' w.heap.size w'.heap.size a c T) ∨ (e = .returned (.tuple #[.agg #[.int .i64 0, .slice none 0 0], .bool false]) ∧ ∀ y U, ¬ IsPath L y U)) ∧ Below w.heap.size w w'

theorem box2_fillP {w : World} {B : Nat} {x0 x1 : Value} {t : TypeId} (b : Box w B [x0, x1] t) (v0 v1 : Value) :
    ∃ W, Hid ((w.setCell ⟨B, 0, none⟩ v0).setCell ⟨B, 1, none⟩ v1 = W) ∧ Box W B [v0, v1] t ∧ Within B (B + 1) w W ∧ W.heap.size = w.heap.size := by
  refine ⟨_, rfl, by simpa using (b.set 0 v0).set 1 v1, (within_set w B 0 v0 (by omega)).trans (within_set _ B 1 v1 (by omega)), by simp⟩

/-- What the loop keeps: the box of the answer, the box of the path that is read, the row of its steps. -/
structure PIn (w : World) (x : Int) (wr : World) (T : List StepV) (a : Option Addr) (c : Nat) : Prop where
  sz : w.heap.size + 2 ≤ wr.heap.size
  b0 : Box wr w.heap.size [.int .i64 0, .slice none 0 0] 29
  b1 : Box wr (w.heap.size + 1) [.int .i64 x, .slice a T.length c] 29
  own : OwnPh wr (w.heap.size + 2) wr.heap.size a c T
  bl : Below w.heap.size w wr

theorem PIn.grown {w : World} {x : Int} {wr u w4 : World} {T : List StepV} {a : Option Addr} {c : Nat} (h : PIn w x wr T a c) (hu : Below wr.heap.size wr u) (hg : u.grownBy w4 (Value.slice a T.length c).ownBlock) :
    Box w4 w.heap.size [.int .i64 0, .slice none 0 0] 29 ∧ Box w4 (w.heap.size + 1) [.int .i64 x, .slice a T.length c] 29 ∧ Below w.heap.size w w4 ∧ w.heap.size + 2 ≤ w4.heap.size := by
  have tt := Touch.of_grown (bl := (Value.slice a T.length c).ownBlock.toList) hg (fun k hk => Option.mem_toList.2 hk)
  have nin : ∀ k, k < w.heap.size + 2 → k ∉ (Value.slice a T.length c).ownBlock.toList := fun k hk hm => by
    have := (h.own.lt k (Option.mem_toList.1 hm)).1
    omega
  have hz := h.sz
  have hsz := hu.size
  have c0 := h.b0.below hu (by omega)
  have c1 := h.b1.below hu (by omega)
  refine ⟨c0.block (tt.block _ c0.lt (nin _ (by omega))), c1.block (tt.block _ c1.lt (nin _ (by omega))), (h.bl.trans (hu.mono h.bl.size)).grown hg (by omega) (fun k hk => by have := (h.own.lt k hk).1; omega), by have := tt.size; omega⟩

theorem PathIn.none {L : List Int} {x : Int} {T U : List StepV} {i j : Nat} (h : PathIn L x T false i) : PathIn L x U false j := fun y V hP => by
  have := (h y V hP).2.1
  cases this

theorem PIn.put {w : World} {x : Int} {w4 : World} {T T3 : List StepV} {a a3 : Option Addr} {c c3 : Nat} (hb0 : Box w4 w.heap.size [.int .i64 0, .slice none 0 0] 29) (hb1 : Box w4 (w.heap.size + 1) [.int .i64 x, .slice a T.length c] 29) (hb : Below w.heap.size w w4) (hz : w.heap.size + 2 ≤ w4.heap.size) (ho : OwnPh w4 (w.heap.size + 2) w4.heap.size a3 c3 T3) :
    PIn w x (w4.setCell ⟨w.heap.size + 1, 1, none⟩ (.slice a3 T3.length c3)) T3 a3 c3 := by
  have hw := within_set w4 (w.heap.size + 1) 1 (.slice a3 T3.length c3) (lo := w.heap.size + 1) (hi := w.heap.size + 2) (by omega)
  refine ⟨by simpa using hz, hb0.other (by omega), hb1.set 1 _, ?_, hb.trans (hw.below (by omega) (by omega))⟩
  have := ho.within hw (.inr (Nat.le_refl _))
  simpa using this

theorem PIn.below {w : World} {x : Int} {wr u : World} {T : List StepV} {a : Option Addr} {c : Nat} (h : PIn w x wr T a c) (hu : Below wr.heap.size wr u) : PIn w x u T a c := by
  have hz := h.sz
  exact ⟨Nat.le_trans hz hu.size, h.b0.below hu (by omega), h.b1.below hu (by omega), (h.own.below hu).widen (Nat.le_refl _) hu.size (Nat.le_refl _), h.bl.trans (hu.mono h.bl.size)⟩

/-- The answer that is nothing, laid into the answer's box. -/
theorem PIn.no {w : World} {x : Int} {wr : World} {T : List StepV} {a : Option Addr} {c : Nat} (h : PIn w x wr T a c) {L : List Int} (hn : ∀ y U, ¬ IsPath L y U) :
    ∃ WF, Hid ((wr.setCell ⟨w.heap.size, 0, none⟩ (.int .i64 0)).setCell ⟨w.heap.size, 1, none⟩ (.slice none 0 0) = WF) ∧ (WF.cell? ⟨w.heap.size, 0, none⟩ = some (.int .i64 0) ∧ WF.cell? ⟨w.heap.size, 1, none⟩ = some (.slice none 0 0)) ∧ Hid (PathAns w WF L (.returned (.tuple #[.agg #[.int .i64 0, .slice none 0 0], .bool false]))) := by
  obtain ⟨WF, hWF, bF, hwF, -⟩ := box2_fillP h.b0 (.int .i64 0) (.slice none 0 0)
  have hz := h.sz
  exact ⟨WF, hWF, ⟨bF.cell 0 _ rfl, bF.cell 1 _ rfl⟩, .inr ⟨rfl, hn⟩, h.bl.trans (hwF.below (Nat.le_refl _) (by omega))⟩
/-- The path that was read, laid into the answer's box. -/
theorem PIn.yes {w : World} {x : Int} {wr : World} {T : List StepV} {a : Option Addr} {c : Nat} (h : PIn w x wr T a c) {L : List Int} (hn : IsPath L x T) :
    ∃ WF, Hid ((wr.setCell ⟨w.heap.size, 0, none⟩ (.int .i64 x)).setCell ⟨w.heap.size, 1, none⟩ (.slice a T.length c) = WF) ∧ (WF.cell? ⟨w.heap.size, 0, none⟩ = some (.int .i64 x) ∧ WF.cell? ⟨w.heap.size, 1, none⟩ = some (.slice a T.length c)) ∧ Hid (PathAns w WF L (.returned (.tuple #[.agg #[.int .i64 x, .slice a T.length c], .bool true]))) := by
  obtain ⟨WF, hWF, bF, hwF, hsF⟩ := box2_fillP h.b0 (.int .i64 x) (.slice a T.length c)
  have hz := h.sz
  refine ⟨WF, hWF, ⟨bF.cell 0 _ rfl, bF.cell 1 _ rfl⟩, .inl ⟨x, T, a, c, rfl, hn, ?_⟩, h.bl.trans (hwF.below (Nat.le_refl _) (by omega))⟩
  exact (h.own.within hwF (.inr (by omega))).widen (by omega) (by omega) (Nat.le_refl _)

theorem strOf_back (s : ByteArray) : strOf (sBytes s) = s := by
  apply ByteArray.ext
  apply Array.ext'
  unfold strOf sBytes
  simp [Function.comp_def]
theorem sBytes_strOfP (L : List Int) (h : ∀ z ∈ L, 0 ≤ z ∧ z < 256) : sBytes (strOf L) = L := by
  unfold sBytes strOf
  simp only [List.map_map]
  conv => rhs; rw [← List.map_id L]
  apply List.map_congr_left
  intro z hz
  have := h z hz
  simp
  omega
theorem num_byte (n : Int) : ∀ z ∈ numText n, 0 ≤ z ∧ z < 256 := by
  intro z hz
  unfold numText at hz
  split at hz
  · rcases List.mem_cons.1 hz with rfl | hz
    · decide
    · have := isDig_bd (decOf_dig _ z hz); omega
  · have := isDig_bd (decOf_dig _ z hz); omega
theorem stepText_byte (s : StepV) : ∀ z ∈ stepText s, 0 ≤ z ∧ z < 256 := by
  have hn := num_byte s.num
  intro z hz
  unfold stepText at hz
  repeat' split at hz
  all_goals simp only [List.mem_append, List.mem_cons, List.not_mem_nil, or_false] at hz
  · rcases hz with rfl | hz
    · decide
    · exact hn z hz
  · rcases hz with rfl | rfl <;> decide
  · rcases hz with rfl | rfl | rfl <;> decide
  · rcases hz with ((rfl | rfl | rfl) | hz) | rfl
    · decide
    · decide
    · decide
    · exact hn z hz
    · decide
  · rcases hz with ((rfl | rfl | rfl) | hz) | rfl
    · decide
    · decide
    · decide
    · exact hn z hz
    · decide
theorem pathTo_byte (x : Int) (T : List StepV) (k : Nat) : ∀ z ∈ pathTo x T k, 0 ≤ z ∧ z < 256 := by
  intro z hz
  unfold pathTo at hz
  rcases List.mem_append.1 hz with hz | hz
  · exact num_byte x z hz
  · obtain ⟨s, -, hs⟩ := List.mem_flatMap.1 hz
    exact stepText_byte s z hs
/-- A right path's text is the text s just where s is the path's. -/
theorem path_same {x : Int} {T : List StepV} (hB : pathB x T = true) (s : ByteArray) : strOf (pathText x T) = s ↔ IsPath (sBytes s) x T := by
  have e : pathText x T = pathTo x T T.length := by rw [pathText, if_pos hB]
  rw [e]
  constructor
  · intro h
    refine ⟨hB, ?_⟩
    rw [← h, sBytes_strOfP _ (pathTo_byte x T _)]
  · intro h
    rw [h.2, strOf_back]

set_option maxHeartbeats 4000000 in
set_option maxRecDepth 100000 in
theorem specParsePath_any (s : ByteArray) (w : World) (hs : s.size ≤ 1048576) :
    Calls Tryd.prog 10 #[.string s] w fun e w' => PathAns w w' (sBytes s) e := by
  obtain ⟨W, hW, b0, hbW, hsW⟩ := boxes1 w [.int .i64 0, .slice none 0 0] 29
  have CE := l12End_any s 0 W hs (Nat.zero_le _)
  go_enter Tryd.func10, Tryd.ntmps10
  go_upto_region 1 with fail
  rw [hW.out]
  clear hW
  go_wp2_with fail
  refine CE.mono ?_
  rintro e w1 ⟨⟨j, rfl, -, hj, hE⟩, rfl⟩
  clear CE
  have CN := l2Number_any (s.extract 0 j) w1 (by simp [ByteArray.size_extract]; omega)
  go_wp2_with fail
  refine CN.mono ?_
  rintro e w2 ⟨rfl, rfl⟩
  clear CN
  have HN : Hid (∀ q, numberOf (sBytes (s.extract 0 j)) = q → PathIn (sBytes s) (q.getD 0) [] q.isSome j) := fun q h => by subst h; rw [sBytes_extract]; exact pathIn_start hE.out
  obtain ⟨x, ok, hv, HI⟩ : ∃ (x : Int) (ok : Bool), numAns (numberOf (sBytes (s.extract 0 j))) = .tuple #[.int .i64 x, .bool ok] ∧ Hid (PathIn (sBytes s) x [] ok j) := by
    cases hq : numberOf (sBytes (s.extract 0 j)) with
    | none => exact ⟨0, false, rfl, HN.out none hq⟩
    | some z => exact ⟨z, true, rfl, HN.out (some z) hq⟩
  rw [hv]
  clear hv HN hE
  have hsW0 : Hid (w2.heap.size = w.heap.size + 1) := hsW
  clear hsW
  have hlt0 := b0.lt
  obtain ⟨W4, hW4, b4, b5, hb4, hs4⟩ : ∃ W4, Hid (w2.alloc (.cells #[.int .i64 x, .slice none 0 0] 29) = W4) ∧ Box W4 w.heap.size [.int .i64 0, .slice none 0 0] 29 ∧ Box W4 (w.heap.size + 1) [.int .i64 x, .slice none 0 0] 29 ∧ Below w.heap.size w W4 ∧ W4.heap.size = w.heap.size + 2 := by
    refine ⟨_, rfl, b0.alloc _, ?_, hbW.alloc (by omega) _, by simp [hsW0.out]⟩
    have := box_new w2 [.int .i64 x, .slice none 0 0] 29
    rw [hsW0.out] at this
    exact this
  have ho4 : OwnPh W4 (w.heap.size + 2) W4.heap.size none 0 [] := ownPh_nil W4 _ _ (Nat.le_refl _)
  have HS4 : Hid (W4.heap.size = w.heap.size + 2) := hs4
  clear hs4 hlt0 b0 hbW
  go_upto_region 4 with fail
  rw [hW4.out, hsW0.out]
  clear hW4
  go_loopw [4, 6] (fun at' ok' wr => ∃ (i : Nat) (T : List StepV) (a : Option Addr) (c : Nat) (ok : Bool), at' = .int .i64 i ∧ ok' = .bool ok ∧ i ≤ s.size ∧ T.length ≤ 9 ∧ Hid (PIn w x wr T a c) ∧ Hid (PathIn (sBytes s) x T ok i)) (fun at' _ _ => s.size - (intOf at').toNat)
  case atStart => exact ⟨j, [], none, 0, ok, rfl, rfl, hj, by simp, ⟨by rw [HS4.out]; omega, b4, b5, by rw [HS4.out] at ho4 ⊢; exact ho4, hb4⟩, HI⟩
  case round =>
    clear b4 b5 ho4 hb4 HI HS4 hj
    obtain ⟨i, T, a, c, ok, rfl, rfl, hi, hT9, HP, HI⟩ := hrel
    have q0 := HP.out.b1.cell 0 _ rfl
    have q1 := HP.out.b1.cell 1 _ rfl
    by_cases hgo : i < s.size ∧ ok = true ∧ T.length ≤ 8
    · obtain ⟨hlt, rfl, hT8⟩ := hgo
      have hT8i : (T.length : Int) ≤ 8 := by omega
      have CE := l12End_any s (i + 1) wr hs hlt
      rw [show ((i + 1 : Nat) : Int) = (i : Int) + 1 from by omega] at CE
      go_wp2_with fail
      refine CE.mono ?_
      rintro e w3 ⟨⟨j2, rfl, hij, hj2, hE⟩, rfl⟩
      clear CE
      have HNX : Hid (∀ q, pieceOf (sBytes (s.extract i j2)) = q → PathIn (sBytes s) x (T ++ [q.getD ⟨0, 0⟩]) q.isSome j2) := fun q h => by
        subst h
        rw [sBytes_extract]
        exact pathIn_step HI.out (by rw [sBytes_len]; exact hlt) hE.out
      have hPs : Hid ((s.extract i j2).size = j2 - i) := by simp [Hid, ByteArray.size_extract]; omega
      have hPp : 0 < (s.extract i j2).size := by rw [hPs.out]; omega
      have hPq : (s.extract i j2).size ≤ 1048576 := by rw [hPs.out]; omega
      have hijI : (i : Int) ≤ (j2 : Int) := by omega
      clear HI hE
      go_upto_region 9 with fail
      generalize s.extract i j2 = P at *
      rw [← hPs.out] -- RWP
      rcases piece_ways P hPp with ⟨k1, hq⟩ | ⟨k1, k2, hq⟩ | ⟨k1, k2, k3, hq⟩ | ⟨k1, k2, k3, ⟨k4, k5, hq⟩ | ⟨k4, k5, k6, hq⟩ | ⟨k4, k5, k6, hq⟩ | ⟨k4, hq⟩⟩
      · have HX : Hid (PathIn (sBytes s) x (T ++ [⟨2, 0⟩]) true j2) := HNX.out _ hq
        clear hq HNX hPs
        go_upto_region 22 with fail
        have hu : Below w3.heap.size w3 ((w3.alloc (.cells #[.int .i64 2, .int .i64 0] 41)).alloc (.cells #[.int .i64 2, .int .i64 0] 41)) := ((Below.refl _ _).alloc (Nat.le_refl _) _).alloc (by simp) _
        have hoA := HP.out.own.below hu
        have hr1 := readsPh_one (w3.alloc (.cells #[.int .i64 2, .int .i64 0] 41)) ⟨2, 0⟩ 41
        rw [show (w3.alloc (.cells #[.int .i64 2, .int .i64 0] 41)).heap.size = w3.heap.size + 1 from by simp] at hr1
        have HU := HP
        have q1A := (HP.out.b1.below ((Below.refl w3.heap.size w3).alloc (Nat.le_refl _) (.cells #[.int .i64 2, .int .i64 0] 41)) (by have := HP.out.sz; omega)).cell 1 _ rfl
        have hlo : w.heap.size + 2 ≤ ((w3.alloc (.cells #[.int .i64 2, .int .i64 0] 41)).alloc (.cells #[.int .i64 2, .int .i64 0] 41)).heap.size := by have := HP.out.sz; simp; omega
        go_wp2_with (at_builtin; refine append_steps rfl _ _ rfl (w.heap.size + 2) w3.heap.size a c T rfl hoA (some ⟨w3.heap.size + 1, 0, none⟩) 1 [⟨2, 0⟩] rfl hr1 (by intro h; cases h) (by simp; omega) hlo ?_; intro a3 c3 T3 w4 hT3 ho3 hg3; have hgg := HU.out.grown hu hg3; have p1 := hgg.2.1.cell 1 _ rfl; have f1 := hgg.2.1.frozen 1)
        go_roundw
        case rel => exact ⟨j2, T3, a3, c3, true, rfl, rfl, hj2, by rw [hT3.out]; simp; omega, PIn.put hgg.1 hgg.2.1 hgg.2.2.1 hgg.2.2.2 ho3, by rw [hT3.out]; exact HX.out⟩
        case measure => simp [intOf]; omega
      · have HX : Hid (PathIn (sBytes s) x (T ++ [⟨3, 0⟩]) true j2) := HNX.out _ hq
        clear hq HNX hPs
        go_upto_region 22 with fail
        have hu : Below w3.heap.size w3 ((w3.alloc (.cells #[.int .i64 3, .int .i64 0] 41)).alloc (.cells #[.int .i64 3, .int .i64 0] 41)) := ((Below.refl _ _).alloc (Nat.le_refl _) _).alloc (by simp) _
        have hoA := HP.out.own.below hu
        have hr1 := readsPh_one (w3.alloc (.cells #[.int .i64 3, .int .i64 0] 41)) ⟨3, 0⟩ 41
        rw [show (w3.alloc (.cells #[.int .i64 3, .int .i64 0] 41)).heap.size = w3.heap.size + 1 from by simp] at hr1
        have HU := HP
        have q1A := (HP.out.b1.below ((Below.refl w3.heap.size w3).alloc (Nat.le_refl _) (.cells #[.int .i64 3, .int .i64 0] 41)) (by have := HP.out.sz; omega)).cell 1 _ rfl
        have hlo : w.heap.size + 2 ≤ ((w3.alloc (.cells #[.int .i64 3, .int .i64 0] 41)).alloc (.cells #[.int .i64 3, .int .i64 0] 41)).heap.size := by have := HP.out.sz; simp; omega
        go_wp2_with (at_builtin; refine append_steps rfl _ _ rfl (w.heap.size + 2) w3.heap.size a c T rfl hoA (some ⟨w3.heap.size + 1, 0, none⟩) 1 [⟨3, 0⟩] rfl hr1 (by intro h; cases h) (by simp; omega) hlo ?_; intro a3 c3 T3 w4 hT3 ho3 hg3; have hgg := HU.out.grown hu hg3; have p1 := hgg.2.1.cell 1 _ rfl; have f1 := hgg.2.1.frozen 1)
        go_roundw
        case rel => exact ⟨j2, T3, a3, c3, true, rfl, rfl, hj2, by rw [hT3.out]; simp; omega, PIn.put hgg.1 hgg.2.1 hgg.2.2.1 hgg.2.2.2 ho3, by rw [hT3.out]; exact HX.out⟩
        case measure => simp [intOf]; omega
      · have C := l2Number_any (P.extract 1 P.size) (w3.alloc (.cells #[.int .i64 1, .int .i64 0] 41)) (by simp [ByteArray.size_extract]; omega)
        obtain ⟨z, g, hv, HX⟩ : ∃ (z : Int) (g : Bool), numAns (numberOf (sBytes (P.extract 1 P.size))) = .tuple #[.int .i64 z, .bool g] ∧ Hid (PathIn (sBytes s) x (T ++ [⟨1, z⟩]) g j2) := by
          cases hn : numberOf (sBytes (P.extract 1 P.size)) with
          | none => exact ⟨0, false, rfl, (HNX.out none (by rw [hq, hn]; rfl)).none⟩
          | some z => exact ⟨z, true, rfl, HNX.out (some ⟨1, z⟩) (by rw [hq, hn]; rfl)⟩
        rw [hv] at C
        clear hv hq HNX hPs
        go_wp2_with fail
        refine C.mono ?_
        rintro e w5 ⟨rfl, rfl⟩
        clear C
        go_upto_region 22 with fail
        have hu : Below w3.heap.size w3 ((w3.alloc (.cells #[.int .i64 1, .int .i64 z] 41)).alloc (.cells #[.int .i64 1, .int .i64 z] 41)) := ((Below.refl _ _).alloc (Nat.le_refl _) _).alloc (by simp) _
        have hoA := HP.out.own.below hu
        have hr1 := readsPh_one (w3.alloc (.cells #[.int .i64 1, .int .i64 z] 41)) ⟨1, z⟩ 41
        rw [show (w3.alloc (.cells #[.int .i64 1, .int .i64 z] 41)).heap.size = w3.heap.size + 1 from by simp] at hr1
        have HU := HP
        have q1A := (HP.out.b1.below ((Below.refl w3.heap.size w3).alloc (Nat.le_refl _) (.cells #[.int .i64 1, .int .i64 z] 41)) (by have := HP.out.sz; omega)).cell 1 _ rfl
        have hlo : w.heap.size + 2 ≤ ((w3.alloc (.cells #[.int .i64 1, .int .i64 z] 41)).alloc (.cells #[.int .i64 1, .int .i64 z] 41)).heap.size := by have := HP.out.sz; simp; omega
        go_wp2_with (at_builtin; refine append_steps rfl _ _ rfl (w.heap.size + 2) w3.heap.size a c T rfl hoA (some ⟨w3.heap.size + 1, 0, none⟩) 1 [⟨1, z⟩] rfl hr1 (by intro h; cases h) (by simp; omega) hlo ?_; intro a3 c3 T3 w4 hT3 ho3 hg3; have hgg := HU.out.grown hu hg3; have p1 := hgg.2.1.cell 1 _ rfl; have f1 := hgg.2.1.frozen 1)
        go_roundw
        case rel => exact ⟨j2, T3, a3, c3, g, rfl, rfl, hj2, by rw [hT3.out]; simp; omega, PIn.put hgg.1 hgg.2.1 hgg.2.2.1 hgg.2.2.2 ho3, by rw [hT3.out]; exact HX.out⟩
        case measure => simp [intOf]; omega
      · have C := l2Number_any (P.extract 3 (P.size - 1)) (w3.alloc (.cells #[.int .i64 4, .int .i64 0] 41)) (by simp [ByteArray.size_extract]; omega)
        have k4i : (4 : Int) < (P.size : Int) := by omega
        have k43 : 3 ≤ P.size := by omega
        have k43i : (3 : Int) ≤ (P.size : Int) := by omega
        have kc : ((P.size : Int) - 1) = ((P.size - 1 : Nat) : Int) := by omega
        have kd : (3 : Int) ≤ ((P.size - 1 : Nat) : Int) := by omega
        have ke : 3 ≤ P.size - 1 := by omega
        have kf : ((P.size - 1 : Nat) : Int) ≤ (P.size : Int) := by omega
        obtain ⟨z, g, hv, HX⟩ : ∃ (z : Int) (g : Bool), numAns (numberOf (sBytes (P.extract 3 (P.size - 1)))) = .tuple #[.int .i64 z, .bool g] ∧ Hid (PathIn (sBytes s) x (T ++ [⟨4, z⟩]) g j2) := by
          cases hn : numberOf (sBytes (P.extract 3 (P.size - 1))) with
          | none => exact ⟨0, false, rfl, (HNX.out none (by rw [hq, hn]; rfl)).none⟩
          | some z => exact ⟨z, true, rfl, HNX.out (some ⟨4, z⟩) (by rw [hq, hn]; rfl)⟩
        rw [hv] at C
        clear hv hq HNX hPs
        go_wp2_with fail
        refine C.mono ?_
        rintro e w5 ⟨rfl, rfl⟩
        clear C
        go_upto_region 22 with fail
        have hu : Below w3.heap.size w3 ((w3.alloc (.cells #[.int .i64 4, .int .i64 z] 41)).alloc (.cells #[.int .i64 4, .int .i64 z] 41)) := ((Below.refl _ _).alloc (Nat.le_refl _) _).alloc (by simp) _
        have hoA := HP.out.own.below hu
        have hr1 := readsPh_one (w3.alloc (.cells #[.int .i64 4, .int .i64 z] 41)) ⟨4, z⟩ 41
        rw [show (w3.alloc (.cells #[.int .i64 4, .int .i64 z] 41)).heap.size = w3.heap.size + 1 from by simp] at hr1
        have HU := HP
        have q1A := (HP.out.b1.below ((Below.refl w3.heap.size w3).alloc (Nat.le_refl _) (.cells #[.int .i64 4, .int .i64 z] 41)) (by have := HP.out.sz; omega)).cell 1 _ rfl
        have hlo : w.heap.size + 2 ≤ ((w3.alloc (.cells #[.int .i64 4, .int .i64 z] 41)).alloc (.cells #[.int .i64 4, .int .i64 z] 41)).heap.size := by have := HP.out.sz; simp; omega
        go_wp2_with (at_builtin; refine append_steps rfl _ _ rfl (w.heap.size + 2) w3.heap.size a c T rfl hoA (some ⟨w3.heap.size + 1, 0, none⟩) 1 [⟨4, z⟩] rfl hr1 (by intro h; cases h) (by simp; omega) hlo ?_; intro a3 c3 T3 w4 hT3 ho3 hg3; have hgg := HU.out.grown hu hg3; have p1 := hgg.2.1.cell 1 _ rfl; have f1 := hgg.2.1.frozen 1)
        go_roundw
        case rel => exact ⟨j2, T3, a3, c3, g, rfl, rfl, hj2, by rw [hT3.out]; simp; omega, PIn.put hgg.1 hgg.2.1 hgg.2.2.1 hgg.2.2.2 ho3, by rw [hT3.out]; exact HX.out⟩
        case measure => simp [intOf]; omega
      · have C := l2Number_any (P.extract 3 (P.size - 1)) (w3.alloc (.cells #[.int .i64 5, .int .i64 0] 41)) (by simp [ByteArray.size_extract]; omega)
        have k4i : (4 : Int) < (P.size : Int) := by omega
        have k43 : 3 ≤ P.size := by omega
        have k43i : (3 : Int) ≤ (P.size : Int) := by omega
        have kc : ((P.size : Int) - 1) = ((P.size - 1 : Nat) : Int) := by omega
        have kd : (3 : Int) ≤ ((P.size - 1 : Nat) : Int) := by omega
        have ke : 3 ≤ P.size - 1 := by omega
        have kf : ((P.size - 1 : Nat) : Int) ≤ (P.size : Int) := by omega
        obtain ⟨z, g, hv, HX⟩ : ∃ (z : Int) (g : Bool), numAns (numberOf (sBytes (P.extract 3 (P.size - 1)))) = .tuple #[.int .i64 z, .bool g] ∧ Hid (PathIn (sBytes s) x (T ++ [⟨5, z⟩]) g j2) := by
          cases hn : numberOf (sBytes (P.extract 3 (P.size - 1))) with
          | none => exact ⟨0, false, rfl, (HNX.out none (by rw [hq, hn]; rfl)).none⟩
          | some z => exact ⟨z, true, rfl, HNX.out (some ⟨5, z⟩) (by rw [hq, hn]; rfl)⟩
        rw [hv] at C
        clear hv hq HNX hPs
        go_wp2_with fail
        refine C.mono ?_
        rintro e w5 ⟨rfl, rfl⟩
        clear C
        go_upto_region 22 with fail
        have hu : Below w3.heap.size w3 ((w3.alloc (.cells #[.int .i64 5, .int .i64 z] 41)).alloc (.cells #[.int .i64 5, .int .i64 z] 41)) := ((Below.refl _ _).alloc (Nat.le_refl _) _).alloc (by simp) _
        have hoA := HP.out.own.below hu
        have hr1 := readsPh_one (w3.alloc (.cells #[.int .i64 5, .int .i64 z] 41)) ⟨5, z⟩ 41
        rw [show (w3.alloc (.cells #[.int .i64 5, .int .i64 z] 41)).heap.size = w3.heap.size + 1 from by simp] at hr1
        have HU := HP
        have q1A := (HP.out.b1.below ((Below.refl w3.heap.size w3).alloc (Nat.le_refl _) (.cells #[.int .i64 5, .int .i64 z] 41)) (by have := HP.out.sz; omega)).cell 1 _ rfl
        have hlo : w.heap.size + 2 ≤ ((w3.alloc (.cells #[.int .i64 5, .int .i64 z] 41)).alloc (.cells #[.int .i64 5, .int .i64 z] 41)).heap.size := by have := HP.out.sz; simp; omega
        go_wp2_with (at_builtin; refine append_steps rfl _ _ rfl (w.heap.size + 2) w3.heap.size a c T rfl hoA (some ⟨w3.heap.size + 1, 0, none⟩) 1 [⟨5, z⟩] rfl hr1 (by intro h; cases h) (by simp; omega) hlo ?_; intro a3 c3 T3 w4 hT3 ho3 hg3; have hgg := HU.out.grown hu hg3; have p1 := hgg.2.1.cell 1 _ rfl; have f1 := hgg.2.1.frozen 1)
        go_roundw
        case rel => exact ⟨j2, T3, a3, c3, g, rfl, rfl, hj2, by rw [hT3.out]; simp; omega, PIn.put hgg.1 hgg.2.1 hgg.2.2.1 hgg.2.2.2 ho3, by rw [hT3.out]; exact HX.out⟩
        case measure => simp [intOf]; omega
      · have HX : Hid (PathIn (sBytes s) x (T ++ [⟨0, 0⟩]) true j2) := HNX.out _ hq
        have k4i : (4 : Int) < (P.size : Int) := by omega
        have k43 : 3 ≤ P.size := by omega
        have k43i : (3 : Int) ≤ (P.size : Int) := by omega
        clear hq HNX hPs
        go_upto_region 22 with fail
        have hu : Below w3.heap.size w3 ((w3.alloc (.cells #[.int .i64 0, .int .i64 0] 41)).alloc (.cells #[.int .i64 0, .int .i64 0] 41)) := ((Below.refl _ _).alloc (Nat.le_refl _) _).alloc (by simp) _
        have hoA := HP.out.own.below hu
        have hr1 := readsPh_one (w3.alloc (.cells #[.int .i64 0, .int .i64 0] 41)) ⟨0, 0⟩ 41
        rw [show (w3.alloc (.cells #[.int .i64 0, .int .i64 0] 41)).heap.size = w3.heap.size + 1 from by simp] at hr1
        have HU := HP
        have q1A := (HP.out.b1.below ((Below.refl w3.heap.size w3).alloc (Nat.le_refl _) (.cells #[.int .i64 0, .int .i64 0] 41)) (by have := HP.out.sz; omega)).cell 1 _ rfl
        have hlo : w.heap.size + 2 ≤ ((w3.alloc (.cells #[.int .i64 0, .int .i64 0] 41)).alloc (.cells #[.int .i64 0, .int .i64 0] 41)).heap.size := by have := HP.out.sz; simp; omega
        go_wp2_with (at_builtin; refine append_steps rfl _ _ rfl (w.heap.size + 2) w3.heap.size a c T rfl hoA (some ⟨w3.heap.size + 1, 0, none⟩) 1 [⟨0, 0⟩] rfl hr1 (by intro h; cases h) (by simp; omega) hlo ?_; intro a3 c3 T3 w4 hT3 ho3 hg3; have hgg := HU.out.grown hu hg3; have p1 := hgg.2.1.cell 1 _ rfl; have f1 := hgg.2.1.frozen 1)
        go_roundw
        case rel => exact ⟨j2, T3, a3, c3, true, rfl, rfl, hj2, by rw [hT3.out]; simp; omega, PIn.put hgg.1 hgg.2.1 hgg.2.2.1 hgg.2.2.2 ho3, by rw [hT3.out]; exact HX.out⟩
        case measure => simp [intOf]; omega
      · have HX : Hid (PathIn (sBytes s) x (T ++ [⟨0, 0⟩]) true j2) := HNX.out _ hq
        have k4i : ¬ (4 : Int) < (P.size : Int) := by omega
        clear hq HNX hPs
        go_upto_region 22 with fail
        have hu : Below w3.heap.size w3 ((w3.alloc (.cells #[.int .i64 0, .int .i64 0] 41)).alloc (.cells #[.int .i64 0, .int .i64 0] 41)) := ((Below.refl _ _).alloc (Nat.le_refl _) _).alloc (by simp) _
        have hoA := HP.out.own.below hu
        have hr1 := readsPh_one (w3.alloc (.cells #[.int .i64 0, .int .i64 0] 41)) ⟨0, 0⟩ 41
        rw [show (w3.alloc (.cells #[.int .i64 0, .int .i64 0] 41)).heap.size = w3.heap.size + 1 from by simp] at hr1
        have HU := HP
        have q1A := (HP.out.b1.below ((Below.refl w3.heap.size w3).alloc (Nat.le_refl _) (.cells #[.int .i64 0, .int .i64 0] 41)) (by have := HP.out.sz; omega)).cell 1 _ rfl
        have hlo : w.heap.size + 2 ≤ ((w3.alloc (.cells #[.int .i64 0, .int .i64 0] 41)).alloc (.cells #[.int .i64 0, .int .i64 0] 41)).heap.size := by have := HP.out.sz; simp; omega
        go_wp2_with (at_builtin; refine append_steps rfl _ _ rfl (w.heap.size + 2) w3.heap.size a c T rfl hoA (some ⟨w3.heap.size + 1, 0, none⟩) 1 [⟨0, 0⟩] rfl hr1 (by intro h; cases h) (by simp; omega) hlo ?_; intro a3 c3 T3 w4 hT3 ho3 hg3; have hgg := HU.out.grown hu hg3; have p1 := hgg.2.1.cell 1 _ rfl; have f1 := hgg.2.1.frozen 1)
        go_roundw
        case rel => exact ⟨j2, T3, a3, c3, true, rfl, rfl, hj2, by rw [hT3.out]; simp; omega, PIn.put hgg.1 hgg.2.1 hgg.2.2.1 hgg.2.2.2 ho3, by rw [hT3.out]; exact HX.out⟩
        case measure => simp [intOf]; omega
    · have hz := HP.out.sz
      have z0 := HP.out.b0.cell 0 _ rfl
      have z1 := HP.out.b0.cell 1 _ rfl
      have g0 := HP.out.b0.frozen 0
      have g1 := HP.out.b0.frozen 1
      clear hz
      cases ok with
      | false =>
        obtain ⟨WF, hWF, ⟨r0, r1⟩, HA⟩ := HP.out.no (pathIn_none HI.out (.inl rfl))
        clear HP HI hgo
        by_cases hlt : i < s.size
        · go_wp2
          rw [hWF.out]
          exact bodyPost_ret (v := .tuple #[.agg #[.int .i64 0, .slice none 0 0], .bool false]) (by simp [results, Tryd.results10, go_sem, r0, r1]) rfl HA.out
        · go_wp2
          rw [hWF.out]
          exact bodyPost_ret (v := .tuple #[.agg #[.int .i64 0, .slice none 0 0], .bool false]) (by simp [results, Tryd.results10, go_sem, r0, r1]) rfl HA.out
      | true =>
        have HU : Hid (∀ y U, IsPath (sBytes s) y U → y = x ∧ U = T) := by
          by_cases hlt : i < s.size
          · exact fun y U hP => absurd hP (pathIn_none HI.out (.inr (by
              rcases Nat.lt_or_ge 8 T.length with g | g
              · exact g
              · exact absurd ⟨hlt, rfl, g⟩ hgo)) y U)
          · exact pathIn_end HI.out (by rw [sBytes_len]; omega)
        have hgo' : i < s.size → ¬ (T.length : Int) ≤ 8 := fun h1 h2 => hgo ⟨h1, rfl, by omega⟩
        have COK := specPathOk_any x T a c wr HP.out.own.reads (by omega)
        have HTX : Hid (∀ u, Below wr.heap.size wr u → Calls Tryd.prog 6 #[.agg #[.int .i64 x, .slice a T.length c]] u fun e w' => e = .returned (.string (strOf (pathText x T))) ∧ Below u.heap.size u w') := fun u hu => specPathText_any x T a c u (HP.out.own.reads.below hu) (by omega)
        have HPB : Hid (∀ u, Below wr.heap.size wr u → PIn w x u T a c) := fun u hu => HP.out.below hu
        clear HP HI hgo z0 z1 g0 g1
        cases hB : pathB x T with
        | false =>
          have HNO : Hid (∀ y U, ¬ IsPath (sBytes s) y U) := fun y U hP => by
            obtain ⟨rfl, rfl⟩ := HU.out y U hP
            rw [hP.1] at hB
            cases hB
          rw [hB] at COK
          clear hB HU HTX
          by_cases hlt : i < s.size
          · have hT8 := hgo' hlt
            clear hgo'
            go_wp2_with fail
            refine COK.mono ?_
            rintro e w5 ⟨rfl, hb5⟩
            have HPF := HPB.out w5 hb5
            have z0 := HPF.b0.cell 0 _ rfl
            have z1 := HPF.b0.cell 1 _ rfl
            have g0 := HPF.b0.frozen 0
            have g1 := HPF.b0.frozen 1
            obtain ⟨WF, hWF, ⟨r0, r1⟩, HA⟩ := HPF.no HNO.out
            clear HPF HPB hb5
            go_wp2
            rw [hWF.out]
            exact bodyPost_ret (v := .tuple #[.agg #[.int .i64 0, .slice none 0 0], .bool false]) (by simp [results, Tryd.results10, go_sem, r0, r1]) rfl HA.out
          · clear hgo'
            go_wp2_with fail
            refine COK.mono ?_
            rintro e w5 ⟨rfl, hb5⟩
            have HPF := HPB.out w5 hb5
            have z0 := HPF.b0.cell 0 _ rfl
            have z1 := HPF.b0.cell 1 _ rfl
            have g0 := HPF.b0.frozen 0
            have g1 := HPF.b0.frozen 1
            obtain ⟨WF, hWF, ⟨r0, r1⟩, HA⟩ := HPF.no HNO.out
            clear HPF HPB hb5
            go_wp2
            rw [hWF.out]
            exact bodyPost_ret (v := .tuple #[.agg #[.int .i64 0, .slice none 0 0], .bool false]) (by simp [results, Tryd.results10, go_sem, r0, r1]) rfl HA.out
        | true =>
          have HPS : Hid (strOf (pathText x T) = s ↔ IsPath (sBytes s) x T) := path_same hB s
          rw [hB] at COK
          clear hB
          generalize strOf (pathText x T) = R at *
          by_cases hlt : i < s.size
          · have hT8 := hgo' hlt
            clear hgo'
            go_wp2_with fail
            refine COK.mono ?_
            rintro e w5 ⟨rfl, hb5⟩
            have q0 := (HPB.out w5 hb5).b1.cell 0 _ rfl
            have q1 := (HPB.out w5 hb5).b1.cell 1 _ rfl
            have CT := HTX.out w5 hb5
            go_wp2_with fail
            refine CT.mono ?_
            rintro e w6 ⟨rfl, hb6⟩
            have HPF := HPB.out w6 (hb5.trans (hb6.mono hb5.size))
            clear q0 q1 CT
            have q0 := HPF.b1.cell 0 _ rfl
            have q1 := HPF.b1.cell 1 _ rfl
            have z0 := HPF.b0.cell 0 _ rfl
            have z1 := HPF.b0.cell 1 _ rfl
            have g0 := HPF.b0.frozen 0
            have g1 := HPF.b0.frozen 1
            by_cases hRs : R = s
            · have hTb : (R.toList == s.toList) = true := by rw [hRs]; simp
              obtain ⟨WF, hWF, ⟨r0, r1⟩, HA⟩ := HPF.yes (HPS.out.1 hRs)
              clear HPF HPB hb5 hb6 HTX HU HPS hRs
              go_wp2
              rw [hWF.out]
              exact bodyPost_ret (v := .tuple #[.agg #[.int .i64 x, .slice a T.length c], .bool true]) (by simp [results, Tryd.results10, go_sem, r0, r1]) rfl HA.out
            · have hTb : (R.toList == s.toList) = false := by
                rw [ByteArray.toList_eq, ByteArray.toList_eq]
                simp only [beq_eq_false_iff_ne]
                exact fun e => hRs (ByteArray.ext (Array.toList_inj.1 e))
              obtain ⟨WF, hWF, ⟨r0, r1⟩, HA⟩ := HPF.no (L := sBytes s) (fun y U hP => by
                obtain ⟨rfl, rfl⟩ := HU.out y U hP
                exact hRs (HPS.out.2 hP))
              clear HPF HPB hb5 hb6 HTX HU HPS hRs
              go_wp2
              rw [hWF.out]
              exact bodyPost_ret (v := .tuple #[.agg #[.int .i64 0, .slice none 0 0], .bool false]) (by simp [results, Tryd.results10, go_sem, r0, r1]) rfl HA.out
          · clear hgo'
            go_wp2_with fail
            refine COK.mono ?_
            rintro e w5 ⟨rfl, hb5⟩
            have q0 := (HPB.out w5 hb5).b1.cell 0 _ rfl
            have q1 := (HPB.out w5 hb5).b1.cell 1 _ rfl
            have CT := HTX.out w5 hb5
            go_wp2_with fail
            refine CT.mono ?_
            rintro e w6 ⟨rfl, hb6⟩
            have HPF := HPB.out w6 (hb5.trans (hb6.mono hb5.size))
            clear q0 q1 CT
            have q0 := HPF.b1.cell 0 _ rfl
            have q1 := HPF.b1.cell 1 _ rfl
            have z0 := HPF.b0.cell 0 _ rfl
            have z1 := HPF.b0.cell 1 _ rfl
            have g0 := HPF.b0.frozen 0
            have g1 := HPF.b0.frozen 1
            by_cases hRs : R = s
            · have hTb : (R.toList == s.toList) = true := by rw [hRs]; simp
              obtain ⟨WF, hWF, ⟨r0, r1⟩, HA⟩ := HPF.yes (HPS.out.1 hRs)
              clear HPF HPB hb5 hb6 HTX HU HPS hRs
              go_wp2
              rw [hWF.out]
              exact bodyPost_ret (v := .tuple #[.agg #[.int .i64 x, .slice a T.length c], .bool true]) (by simp [results, Tryd.results10, go_sem, r0, r1]) rfl HA.out
            · have hTb : (R.toList == s.toList) = false := by
                rw [ByteArray.toList_eq, ByteArray.toList_eq]
                simp only [beq_eq_false_iff_ne]
                exact fun e => hRs (ByteArray.ext (Array.toList_inj.1 e))
              obtain ⟨WF, hWF, ⟨r0, r1⟩, HA⟩ := HPF.no (L := sBytes s) (fun y U hP => by
                obtain ⟨rfl, rfl⟩ := HU.out y U hP
                exact hRs (HPS.out.2 hP))
              clear HPF HPB hb5 hb6 HTX HU HPS hRs
              go_wp2
              rw [hWF.out]
              exact bodyPost_ret (v := .tuple #[.agg #[.int .i64 0, .slice none 0 0], .bool false]) (by simp [results, Tryd.results10, go_sem, r0, r1]) rfl HA.out
end Go.Proofs.YtajcffchopcamaaDoor

/- A text is one path's alone. -/
namespace Go.Proofs.YtajcffchopcamaaDoor

theorem pathIn_all {L : List Int} {x : Int} {T : List StepV} (h : IsPath L x T) : ∀ k, k ≤ T.length → PathIn L x (T.take k) true (pathTo x T k).length := by
  obtain ⟨hB, rfl⟩ := h
  intro k
  induction k with
  | zero =>
    intro _
    have := pathIn_start (endAt_head x T)
    have hx := pathB_from hB
    rw [head_piece, text_number x (by omega)] at this
    exact this
  | succ k ih =>
    intro hk
    have hl : (pathTo x T k).length < (pathTo x T T.length).length := by
      obtain ⟨c, R, e, -, -⟩ := stepText_parts (T.getD k zeroPh)
      rw [pathTo_rest x T k, drop_getPh T hk, List.flatMap_cons, e]
      simp
    have := pathIn_step (ih (by omega)) hl (endAt_step x T hk)
    rw [step_piece x T hk, piece_text ((pathB_info hB).2.2 k hk)] at this
    have e : T.take (k + 1) = T.take k ++ [T.getD k zeroPh] := by rw [List.take_add_one]; simp [List.getD, show k < T.length from hk]
    rw [e]
    exact this

theorem isPath_one {L : List Int} {x y : Int} {T U : List StepV} (h : IsPath L x T) (g : IsPath L y U) : y = x ∧ U = T := by
  have := pathIn_end (pathIn_all h T.length (Nat.le_refl _)) (by rw [h.2]; exact Nat.le_refl _) y U g
  rw [List.take_length] at this
  exact this
end Go.Proofs.YtajcffchopcamaaDoor

/- Plain mathematics: the texts of numbers as the library says them. -/
namespace Go.Proofs.YtajcffchopcamaaDoor
open Go.RowKit

def b8 (z : Int) : UInt8 := UInt8.ofNat z.toNat
theorem strOf_b8 (l : List Int) : strOf l = ⟨(l.map b8).toArray⟩ := rfl

theorem dec_lib (n : Nat) : (decOf n).map b8 = Lib.decDigits n := by
  induction n using Nat.strongRecOn with
  | _ n ih =>
    by_cases h : n < 10
    · rw [decOf_small n h, Lib.decDigits, dif_pos h]
      show [UInt8.ofNat (((48 + n : Nat) : Int)).toNat] = _
      rw [Int.toNat_natCast]
    · rw [decOf_big n h, Lib.decDigits, dif_neg h, List.map_append, ih (n / 10) (by omega)]
      congr 1
theorem num_lib (z : Int) : (numText z).map b8 = Lib.itoa z := by
  unfold numText Lib.itoa
  split
  · rw [List.map_cons, dec_lib, show (-z).toNat = z.natAbs from by omega]; rfl
  · exact dec_lib _
theorem itoa_str (z : Int) : (⟨(Lib.itoa z).toArray⟩ : ByteArray) = strOf (numText z) := by rw [strOf_b8, num_lib]

end Go.Proofs.YtajcffchopcamaaDoor
