/- Several texts in one, in their order. -/
import Derived.Test.YtajcffchopcamaaGreatDoorPFnPathsx28
import Derived.Test.YtajcffchopcamaaGreatDoorPFnPathsx19
import Derived.Test.YtajcffchopcamaaGreatDoorShelf
import Derived.Test.YtajcffchopcamaaGreatDoorPFnPathsx27
import Derived.Test.YtajcffchopcamaaGreatDoorPFnPathsx6
import Derived.Test.YtajcffchopcamaaGreatDoorPFnPathsx20
import Derived.Test.YtajcffchopcamaaGreatDoorPFnPathsx5
import Derived.Test.YtajcffchopcamaaGreatDoorPFnPathsx13
import Derived.Test.YtajcffchopcamaaGreatDoorPFnPathsx25
import Derived.Lib.ConvBytes
/- strconv.Itoa and strconv.Atoi by the library's contracts; the walk of impl.parseNumber where the errors' own type is not asked for. -/
namespace Go.Proofs.YtajcffchopcamaaGreatDoor
open Go.RowKit

/-- The library's table of powers. -/
def PowT (w : World) : Prop := ∃ t f, w.heap[0]? = some (.cells (Lib.pow10Tab.map fun z => Value.int .u64 z).toArray t f)
theorem PowT.keep {w w' : World} (h : PowT w) (hb : Below w.heap.size w w') : PowT w' := by
  obtain ⟨t, f, hp⟩ := h
  exact ⟨t, f, by rw [hb.block _ (Array.getElem?_eq_some_iff.1 hp).1]; exact hp⟩

theorem below_growN (w : World) (k : Nat) (os : Array Obj) : Below w.heap.size w (Sort.grow (w.drewN k) os) := by
  refine ⟨rfl, rfl, rfl, by simp [Sort.grow], fun j hj => ?_⟩
  have h1 : j < (w.drewN k).heap.size := hj
  simp only [Sort.grow]
  rw [Array.getElem?_append_left h1]
  rfl

theorem itoa_pow (z : Int) (hz : -9223372036854775808 ≤ z ∧ z ≤ 9223372036854775807) (w : World) (he : PowT w) :
    Calls Tryz.prog 29 #[.int .i64 z] w fun e w' => e = .returned (.string (strOf (numText z))) ∧ Below w.heap.size w w' := by
  obtain ⟨t, f, h⟩ := he
  refine (Any.strconv_Itoa Tryz.laysM171 z hz.1 hz.2 w (tabIs_of (by kernel_rfl) h)).mono ?_
  rintro e w' ⟨rfl, k, os, rfl⟩
  exact ⟨by rw [itoa_str], below_growN w k os⟩

/-- What the library's variables hold on the road of a number that is read. -/
structure EnvN (w : World) : Prop where
  pow : PowT w
  syn : ∃ te pe, w.cell? ⟨2, 0, none⟩ = some (.iface te pe)
  rng : ∃ te pe, w.cell? ⟨3, 0, none⟩ = some (.iface te pe)
theorem EnvN.keep {w w' : World} (h : EnvN w) (hb : Below w.heap.size w w') : EnvN w' := by
  refine ⟨h.pow.keep hb, ?_, ?_⟩
  · obtain ⟨te, pe, hm⟩ := h.syn
    exact ⟨te, pe, by rw [hb.cell (p := ⟨_, 0, none⟩) (block_lt hm)]; exact hm⟩
  · obtain ⟨te, pe, hm⟩ := h.rng
    exact ⟨te, pe, by rw [hb.cell (p := ⟨_, 0, none⟩) (block_lt hm)]; exact hm⟩

theorem pNumN_lib (s : ByteArray) : pNum (sBytes s) = match Lib.atoiAll s.data.toList with
    | .ok v => if numText v = sBytes s then some v else none
    | _ => none := by
  have e : (sBytes s).map b8 = s.data.toList := by rw [sBytes_toI, b8_toI]
  unfold pNum
  cases h : Lib.atoiAll s.data.toList <;> simp only [e, h]
theorem textN_same (v : Int) (s : ByteArray) : (strOf (numText v)) = s ↔ numText v = sBytes s := by
  have hb : ∀ z ∈ numText v, 0 ≤ z ∧ z < 256 := by
    intro z hz
    rcases numText_sign v z hz with rfl | h
    · decide
    · omega
  have key : sBytes (strOf (numText v)) = numText v := by
    rw [strOf_b8, sBytes_mk, List.map_map]
    conv => rhs; rw [← List.map_id (numText v)]
    apply List.map_congr_left
    intro z hz
    have := hb z hz
    simp [toI, b8]
    omega
  constructor
  · intro h; rw [← h, key]
  · intro h; apply sBytes_inj; rw [key, h]

set_option maxHeartbeats 1000000 in
set_option maxRecDepth 100000 in
theorem parseNumberN_any (s : ByteArray) (w : World) (he : EnvN w) (hs : s.size ≤ 1048576) : Calls Tryz.prog 55 #[.string s] w fun e w' => e = .returned (numAns (pNum (sBytes s))) ∧ Below w.heap.size w w' := by
  have HP := pNumN_lib s
  generalize pNum (sBytes s) = X at *
  cases ha : Lib.atoiAll s.data.toList
  case ok v =>
    rw [ha] at HP
    simp only at HP
    have hat := Any.strconv_Atoi_ok Tryz.laysC172 s (by omega) v ha w
    have hbd := Lib.atoiAll_bounds ha
    have htx := textN_same v s
    have hit := fun w' (g : PowT w') => itoa_pow v hbd w' g
    clear ha
    generalize strOf (numText v) = T at *
    by_cases hT : T = s
    · have HX : Hid (X = some v) := by rw [Hid, HP, if_pos (htx.1 hT)]
      have hTb : (T.toList == s.toList) = true := by rw [hT]; simp
      clear HP htx hT
      go_enter Tryz.func55, Tryz.ntmps55
      go_wp2_with fail
      refine hat.mono ?_
      rintro e w1 ⟨rfl, hw1⟩
      have hb1 : Below w.heap.size w w1 := by
        rcases hw1 with rfl | ⟨t, rfl⟩
        · exact Below.refl _ _
        · exact Lib.bytesWorld_below _ _ _
      clear hat hw1
      go_wp2_with fail
      refine (hit w1 (he.pow.keep hb1)).mono ?_
      rintro e w2 ⟨rfl, hb2⟩
      clear hit
      go_wp2
      go_ret2
      exact ⟨by rw [HX.out]; rfl, hb1.trans (hb2.mono hb1.size)⟩
    · have HX : Hid (X = none) := by rw [Hid, HP, if_neg (fun h => hT (htx.2 h))]
      have hTb : (T.toList == s.toList) = false := by
        rw [beq_eq_false_iff_ne]
        intro e
        apply hT
        apply ByteArray.ext
        apply Array.ext'
        rw [ByteArray.toList_eq, ByteArray.toList_eq] at e
        exact e
      clear HP htx hT
      go_enter Tryz.func55, Tryz.ntmps55
      go_wp2_with fail
      refine hat.mono ?_
      rintro e w1 ⟨rfl, hw1⟩
      have hb1 : Below w.heap.size w w1 := by
        rcases hw1 with rfl | ⟨t, rfl⟩
        · exact Below.refl _ _
        · exact Lib.bytesWorld_below _ _ _
      clear hat hw1
      go_wp2_with fail
      refine (hit w1 (he.pow.keep hb1)).mono ?_
      rintro e w2 ⟨rfl, hb2⟩
      clear hit
      go_wp2
      go_ret2
      exact ⟨by rw [HX.out]; rfl, hb1.trans (hb2.mono hb1.size)⟩
  all_goals
    rw [ha] at HP
    simp only at HP
    have HX : Hid (X = none) := HP
    have hat : Calls Tryz.prog 79 #[.string s] w fun e w' => ∃ N z, e = .returned (.tuple #[.int .i64 z, .iface 161 (.pointer (some ⟨N, 0, none⟩))]) ∧ Below w.heap.size w w' := by
      first
      | (obtain ⟨te, pe, hv⟩ := he.syn
         refine (Any.strconv_Atoi_syntax Tryz.laysC172 s (by omega) ha _ w hv (.inr ⟨te, pe, rfl⟩)).mono ?_
         rintro e w' ⟨N, rfl, _, _, hb⟩
         exact ⟨N, _, rfl, hb⟩)
      | (obtain ⟨te, pe, hv⟩ := he.rng
         refine (Any.strconv_Atoi_range Tryz.laysC172 s (by omega) ha _ w hv (.inr ⟨te, pe, rfl⟩)).mono ?_
         rintro e w' ⟨N, rfl, _, _, hb⟩
         exact ⟨N, _, rfl, hb⟩)
    clear ha HP
    go_enter Tryz.func55, Tryz.ntmps55
    go_wp2_with fail
    refine hat.mono ?_
    rintro e w1 ⟨N, z, rfl, hb1⟩
    clear hat
    go_wp2
    go_ret2
    exact ⟨by rw [HX.out]; rfl, hb1⟩
end Go.Proofs.YtajcffchopcamaaGreatDoor

/- The walks of impl.parseN, parseStep. -/
namespace Go.Proofs.YtajcffchopcamaaGreatDoor
open Go.RowKit

theorem trim_size (s p q : List UInt8) : (Lib.trimPrefix s p).length ≤ s.length ∧ (Lib.trimSuffix (Lib.trimPrefix s p) q).length ≤ s.length := by
  have h : ∀ a b : List UInt8, (Lib.trimPrefix a b).length ≤ a.length := fun a b => by unfold Lib.trimPrefix; split <;> simp
  have g : ∀ a b : List UInt8, (Lib.trimSuffix a b).length ≤ a.length := fun a b => by unfold Lib.trimSuffix; split <;> simp
  exact ⟨h s p, Nat.le_trans (g _ q) (h s p)⟩

theorem box2_fillN {w : World} {B : Nat} {x0 x1 : Value} {t : TypeId} (b : Box w B [x0, x1] t) (v0 v1 : Value) :
    ∃ W, Hid ((w.setCell ⟨B, 0, none⟩ v0).setCell ⟨B, 1, none⟩ v1 = W) ∧ Box W B [v0, v1] t ∧ Within B (B + 1) w W ∧ W.heap.size = w.heap.size := by
  refine ⟨_, rfl, by simpa using (b.set 0 v0).set 1 v1, (within_set w B 0 v0 (by omega)).trans (within_set _ B 1 v1 (by omega)), by simp⟩

/-- What parseN answers. -/
def ParseNAns (kind : Int) (L A B : List Int) (e : Ending) : Prop := ∃ n ok, e = .returned (.tuple #[.agg #[.int .i64 kind, .int .i64 n], .bool ok]) ∧ NumAns L A B n ok

set_option maxHeartbeats 2000000 in
set_option maxRecDepth 100000 in
theorem parseN_any (kind : Int) (s A B : ByteArray) (w : World) (he : EnvN w) (hs : s.size ≤ 1048576) :
    Calls Tryz.prog 81 #[.int .i64 kind, .string s, .string A, .string B] w fun e w' => ParseNAns kind (sBytes s) (sBytes A) (sBytes B) e ∧ Below w.heap.size w w' := by
  have hN : NumAns (sBytes s) (sBytes A) (sBytes B) ((pNum (sBytes ⟨(Lib.trimSuffix (Lib.trimPrefix s.data.toList A.data.toList) B.data.toList).toArray⟩)).getD 0) (Lib.hasPrefix s.data.toList A.data.toList && (Lib.hasSuffix (Lib.trimPrefix s.data.toList A.data.toList) B.data.toList && (pNum (sBytes ⟨(Lib.trimSuffix (Lib.trimPrefix s.data.toList A.data.toList) B.data.toList).toArray⟩)).isSome)) := by
    rw [sBytes_mk]
    exact numAns_trim s.data.toList A.data.toList B.data.toList
  obtain ⟨z1, z2⟩ := trim_size s.data.toList A.data.toList B.data.toList
  have hsz : s.data.toList.length = s.size := (Lib.size_eq s).symm
  obtain ⟨W, hW, b0, hbW, hsW⟩ := boxes1 w [.int .i64 0, .int .i64 0] 44
  have CP := Any.strings_CutPrefix Tryz.lays103 s A W
  have CS := Any.strings_CutSuffix Tryz.lays104 ⟨(Lib.trimPrefix s.data.toList A.data.toList).toArray⟩ B W (by simp [ByteArray.size]; omega)
  have CN := parseNumberN_any ⟨(Lib.trimSuffix (Lib.trimPrefix s.data.toList A.data.toList) B.data.toList).toArray⟩ W (he.keep hbW) (by simp only [ByteArray.size, List.size_toArray]; omega)
  have e1 : (ByteArray.mk (Lib.trimPrefix s.data.toList A.data.toList).toArray).data.toList = Lib.trimPrefix s.data.toList A.data.toList := rfl
  rw [e1] at CS
  clear e1
  generalize Lib.hasPrefix s.data.toList A.data.toList = b1 at *
  generalize Lib.hasSuffix (Lib.trimPrefix s.data.toList A.data.toList) B.data.toList = b2 at *
  generalize (⟨(Lib.trimSuffix (Lib.trimPrefix s.data.toList A.data.toList) B.data.toList).toArray⟩ : ByteArray) = S2 at *
  generalize (⟨(Lib.trimPrefix s.data.toList A.data.toList).toArray⟩ : ByteArray) = S1 at *
  generalize pNum (sBytes S2) = X at *
  have HN : Hid (NumAns (sBytes s) (sBytes A) (sBytes B) (X.getD 0) (b1 && (b2 && X.isSome))) := hN
  clear hN z1 z2 hsz hsW he
  obtain ⟨n, ok, hX, hXn, hXo⟩ : ∃ n ok, numAns X = .tuple #[.int .i64 n, .bool ok] ∧ X.getD 0 = n ∧ X.isSome = ok := by
    cases X with
    | none => exact ⟨0, false, rfl, rfl, rfl⟩
    | some v => exact ⟨v, true, rfl, rfl, rfl⟩
  rw [hX] at CN
  rw [hXn, hXo] at HN
  clear hX hXn hXo
  have hz : w.heap.size < W.heap.size := b0.lt
  go_enter Tryz.func81, Tryz.ntmps81
  go_upto_region 1 with fail
  rw [hW.out]
  clear hW
  go_wp2_with fail
  refine CP.mono ?_
  rintro e w1 ⟨rfl, rfl⟩
  clear CP
  go_wp2_with fail
  refine CS.mono ?_
  rintro e w2 ⟨rfl, rfl⟩
  clear CS
  go_wp2_with fail
  refine CN.mono ?_
  rintro e w3 ⟨rfl, hb3⟩
  clear CN
  have b3 := b0.below hb3 b0.lt
  obtain ⟨WF, hWF, bF, hwF, hsF⟩ := box2_fillN b3 (.int .i64 kind) (.int .i64 n)
  have g0 := b3.cell 0 _ rfl
  have g1 := b3.cell 1 _ rfl
  have f0 := bF.cell 0 _ rfl
  have f1 := bF.cell 1 _ rfl
  have u0 := b3.frozen 0
  have u1 := b3.frozen 1
  have hs3 := hb3.size
  have HB : Hid (Below w.heap.size w WF) := (hbW.trans (hb3.mono hbW.size)).trans (hwF.below (by omega) (by omega))
  clear b0 b3 bF hwF hsF hs3
  cases b1 with
  | false =>
    have HA : Hid (NumAns (sBytes s) (sBytes A) (sBytes B) n false) := by rw [Hid]; simpa using HN.out
    clear HN
    go_wp2
    rw [hWF.out]
    exact bodyPost_ret (v := .tuple #[.agg #[.int .i64 kind, .int .i64 n], .bool false]) (by simp [results, Tryz.results81, go_sem, f0, f1]) rfl ⟨⟨n, false, rfl, HA.out⟩, HB.out⟩
  | true =>
    cases b2 with
    | false =>
      have HA : Hid (NumAns (sBytes s) (sBytes A) (sBytes B) n false) := by rw [Hid]; simpa using HN.out
      clear HN
      go_wp2
      rw [hWF.out]
      exact bodyPost_ret (v := .tuple #[.agg #[.int .i64 kind, .int .i64 n], .bool false]) (by simp [results, Tryz.results81, go_sem, f0, f1]) rfl ⟨⟨n, false, rfl, HA.out⟩, HB.out⟩
    | true =>
      have HA : Hid (NumAns (sBytes s) (sBytes A) (sBytes B) n ok) := by rw [Hid]; simpa using HN.out
      clear HN
      go_wp2
      rw [hWF.out]
      exact bodyPost_ret (v := .tuple #[.agg #[.int .i64 kind, .int .i64 n], .bool ok]) (by simp [results, Tryz.results81, go_sem, f0, f1]) rfl ⟨⟨n, ok, rfl, HA.out⟩, HB.out⟩

/-- What parseStep answers. -/
def ParseStepAns (L : List Int) (e : Ending) : Prop := ∃ t ok, e = .returned (.tuple #[.agg #[.int .i64 (t : StepV).kd, .int .i64 t.num], .bool ok]) ∧ StepAns L t ok

theorem stepAns_num {L A B : List Int} {kd n : Int} {ok : Bool} (h : NumAns L A B n ok) (he : ∀ m, stepText ⟨kd, m⟩ = A ++ numText m ++ B) (hk : ∀ t, stepB t = true → L = stepText t → t.kd = kd) : StepAns L ⟨kd, n⟩ ok := by
  refine ⟨fun g => by rw [he]; exact h.1 g, fun t ht hL => ?_⟩
  have h1 := hk t ht hL
  obtain ⟨k, m⟩ := t
  simp only at h1
  subst h1
  have hs := (stepB_small ht).1
  obtain ⟨g1, g2⟩ := h.2 m hs.1 hs.2 (by rw [← he]; exact hL)
  exact ⟨g1, by rw [g2]⟩

theorem step_first {t : StepV} (h : stepB t = true) : (t.kd = 1 ∧ ∃ c R, numText t.num = c :: R ∧ c ≠ 42 ∧ stepText t = 46 :: c :: R) ∨ (t = ⟨2, 0⟩ ∧ stepText t = [46, 42]) ∨ (t = ⟨3, 0⟩ ∧ stepText t = [46, 42, 42]) ∨ (t.kd = 4 ∧ stepText t = 91 :: 107 :: 61 :: (numText t.num ++ [93])) ∨ (t.kd = 5 ∧ stepText t = 91 :: 105 :: 62 :: (numText t.num ++ [93])) := by
  have hs := stepB_small h
  obtain ⟨kd, num⟩ := t
  simp only at *
  rcases stepB_kd h with e | e | e | e | e
  · simp only at e
    subst e
    obtain ⟨c, R, en, hc⟩ := numText_first num
    exact .inl ⟨rfl, c, R, en, hc, by simp [stepText, en]⟩
  · simp only at e
    subst e
    obtain rfl := hs.2 (.inl rfl)
    exact .inr (.inl ⟨rfl, rfl⟩)
  · simp only at e
    subst e
    obtain rfl := hs.2 (.inr rfl)
    exact .inr (.inr (.inl ⟨rfl, rfl⟩))
  · simp only at e
    subst e
    exact .inr (.inr (.inr (.inl ⟨rfl, by simp [stepText]⟩)))
  · simp only at e
    subst e
    exact .inr (.inr (.inr (.inr ⟨rfl, by simp [stepText]⟩)))

/-- Which of its ways the program goes at a piece. -/
theorem stepI_ways (P : ByteArray) :
    ((P.toList == [46, 42]) = true ∧ StepAns (sBytes P) ⟨2, 0⟩ true) ∨
    ((P.toList == [46, 42]) = false ∧ (P.toList == [46, 42, 42]) = true ∧ StepAns (sBytes P) ⟨3, 0⟩ true) ∨
    ((P.toList == [46, 42]) = false ∧ (P.toList == [46, 42, 42]) = false ∧
      ((Lib.hasPrefix P.data.toList (ByteArray.mk #[91, 107, 61]).data.toList = true ∧ ∀ n ok, NumAns (sBytes P) (sBytes ⟨#[91, 107, 61]⟩) (sBytes ⟨#[93]⟩) n ok → StepAns (sBytes P) ⟨4, n⟩ ok) ∨
       (Lib.hasPrefix P.data.toList (ByteArray.mk #[91, 107, 61]).data.toList = false ∧ Lib.hasPrefix P.data.toList (ByteArray.mk #[91, 105, 62]).data.toList = true ∧ ∀ n ok, NumAns (sBytes P) (sBytes ⟨#[91, 105, 62]⟩) (sBytes ⟨#[93]⟩) n ok → StepAns (sBytes P) ⟨5, n⟩ ok) ∨
       (Lib.hasPrefix P.data.toList (ByteArray.mk #[91, 107, 61]).data.toList = false ∧ Lib.hasPrefix P.data.toList (ByteArray.mk #[91, 105, 62]).data.toList = false ∧ ∀ n ok, NumAns (sBytes P) (sBytes ⟨#[46]⟩) (sBytes ⟨#[]⟩) n ok → StepAns (sBytes P) ⟨1, n⟩ ok))) := by
  have s1 : sBytes ⟨#[91, 107, 61]⟩ = [91, 107, 61] := rfl
  have s2 : sBytes ⟨#[91, 105, 62]⟩ = [91, 105, 62] := rfl
  have s3 : sBytes ⟨#[93]⟩ = [93] := rfl
  have s4 : sBytes ⟨#[46]⟩ = [46] := rfl
  have s5 : sBytes ⟨#[]⟩ = [] := rfl
  have hp : ∀ p : List UInt8, Lib.hasPrefix P.data.toList p = decide ((p.map toI) <+: sBytes P) := fun p => by
    unfold Lib.hasPrefix
    rw [Bool.eq_iff_iff, List.isPrefixOf_iff_prefix, decide_eq_true_eq, sBytes_toI]
    constructor
    · rintro ⟨r, hr⟩; exact ⟨r.map toI, by rw [← hr]; simp⟩
    · rintro ⟨r, hr⟩
      refine ⟨r.map b8, ?_⟩
      have := congrArg (List.map b8) hr
      rw [List.map_append, b8_toI, b8_toI] at this
      exact this
  have k1 : (ByteArray.mk #[91, 107, 61]).data.toList.map toI = [91, 107, 61] := rfl
  have k2 : (ByteArray.mk #[91, 105, 62]).data.toList.map toI = [91, 105, 62] := rfl
  rw [str_is, str_is, hp, hp, k1, k2, s1, s2, s3, s4, s5]
  generalize sBytes P = L
  simp only [List.map_cons, List.map_nil, show ((46 : UInt8).toNat : Int) = 46 from rfl, show ((42 : UInt8).toNat : Int) = 42 from rfl]
  by_cases h1 : L = [46, 42]
  · refine .inl ⟨decide_eq_true h1, fun _ => h1, fun t ht hL => ⟨rfl, ?_⟩⟩
    rcases step_first ht with ⟨_, c, R, _, hc, e⟩ | ⟨e, _⟩ | ⟨_, e⟩ | ⟨_, e⟩ | ⟨_, e⟩
    · rw [hL, e] at h1; simp at h1; exact absurd h1.1 hc
    · exact e
    · rw [hL, e] at h1; simp at h1
    · rw [hL, e] at h1; simp at h1
    · rw [hL, e] at h1; simp at h1
  by_cases h2 : L = [46, 42, 42]
  · refine .inr (.inl ⟨decide_eq_false h1, decide_eq_true h2, fun _ => h2, fun t ht hL => ⟨rfl, ?_⟩⟩)
    rcases step_first ht with ⟨_, c, R, _, hc, e⟩ | ⟨_, e⟩ | ⟨e, _⟩ | ⟨_, e⟩ | ⟨_, e⟩
    · rw [hL, e] at h2; simp at h2; exact absurd h2.1 hc
    · rw [hL, e] at h2; simp at h2
    · exact e
    · rw [hL, e] at h2; simp at h2
    · rw [hL, e] at h2; simp at h2
  refine .inr (.inr ⟨decide_eq_false h1, decide_eq_false h2, ?_⟩)
  by_cases h3 : [91, 107, 61] <+: L
  · refine .inl ⟨decide_eq_true h3, fun n ok h => stepAns_num h (fun m => by simp [stepText]) (fun t ht hL => ?_)⟩
    obtain ⟨r, hr⟩ := h3
    rcases step_first ht with ⟨_, c, R, _, hc, e⟩ | ⟨_, e⟩ | ⟨_, e⟩ | ⟨e, _⟩ | ⟨_, e⟩
    · rw [hL, e] at hr; simp at hr
    · exact absurd (hL.trans e) h1
    · exact absurd (hL.trans e) h2
    · exact e
    · rw [hL, e] at hr; simp at hr
  by_cases h4 : [91, 105, 62] <+: L
  · refine .inr (.inl ⟨decide_eq_false h3, decide_eq_true h4, fun n ok h => stepAns_num h (fun m => by simp [stepText]) (fun t ht hL => ?_)⟩)
    obtain ⟨r, hr⟩ := h4
    rcases step_first ht with ⟨_, c, R, _, hc, e⟩ | ⟨_, e⟩ | ⟨_, e⟩ | ⟨_, e⟩ | ⟨e, _⟩
    · rw [hL, e] at hr; simp at hr
    · exact absurd (hL.trans e) h1
    · exact absurd (hL.trans e) h2
    · rw [hL, e] at hr; simp at hr
    · exact e
  · refine .inr (.inr ⟨decide_eq_false h3, decide_eq_false h4, fun n ok h => stepAns_num h (fun m => by simp [stepText]) (fun t ht hL => ?_)⟩)
    rcases step_first ht with ⟨e, _⟩ | ⟨_, e⟩ | ⟨_, e⟩ | ⟨_, e⟩ | ⟨_, e⟩
    · exact e
    · exact absurd (hL.trans e) h1
    · exact absurd (hL.trans e) h2
    · exact absurd ⟨_, (hL.trans e).symm⟩ h3
    · exact absurd ⟨_, (hL.trans e).symm⟩ h4

set_option maxHeartbeats 2000000 in
set_option maxRecDepth 100000 in
theorem parseStep_any (P : ByteArray) (w : World) (he : EnvN w) (hs : P.size ≤ 1048576) :
    Calls Tryz.prog 56 #[.string P] w fun e w' => ParseStepAns (sBytes P) e ∧ Below w.heap.size w w' := by
  obtain ⟨W, hW, b0, hbW, hsW⟩ := boxes1 w [.int .i64 0, .int .i64 0] 44
  have heW := he.keep hbW
  have hz : w.heap.size < W.heap.size := b0.lt
  clear hsW he
  have HK := Any.strings_HasPrefix Tryz.lays99 P ⟨#[91, 107, 61]⟩ W
  have HI := Any.strings_HasPrefix Tryz.lays99 P ⟨#[91, 105, 62]⟩ W
  rcases stepI_ways P with ⟨q1, hw0⟩ | ⟨q1, q2, hw0⟩ | ⟨q1, q2, ⟨q3, hw0⟩ | ⟨q3, q4, hw0⟩ | ⟨q3, q4, hw0⟩⟩
  · have hway : Hid (StepAns (sBytes P) ⟨2, 0⟩ true) := hw0
    clear hw0 HK HI heW
    obtain ⟨WF, hWF, bF, hwF, hsF⟩ := box2_fillN b0 (.int .i64 2) (.int .i64 0)
    have g0 := b0.cell 0 _ rfl
    have g1 := b0.cell 1 _ rfl
    have f0 := bF.cell 0 _ rfl
    have f1 := bF.cell 1 _ rfl
    have u0 := b0.frozen 0
    have u1 := b0.frozen 1
    have HB : Hid (Below w.heap.size w WF) := hbW.trans (hwF.below (by omega) (by omega))
    clear b0 bF hwF hsF
    go_enter Tryz.func56, Tryz.ntmps56
    go_upto_region 1 with fail
    rw [hW.out]
    clear hW
    go_wp2
    rw [hWF.out]
    exact bodyPost_ret (v := .tuple #[.agg #[.int .i64 2, .int .i64 0], .bool true]) (by simp [results, Tryz.results56, go_sem, f0, f1]) rfl ⟨⟨⟨2, 0⟩, true, rfl, hway.out⟩, HB.out⟩
  · have hway : Hid (StepAns (sBytes P) ⟨3, 0⟩ true) := hw0
    clear hw0 HK HI heW
    obtain ⟨WF, hWF, bF, hwF, hsF⟩ := box2_fillN b0 (.int .i64 3) (.int .i64 0)
    have g0 := b0.cell 0 _ rfl
    have g1 := b0.cell 1 _ rfl
    have f0 := bF.cell 0 _ rfl
    have f1 := bF.cell 1 _ rfl
    have u0 := b0.frozen 0
    have u1 := b0.frozen 1
    have HB : Hid (Below w.heap.size w WF) := hbW.trans (hwF.below (by omega) (by omega))
    clear b0 bF hwF hsF
    go_enter Tryz.func56, Tryz.ntmps56
    go_upto_region 1 with fail
    rw [hW.out]
    clear hW
    go_wp2
    rw [hWF.out]
    exact bodyPost_ret (v := .tuple #[.agg #[.int .i64 3, .int .i64 0], .bool true]) (by simp [results, Tryz.results56, go_sem, f0, f1]) rfl ⟨⟨⟨3, 0⟩, true, rfl, hway.out⟩, HB.out⟩
  · have hway : Hid (_) := hw0
    rw [q3] at HK
    have CN := parseN_any 4 P ⟨#[91, 107, 61]⟩ ⟨#[93]⟩ W heW hs
    clear hw0 HI heW q3
    go_enter Tryz.func56, Tryz.ntmps56
    go_upto_region 1 with fail
    rw [hW.out]
    clear hW
    go_wp2_with fail
    refine HK.mono ?_
    rintro e w1 ⟨rfl, rfl⟩
    clear HK
    go_wp2_with fail
    refine CN.mono ?_
    rintro e w3 ⟨⟨n, ok, rfl, hNA⟩, hb3⟩
    clear CN
    have HA : Hid (StepAns (sBytes P) ⟨4, n⟩ ok) := hway.out n ok hNA
    clear hway hNA
    have b3 := b0.below hb3 b0.lt
    obtain ⟨WF, hWF, bF, hwF, hsF⟩ := box2_fillN b3 (.int .i64 4) (.int .i64 n)
    have g0 := b3.cell 0 _ rfl
    have g1 := b3.cell 1 _ rfl
    have f0 := bF.cell 0 _ rfl
    have f1 := bF.cell 1 _ rfl
    have u0 := b3.frozen 0
    have u1 := b3.frozen 1
    have hs3 := hb3.size
    have HB : Hid (Below w.heap.size w WF) := (hbW.trans (hb3.mono hbW.size)).trans (hwF.below (by omega) (by omega))
    clear b0 b3 bF hwF hsF hs3
    go_wp2
    rw [hWF.out]
    exact bodyPost_ret (v := .tuple #[.agg #[.int .i64 4, .int .i64 n], .bool ok]) (by simp [results, Tryz.results56, go_sem, f0, f1]) rfl ⟨⟨⟨4, n⟩, ok, rfl, HA.out⟩, HB.out⟩
  · have hway : Hid (_) := hw0
    rw [q3] at HK
    rw [q4] at HI
    have CN := parseN_any 5 P ⟨#[91, 105, 62]⟩ ⟨#[93]⟩ W heW hs
    clear hw0 heW q3 q4
    go_enter Tryz.func56, Tryz.ntmps56
    go_upto_region 1 with fail
    rw [hW.out]
    clear hW
    go_wp2_with fail
    refine HK.mono ?_
    rintro e w1 ⟨rfl, rfl⟩
    clear HK
    go_wp2_with fail
    refine HI.mono ?_
    rintro e w2 ⟨rfl, rfl⟩
    clear HI
    go_wp2_with fail
    refine CN.mono ?_
    rintro e w3 ⟨⟨n, ok, rfl, hNA⟩, hb3⟩
    clear CN
    have HA : Hid (StepAns (sBytes P) ⟨5, n⟩ ok) := hway.out n ok hNA
    clear hway hNA
    have b3 := b0.below hb3 b0.lt
    obtain ⟨WF, hWF, bF, hwF, hsF⟩ := box2_fillN b3 (.int .i64 5) (.int .i64 n)
    have g0 := b3.cell 0 _ rfl
    have g1 := b3.cell 1 _ rfl
    have f0 := bF.cell 0 _ rfl
    have f1 := bF.cell 1 _ rfl
    have u0 := b3.frozen 0
    have u1 := b3.frozen 1
    have hs3 := hb3.size
    have HB : Hid (Below w.heap.size w WF) := (hbW.trans (hb3.mono hbW.size)).trans (hwF.below (by omega) (by omega))
    clear b0 b3 bF hwF hsF hs3
    go_wp2
    rw [hWF.out]
    exact bodyPost_ret (v := .tuple #[.agg #[.int .i64 5, .int .i64 n], .bool ok]) (by simp [results, Tryz.results56, go_sem, f0, f1]) rfl ⟨⟨⟨5, n⟩, ok, rfl, HA.out⟩, HB.out⟩
  · have hway : Hid (_) := hw0
    rw [q3] at HK
    rw [q4] at HI
    have CN := parseN_any 1 P ⟨#[46]⟩ ⟨#[]⟩ W heW hs
    clear hw0 heW q3 q4
    go_enter Tryz.func56, Tryz.ntmps56
    go_upto_region 1 with fail
    rw [hW.out]
    clear hW
    go_wp2_with fail
    refine HK.mono ?_
    rintro e w1 ⟨rfl, rfl⟩
    clear HK
    go_wp2_with fail
    refine HI.mono ?_
    rintro e w2 ⟨rfl, rfl⟩
    clear HI
    go_wp2_with fail
    refine CN.mono ?_
    rintro e w3 ⟨⟨n, ok, rfl, hNA⟩, hb3⟩
    clear CN
    have HA : Hid (StepAns (sBytes P) ⟨1, n⟩ ok) := hway.out n ok hNA
    clear hway hNA
    have b3 := b0.below hb3 b0.lt
    obtain ⟨WF, hWF, bF, hwF, hsF⟩ := box2_fillN b3 (.int .i64 1) (.int .i64 n)
    have g0 := b3.cell 0 _ rfl
    have g1 := b3.cell 1 _ rfl
    have f0 := bF.cell 0 _ rfl
    have f1 := bF.cell 1 _ rfl
    have u0 := b3.frozen 0
    have u1 := b3.frozen 1
    have hs3 := hb3.size
    have HB : Hid (Below w.heap.size w WF) := (hbW.trans (hb3.mono hbW.size)).trans (hwF.below (by omega) (by omega))
    clear b0 b3 bF hwF hsF hs3
    go_wp2
    rw [hWF.out]
    exact bodyPost_ret (v := .tuple #[.agg #[.int .i64 1, .int .i64 n], .bool ok]) (by simp [results, Tryz.results56, go_sem, f0, f1]) rfl ⟨⟨⟨1, n⟩, ok, rfl, HA.out⟩, HB.out⟩
end Go.Proofs.YtajcffchopcamaaGreatDoor

/- The walk of impl.cutPath. -/
namespace Go.Proofs.YtajcffchopcamaaGreatDoor
open Go.RowKit

/-- What the cutter has at the place i: the pieces that end ahead of f, and no stop behind f. -/
def CutSt (L : List Int) (ps : List (List Int)) (f i : Nat) : Prop :=
  (ps = [] ∧ f = 0 ∧ ∀ t, t < i → stopB (L.getD t 0) = false) ∨ (CutTo L ps f ∧ f < i ∧ ∀ t, f + 1 ≤ t → t < i → stopB (L.getD t 0) = false)
theorem CutSt.zero (L : List Int) : CutSt L [] 0 0 := .inl ⟨rfl, rfl, fun t h => by omega⟩
theorem CutSt.go {L : List Int} {ps : List (List Int)} {f i : Nat} (h : CutSt L ps f i) (hn : stopB (L.getD i 0) = false) : CutSt L ps f (i + 1) := by
  rcases h with ⟨h1, h2, h3⟩ | ⟨h1, h2, h3⟩
  · refine .inl ⟨h1, h2, fun t ht => ?_⟩
    by_cases e : t = i
    · rw [e]; exact hn
    · exact h3 t (by omega)
  · refine .inr ⟨h1, by omega, fun t ht1 ht2 => ?_⟩
    by_cases e : t = i
    · rw [e]; exact hn
    · exact h3 t ht1 (by omega)
theorem CutSt.cut {L : List Int} {ps : List (List Int)} {f i : Nat} (h : CutSt L ps f i) (hi : i ≤ L.length) (hs : i < L.length → stopB (L.getD i 0) = true) : CutTo L (ps ++ [(L.drop f).take (i - f)]) i := by
  rcases h with ⟨rfl, rfl, h3⟩ | ⟨h1, h2, h3⟩
  · simpa using CutTo.head (L := L) ⟨Nat.zero_le _, hi, fun t _ ht => h3 t ht, hs⟩
  · exact CutTo.step h1 (by omega) ⟨h2, hi, h3, hs⟩

theorem stop_index (z : Int) (h : 0 ≤ z ∧ z < 256) : (stopB z = true ∧ 0 ≤ Lib.indexByte (ByteArray.mk #[46, 91]).data.toList z.toNat.toUInt8) ∨ (stopB z = false ∧ ¬ 0 ≤ Lib.indexByte (ByteArray.mk #[46, 91]).data.toList z.toNat.toUInt8) := by
  obtain ⟨n, rfl⟩ := Int.eq_ofNat_of_zero_le h.1
  have hn : n < 256 := by omega
  clear h
  have e : Lib.indexByte (ByteArray.mk #[46, 91]).data.toList ((n : Int).toNat.toUInt8) = if n = 46 then 0 else if n = 91 then 1 else -1 := by
    have hb : ∀ m : UInt8, (m == (n : Int).toNat.toUInt8) = decide (m.toNat = n) := fun m => by
      rw [Int.toNat_natCast]
      rw [Bool.eq_iff_iff]
      simp only [beq_iff_eq, decide_eq_true_eq]
      constructor
      · intro q; rw [q]; simp; omega
      · intro q; subst q; simp
    show Lib.indexByte [46, 91] _ = _
    simp only [Lib.indexByte, hb]
    have e46 : (46 : UInt8).toNat = 46 := rfl
    have e91 : (91 : UInt8).toNat = 91 := rfl
    rw [e46, e91]
    by_cases h1 : n = 46
    · simp [h1]
    · by_cases h2 : n = 91
      · simp [h2]
      · simp [h1, h2, eq_comm]
  rw [e]
  by_cases h1 : n = 46
  · left; simp [h1, stopB]
  · by_cases h2 : n = 91
    · left; simp [h2, stopB]
    · right; simp [h1, h2, stopB]; omega

theorem reads_piece {w : World} {B : Nat} {L : List Int} (h : Reads w (some ⟨B, 0, none⟩) L) (f n : Nat) : Reads w (some ⟨B, f, none⟩) ((L.drop f).take n) := by
  refine ⟨fun z hz => h.1 z (List.mem_of_mem_drop (List.mem_of_mem_take hz)), fun hne => ⟨B, f, rfl, fun i hi => ?_⟩⟩
  rw [List.length_take, List.length_drop] at hi
  have hL : L ≠ [] := by rintro rfl; simp at hne
  obtain ⟨b, off, e, hc⟩ := h.2 hL
  cases e
  have := hc (f + i) (by omega)
  rw [Nat.zero_add] at this
  rw [this]
  simp [List.getD, show i < n from by omega]

/-- What the cutter keeps: the row of the pieces, and that each is a part of the text. -/
structure PcAt (w : World) (B : Nat) (L : List Int) (wr : World) (a : Option Addr) (c : Nat) (ps : List PcA) : Prop where
  own : OwnPc B wr w.heap.size a c ps
  each : ∀ p ∈ ps, ∃ n, p.bs = (L.drop p.off).take n
  bl : Below w.heap.size w wr
theorem PcAt.next {w : World} {B : Nat} {L : List Int} {wr u w4 : World} {a a' : Option Addr} {c c' : Nat} {ps qs : List PcA} {f n : Nat} {z : PcA} (h : PcAt w B L wr a c ps) (hz : z.off = f ∧ z.bs = (L.drop f).take n) (hu : Below wr.heap.size wr u)
    (hg : u.grownBy w4 (Value.slice a ps.length c).ownBlock) (hq : qs = ps ++ [z]) (ho : OwnPc B w4 w.heap.size a' c' qs) : PcAt w B L w4 a' c' qs := by
  refine ⟨ho, fun p hp => ?_, (h.bl.trans (hu.mono h.bl.size)).grown hg (Nat.le_trans h.bl.size hu.size) (fun k hk => (h.own.lt k hk).1)⟩
  rw [hq] at hp
  rcases List.mem_append.1 hp with hp | hp
  · exact h.each p hp
  · simp at hp
    subst hp
    exact ⟨n, by rw [hz.1]; exact hz.2⟩

set_option maxRecDepth 100000 in
theorem run_slice3 (B f n i len c : Nat) (hi : i = f + n) (hc : i ≤ c) (h0 : n = 0 → f = 0) (w : World) :
    (Instr.slice 22 (.slice (some ⟨B, 0, none⟩) len c) (some (.int .i64 (f : Int))) (some (.int .i64 (i : Int))) (some (.int .i64 (i : Int)))).run Tryz.prog w = .ok (.slice (some ⟨B, f, none⟩) n n) w := by
  rw [run_slice_lhm w 22 (some ⟨B, 0, none⟩) len c Tryz.underlying22 .i64 .i64 .i64 f i i (by omega) (by omega) (by omega) (by omega)]
  have hs : (sizeOf (Tryz.prog.elem 22)).run Tryz.prog w = .ok 1 w := by kernel_rfl
  rw [hs]
  simp only [Result.andThen, sliced, Int.toNat_natCast]
  have e1 : i - f = n := by omega
  rw [e1]
  by_cases h : i = f
  · have : n = 0 := by omega
    rw [if_pos h, h0 this]
  · rw [if_neg h]
    simp [Addr_add]

/-- What the cutter answers. -/
def CutAll (w : World) (B : Nat) (L : List Int) (w' : World) (e : Ending) : Prop := ∃ a c ps, e = .returned (.slice a (ps : List PcA).length c) ∧ PcAt w B L w' a c ps ∧ CutTo L (ps.map (·.bs)) L.length

set_option maxHeartbeats 2000000 in
set_option maxRecDepth 100000 in
theorem cutPath_any (B c : Nat) (L : List Int) (w : World) (hr : Reads w (some ⟨B, 0, none⟩) L) (hl : L.length ≤ 1048576) (hc : L.length ≤ c) :
    Calls Tryz.prog 32 #[.slice (some ⟨B, 0, none⟩) L.length c] w fun e w' => CutAll w B L w' e := by
  have HBT : Hid (∀ u, Below w.heap.size w u → ∀ k, k < L.length → u.cell? ⟨B, k, none⟩ = some (.int .u8 (L.getD k 0))) := fun u hu k hk => by
    obtain ⟨b, off, e, h⟩ := (hr.below hu).2 (by rintro rfl; simp at hk)
    cases e
    have := h k hk
    rwa [Nat.zero_add] at this
  have HBY : Hid (∀ k, 0 ≤ L.getD k 0 ∧ L.getD k 0 < 256) := fun k => bytes_at hr.1 k
  have HIX : Hid (∀ (z : Int) (u : World), Calls Tryz.prog 57 #[.string ⟨#[46, 91]⟩, .int .u8 z] u fun e w' => e = .returned (.int .i64 (Lib.indexByte (ByteArray.mk #[46, 91]).data.toList z.toNat.toUInt8)) ∧ w' = u) := fun z u => Any.strings_IndexByte Tryz.lays137 ⟨#[46, 91]⟩ z u
  clear hr
  obtain ⟨W, hW, hWo, hWb⟩ : ∃ W, Hid (w.alloc (.cells #[] 22) = W) ∧ Hid (OwnPc B W w.heap.size (some ⟨w.heap.size, 0, none⟩) 0 []) ∧ Below w.heap.size w W := ⟨_, rfl, ownPc_lit0 B w, (Below.refl _ _).alloc (Nat.le_refl _) _⟩
  go_enter Tryz.func32, Tryz.ntmps32
  go_wp2_with fail
  rw [hW.out]
  clear hW
  go_loopw [3, 4, 9] (fun pv fv iv wr => ∃ (a : Option Addr) (cc : Nat) (ps : List PcA) (f i : Nat), pv = .slice a ps.length cc ∧ fv = .int .i64 f ∧ iv = .int .i64 i ∧ f ≤ i ∧ i ≤ L.length ∧ ps.length ≤ i ∧ Hid (CutSt L (ps.map (·.bs)) f i) ∧ PcAt w B L wr a cc ps) (fun _ _ i _ => L.length - (RowKit.intOf i).toNat)
  case atStart => exact ⟨_, 0, [], 0, 0, rfl, rfl, rfl, Nat.le_refl _, Nat.zero_le _, Nat.le_refl _, CutSt.zero L, hWo.out, (fun p hp => by cases hp), hWb⟩
  case round =>
    obtain ⟨a, cc, ps, f, i, rfl, rfl, rfl, hfi, hi, hpi, hst, hat⟩ := hrel
    clear hWo hWb
    by_cases hlt : i < L.length
    · have c0 := HBT.out wr hat.bl i hlt
      have hz := HBY.out i
      have HGO : Hid (stopB (L.getD i 0) = false → CutSt L (ps.map (·.bs)) f (i + 1)) := fun h => hst.out.go h
      have HCUT : Hid (stopB (L.getD i 0) = true → CutSt L (ps.map (·.bs) ++ [(L.drop f).take (i - f)]) i (i + 1)) := fun h => .inr ⟨hst.out.cut (by omega) (fun _ => h), by omega, fun t h1 h2 => by omega⟩
      generalize L.getD i 0 = z at *
      have hs := stop_index z hz
      have CI := HIX.out z wr
      generalize Lib.indexByte (ByteArray.mk #[46, 91]).data.toList z.toNat.toUInt8 = d at *
      rcases hs with ⟨hs, hd⟩ | ⟨hs, hd⟩
      · have HN := HCUT.out hs
        obtain ⟨n, hn⟩ : ∃ n, i = f + n := ⟨i - f, by omega⟩
        have hn0 : n = 0 → f = 0 := fun h => by
          rcases hst.out with ⟨_, h1, _⟩ | ⟨_, h1, _⟩ <;> omega
        have hSL := run_slice3 B f n i L.length c hn (by omega) hn0
        have hlen : ((L.drop f).take n).length = n := by rw [List.length_take, List.length_drop]; omega
        have HZ : Hid ((⟨(L.drop f).take n, f, n⟩ : PcA).off = f ∧ (⟨(L.drop f).take n, f, n⟩ : PcA).bs = (L.drop f).take n) := ⟨rfl, rfl⟩
        have HZC : Hid (Value.slice (some ⟨B, f, none⟩) n n = PcA.cell B ⟨(L.drop f).take n, f, n⟩) := by unfold PcA.cell; simp only [Hid]; rw [hlen]
        have HZN : Hid (∀ qs, qs = ps ++ [(⟨(L.drop f).take n, f, n⟩ : PcA)] → CutSt L (qs.map (·.bs)) i (i + 1)) := fun qs hq => by
          rw [hq, List.map_append]
          have := HN
          rw [show i - f = n from by omega] at this
          exact this
        generalize (⟨(L.drop f).take n, f, n⟩ : PcA) = z3 at *
        clear HGO HCUT hst hs HBT HBY HIX HN hn hlen
        have hpl : ps.length ≤ 1099511627776 := by omega
        obtain ⟨V, hV, bz, hbV, hsV⟩ := boxes1 wr [.slice (some ⟨B, f, none⟩) n n] 22
        have z0 := bz.cell 0 _ rfl
        have hoV := hat.own.below hbV
        have hloV : w.heap.size ≤ V.heap.size := Nat.le_trans hat.bl.size hbV.size
        clear bz hsV
        go_wp2_with fail
        refine CI.mono ?_
        rintro e w1 ⟨rfl, rfl⟩
        clear CI c0
        go_wp2_with (at_builtin; rw [hV.out]; refine append_pc1 (B := B) rfl (.tmp 18) (.tmp 24) rfl w.heap.size a cc ps rfl hoV w1.heap.size 1 z3 rfl (by rw [← HZC.out]; exact z0) hpl hloV ?_)
        intro a2 c2 qs w4 hq ho4 hg4
        have hq4 : qs.length = ps.length + 1 := by rw [hq.out]; simp
        have hat4 := hat.next HZ.out hbV hg4 hq.out ho4
        have HN4 : Hid (CutSt L (qs.map (·.bs)) i (i + 1)) := HZN.out qs hq.out
        clear hoV hbV hg4 ho4 HZ HZC HZN hq hat hV z0 hSL
        go_wp2
        go_roundw
        case rel => exact ⟨a2, c2, qs, i, i + 1, rfl, rfl, by go_num, by omega, by omega, by omega, HN4, hat4⟩
        case measure => simp [RowKit.intOf]; omega
      · have HN := HGO.out hs
        clear HGO HCUT hst hs HBT HBY HIX
        go_wp2_with fail
        refine CI.mono ?_
        rintro e w1 ⟨rfl, rfl⟩
        clear CI c0
        go_wp2
        go_roundw
        case rel => exact ⟨a, cc, ps, f, i + 1, rfl, rfl, by go_num, by omega, by omega, by omega, HN, hat⟩
        case measure => simp [RowKit.intOf]; omega
    · obtain rfl : i = L.length := by omega
      obtain ⟨n, hn⟩ : ∃ n, L.length = f + n := ⟨L.length - f, by omega⟩
      have hn0 : n = 0 → f = 0 := fun h => by
        rcases hst.out with ⟨_, h1, _⟩ | ⟨_, h1, _⟩ <;> omega
      have hSL := run_slice3 B f n L.length L.length c hn (by omega) hn0
      have hlen : ((L.drop f).take n).length = n := by rw [List.length_take, List.length_drop]; omega
      have HZ : Hid ((⟨(L.drop f).take n, f, n⟩ : PcA).off = f ∧ (⟨(L.drop f).take n, f, n⟩ : PcA).bs = (L.drop f).take n) := ⟨rfl, rfl⟩
      have HZC : Hid (Value.slice (some ⟨B, f, none⟩) n n = PcA.cell B ⟨(L.drop f).take n, f, n⟩) := by unfold PcA.cell; simp only [Hid]; rw [hlen]
      have HZN : Hid (∀ qs, qs = ps ++ [(⟨(L.drop f).take n, f, n⟩ : PcA)] → CutTo L (qs.map (·.bs)) L.length) := fun qs hq => by
        rw [hq, List.map_append]
        have := hst.out.cut (Nat.le_refl _) (fun h => by omega)
        rw [show L.length - f = n from by omega] at this
        exact this
      generalize (⟨(L.drop f).take n, f, n⟩ : PcA) = z3 at *
      clear hst HBT HBY HIX hn hlen
      have hpl : ps.length ≤ 1099511627776 := by omega
      obtain ⟨V, hV, bz, hbV, hsV⟩ := boxes1 wr [.slice (some ⟨B, f, none⟩) n n] 22
      have z0 := bz.cell 0 _ rfl
      have hoV := hat.own.below hbV
      have hloV : w.heap.size ≤ V.heap.size := Nat.le_trans hat.bl.size hbV.size
      clear bz hsV
      go_wp2_with (at_builtin; rw [hV.out]; refine append_pc1 (B := B) rfl (.tmp 28) (.tmp 36) rfl w.heap.size a cc ps rfl hoV wr.heap.size 1 z3 rfl (by rw [← HZC.out]; exact z0) hpl hloV ?_)
      intro a2 c2 qs w4 hq ho4 hg4
      have hat4 := hat.next HZ.out hbV hg4 hq.out ho4
      have HN4 : Hid (CutTo L (qs.map (·.bs)) L.length) := HZN.out qs hq.out
      clear hoV hbV hg4 ho4 HZ HZC HZN hq hat hV z0 hSL
      go_wp2
      go_ret
      exact ⟨a2, c2, qs, rfl, hat4, HN4⟩
end Go.Proofs.YtajcffchopcamaaGreatDoor

/- The walk of impl.parsePieces. -/
namespace Go.Proofs.YtajcffchopcamaaGreatDoor
open Go.RowKit

/-- What the loop keeps: the box of the answer, the box of the path that is read, the row of its steps. -/
structure PPIn (w : World) (Bp : Nat) (x : Int) (wr : World) (T : List StepV) (a : Option Addr) (c : Nat) : Prop where
  hB : w.heap.size < Bp
  sz : Bp + 1 ≤ wr.heap.size
  b0 : Box wr w.heap.size [.int .i64 0, .slice none 0 0] 27
  b1 : Box wr Bp [.int .i64 x, .slice a T.length c] 27
  own : OwnPh wr (Bp + 1) wr.heap.size a c T
  bl : Below w.heap.size w wr

theorem PPIn.grown {w : World} {Bp : Nat} {x : Int} {wr u w4 : World} {T : List StepV} {a : Option Addr} {c : Nat} (h : PPIn w Bp x wr T a c) (hu : Below wr.heap.size wr u) (hg : u.grownBy w4 (Value.slice a T.length c).ownBlock) :
    Box w4 w.heap.size [.int .i64 0, .slice none 0 0] 27 ∧ Box w4 Bp [.int .i64 x, .slice a T.length c] 27 ∧ Below w.heap.size w w4 ∧ Bp + 1 ≤ w4.heap.size := by
  have tt := Touch.of_grown (bl := (Value.slice a T.length c).ownBlock.toList) hg (fun k hk => Option.mem_toList.2 hk)
  have nin : ∀ k, k < Bp + 1 → k ∉ (Value.slice a T.length c).ownBlock.toList := fun k hk hm => by
    have := (h.own.lt k (Option.mem_toList.1 hm)).1
    omega
  have hz := h.sz
  have hB := h.hB
  have hsz := hu.size
  have c0 := h.b0.below hu (by omega)
  have c1 := h.b1.below hu (by omega)
  refine ⟨c0.block (tt.block _ c0.lt (nin _ (by omega))), c1.block (tt.block _ c1.lt (nin _ (by omega))), (h.bl.trans (hu.mono h.bl.size)).grown hg (by omega) (fun k hk => by have := (h.own.lt k hk).1; omega), by have := tt.size; omega⟩

theorem PPIn.put {w : World} {Bp : Nat} {x : Int} {w4 : World} {T T3 : List StepV} {a a3 : Option Addr} {c c3 : Nat} (hB : w.heap.size < Bp) (hb0 : Box w4 w.heap.size [.int .i64 0, .slice none 0 0] 27) (hb1 : Box w4 Bp [.int .i64 x, .slice a T.length c] 27) (hb : Below w.heap.size w w4) (hz : Bp + 1 ≤ w4.heap.size) (ho : OwnPh w4 (Bp + 1) w4.heap.size a3 c3 T3) :
    PPIn w Bp x (w4.setCell ⟨Bp, 1, none⟩ (.slice a3 T3.length c3)) T3 a3 c3 := by
  have hw := within_set w4 Bp 1 (.slice a3 T3.length c3) (lo := Bp) (hi := Bp + 1) (by omega)
  refine ⟨hB, by simpa using hz, hb0.other (by omega), hb1.set 1 _, ?_, hb.trans (hw.below (by omega) (by omega))⟩
  have := ho.within hw (.inr (Nat.le_refl _))
  simpa using this

theorem PPIn.below {w : World} {Bp : Nat} {x : Int} {wr u : World} {T : List StepV} {a : Option Addr} {c : Nat} (h : PPIn w Bp x wr T a c) (hu : Below wr.heap.size wr u) : PPIn w Bp x u T a c := by
  have hz := h.sz
  have hB := h.hB
  exact ⟨hB, Nat.le_trans hz hu.size, h.b0.below hu (by omega), h.b1.below hu (by omega), (h.own.below hu).widen (Nat.le_refl _) hu.size (Nat.le_refl _), h.bl.trans (hu.mono h.bl.size)⟩

/-- What parsePieces answers of these pieces. -/
def PiecesAns (w w' : World) (bs : List (List Int)) (e : Ending) : Prop := ∃ (x : Int) (T : List StepV) (a : Option Addr) (c : Nat) (ok : Bool), e = .returned (.tuple #[.agg #[.int .i64 x, .slice a T.length c], .bool ok]) ∧
  OwnPh w' w.heap.size w'.heap.size a c T ∧ T.length ≤ bs.length ∧ (ok = true → bs = numText x :: T.map stepText) ∧ (∀ y U, pathB y U = true → bs = numText y :: U.map stepText → ok = true ∧ y = x ∧ U = T) ∧ Below w.heap.size w w'

/-- The zero path, and that it is none. -/
theorem ppAns_no {w wr : World} {bs : List (List Int)} (b0 : Box wr w.heap.size [.int .i64 0, .slice none 0 0] 27) (bl : Below w.heap.size w wr) (hn : ∀ y U, pathB y U = true → bs ≠ numText y :: U.map stepText) :
    ∃ WF, Hid ((wr.setCell ⟨w.heap.size, 0, none⟩ (.int .i64 0)).setCell ⟨w.heap.size, 1, none⟩ (.slice none 0 0) = WF) ∧ (WF.cell? ⟨w.heap.size, 0, none⟩ = some (.int .i64 0) ∧ WF.cell? ⟨w.heap.size, 1, none⟩ = some (.slice none 0 0)) ∧ Hid (PiecesAns w WF bs (.returned (.tuple #[.agg #[.int .i64 0, .slice none 0 0], .bool false]))) := by
  obtain ⟨WF, hWF, bF, hwF, hsF⟩ := box2_fillP b0 (.int .i64 0) (.slice none 0 0)
  have hz := bl.size
  exact ⟨WF, hWF, ⟨bF.cell 0 _ rfl, bF.cell 1 _ rfl⟩, 0, [], none, 0, false, rfl, ownPh_nil _ _ _ (Nat.le_refl _), Nat.zero_le _, (fun h => by cases h), (fun y U h1 h2 => absurd h2 (hn y U h1)), bl.trans (hwF.below (Nat.le_refl _) (by omega))⟩
/-- The path that was read, laid into the answer's box. -/
theorem PPIn.yes {w : World} {Bp : Nat} {x : Int} {wr : World} {T : List StepV} {a : Option Addr} {c : Nat} (h : PPIn w Bp x wr T a c) {bs : List (List Int)} (he : bs = numText x :: T.map stepText) (hu : ∀ y U, pathB y U = true → bs = numText y :: U.map stepText → y = x ∧ U = T) :
    ∃ WF, Hid ((wr.setCell ⟨w.heap.size, 0, none⟩ (.int .i64 x)).setCell ⟨w.heap.size, 1, none⟩ (.slice a T.length c) = WF) ∧ (WF.cell? ⟨w.heap.size, 0, none⟩ = some (.int .i64 x) ∧ WF.cell? ⟨w.heap.size, 1, none⟩ = some (.slice a T.length c)) ∧ Hid (PiecesAns w WF bs (.returned (.tuple #[.agg #[.int .i64 x, .slice a T.length c], .bool true]))) := by
  obtain ⟨WF, hWF, bF, hwF, hsF⟩ := box2_fillP h.b0 (.int .i64 x) (.slice a T.length c)
  have hz := h.sz
  have hB := h.hB
  refine ⟨WF, hWF, ⟨bF.cell 0 _ rfl, bF.cell 1 _ rfl⟩, x, T, a, c, true, rfl, ?_, by rw [he]; simp, (fun _ => he), (fun y U h1 h2 => ⟨rfl, hu y U h1 h2⟩), h.bl.trans (hwF.below (Nat.le_refl _) (by omega))⟩
  exact (h.own.within hwF (.inr (by omega))).widen (by omega) (by omega) (Nat.le_refl _)

/-- What the pieces that were read say of every path whose pieces they are. -/
def ReadTo (bs : List (List Int)) (x : Int) (T : List StepV) : Prop := bs.take (T.length + 1) = numText x :: T.map stepText ∧ ∀ y U, pathB y U = true → bs = numText y :: U.map stepText → y = x ∧ T = U.take T.length

theorem readTo_step {bs : List (List Int)} {x : Int} {T : List StepV} {t : StepV} {ok : Bool} (h : ReadTo bs x T) (hk : T.length + 1 < bs.length) (hs : StepAns (bs.getD (T.length + 1) []) t ok) :
    (ok = true → ReadTo bs x (T ++ [t])) ∧ (ok = false → ∀ y U, pathB y U = true → bs ≠ numText y :: U.map stepText) := by
  have key : ∀ y U, pathB y U = true → bs = numText y :: U.map stepText → T.length < U.length ∧ bs.getD (T.length + 1) [] = stepText (U.getD T.length zeroPh) ∧ stepB (U.getD T.length zeroPh) = true := fun y U hB hb => by
    have hl : T.length < U.length := by rw [hb] at hk; simpa using hk
    refine ⟨hl, ?_, (pathB_info hB).2.2 _ hl⟩
    rw [hb]
    simp [List.getD, hl]
  refine ⟨fun hok => ⟨?_, fun y U hB hb => ?_⟩, fun hok y U hB hb => ?_⟩
  · have e := hs.1 hok
    rw [List.length_append, List.length_cons, List.length_nil, Nat.zero_add, List.take_add_one (i := T.length + 1), h.1]
    rw [← hok] at *
    have e2 : bs[T.length + 1]? = some (stepText t) := by rw [List.getElem?_eq_getElem hk, ← e]; simp [List.getD, hk]
    rw [e2]
    simp
  · obtain ⟨hl, e, hB2⟩ := key y U hB hb
    obtain ⟨g1, g2⟩ := h.2 y U hB hb
    refine ⟨g1, ?_⟩
    have := (hs.2 _ hB2 e).2
    rw [List.length_append, List.length_cons, List.length_nil, Nat.zero_add, List.take_add_one, ← g2, ← this]
    simp [List.getD, hl]
  · obtain ⟨hl, e, hB2⟩ := key y U hB hb
    have := (hs.2 _ hB2 e).1
    rw [hok] at this
    cases this
theorem readTo_end {bs : List (List Int)} {x : Int} {T : List StepV} (h : ReadTo bs x T) (hk : bs.length ≤ T.length + 1) : bs = numText x :: T.map stepText ∧ ∀ y U, pathB y U = true → bs = numText y :: U.map stepText → y = x ∧ U = T := by
  have e := h.1
  rw [List.take_of_length_le hk] at e
  refine ⟨e, fun y U hB hb => ?_⟩
  obtain ⟨g1, g2⟩ := h.2 y U hB hb
  refine ⟨g1, ?_⟩
  have hl : U.length = T.length := by
    have := congrArg List.length (e.symm.trans hb)
    simp at this
    omega
  rw [g2, ← hl, List.take_length]
theorem readTo_start {p : List Int} {rest : List (List Int)} {x : Int} (h : pNum p = some x) : ReadTo (p :: rest) x [] := by
  refine ⟨by simp [pNum_sound _ _ h], fun y U hB hb => ?_⟩
  have h1 : p = numText y := by simp at hb; exact hb.1
  have hy := (pathB_info hB).1
  rw [h1, pNum_back y hy] at h
  exact ⟨by simpa using h, rfl⟩
theorem readTo_none {p : List Int} {rest : List (List Int)} (h : pNum p = none) : ∀ y U, pathB y U = true → p :: rest ≠ numText y :: U.map stepText := by
  intro y U hB hb
  have h1 : p = numText y := by simp at hb; exact hb.1
  rw [h1, pNum_back y (pathB_info hB).1] at h
  cases h

set_option maxRecDepth 100000 in
theorem run_rest (g n cp : Nat) (hn : 0 < n) (hc : n ≤ cp) : ∃ o, (0 < n - 1 → o = 1) ∧ ∀ w, (Instr.slice 66 (.slice (some ⟨g, 0, none⟩) n cp) (some (.int .i64 1)) none none).run Tryz.prog w = .ok (.slice (some ⟨g, o, none⟩) (n - 1) (cp - 1)) w := by
  refine ⟨if cp = 1 then 0 else 1, fun h => by rw [if_neg (by omega)], fun w => ?_⟩
  rw [run_slice_l w 66 (some ⟨g, 0, none⟩) n cp Tryz.underlying66 .i64 1 (by omega) (by omega)]
  have hs : (sizeOf (Tryz.prog.elem 66)).run Tryz.prog w = .ok 1 w := by kernel_rfl
  rw [hs]
  simp only [Result.andThen, sliced, show Int.toNat 1 = 1 from rfl]
  by_cases h : cp = 1
  · rw [if_pos h, if_pos h]
  · rw [if_neg h, if_neg h]; simp [Addr_add]

set_option maxHeartbeats 2000000 in
set_option maxRecDepth 100000 in
theorem parsePieces_any (B g cp : Nat) (ps : List PcA) (w : World) (he : EnvN w) (hc : ∀ k, k < ps.length → w.cell? ⟨g, k, none⟩ = some ((ps.getD k zeroPc).cell B)) (hcp : ps.length ≤ cp) (hr : ∀ p ∈ ps, Reads w (some ⟨B, p.off, none⟩) p.bs ∧ p.bs.length ≤ 1048576) (hp : 0 < ps.length) (hl : ps.length ≤ 1048577) :
    Calls Tryz.prog 31 #[.slice (some ⟨g, 0, none⟩) ps.length cp] w fun e w' => PiecesAns w w' (ps.map (·.bs)) e := by
  obtain ⟨W, hW, b0, hbW, hsW⟩ := boxes1 w [.int .i64 0, .slice none 0 0] 27
  obtain ⟨o, ho1, hSL⟩ := run_rest g ps.length cp hp hcp
  have HPC : Hid (∀ u, Below w.heap.size w u → ∀ k, k < ps.length → u.cell? ⟨g, k, none⟩ = some (.slice (some ⟨B, (ps.getD k zeroPc).off, none⟩) (ps.getD k zeroPc).bs.length (ps.getD k zeroPc).c) ∧ Reads u (some ⟨B, (ps.getD k zeroPc).off, none⟩) (ps.getD k zeroPc).bs ∧ (ps.getD k zeroPc).bs.length ≤ 1048576) := fun u hu k hk => by
    have hm : ps.getD k zeroPc ∈ ps := by simp [List.getD, hk]
    refine ⟨?_, (hr _ hm).1.below hu, (hr _ hm).2⟩
    rw [hu.cell (p := ⟨g, k, none⟩) (block_lt (hc k hk))]
    exact hc k hk
  have HST : Hid (∀ (P : ByteArray) (u : World), Below w.heap.size w u → P.size ≤ 1048576 → Calls Tryz.prog 56 #[.string P] u fun e w' => ParseStepAns (sBytes P) e ∧ Below u.heap.size u w') := fun P u hu hz => parseStep_any P u (he.keep hu) hz
  have heW := he.keep hbW
  have hzW : w.heap.size < W.heap.size := b0.lt
  clear hc hr he hsW
  obtain ⟨q0, hr0, hl0⟩ := HPC.out W hbW 0 hp
  have hb0 : ps.map (·.bs) = (ps.getD 0 zeroPc).bs :: (ps.drop 1).map (·.bs) := by
    cases ps with
    | nil => simp at hp
    | cons a r => simp [List.getD]
  have HN0 : Hid (∀ x, pNum (ps.getD 0 zeroPc).bs = some x → ReadTo (ps.map (·.bs)) x []) := fun x h => by rw [hb0]; exact readTo_start h
  have HN1 : Hid (pNum (ps.getD 0 zeroPc).bs = none → ∀ y U, pathB y U = true → ps.map (·.bs) ≠ numText y :: U.map stepText) := fun h => by rw [hb0]; exact readTo_none h
  clear hb0
  generalize ps.getD 0 zeroPc = z at *
  have hcv : ∀ cap, (convert 22 9 (.slice (some ⟨B, z.off, none⟩) z.bs.length cap)).run Tryz.prog W = .ok (.string (strOf z.bs)) W := fun cap => run_text W B z.off cap z.bs _ rfl hr0
  have hsb : sBytes (strOf z.bs) = z.bs := sBytes_strOfP z.bs hr0.1
  have CN := parseNumberN_any (strOf z.bs) W heW (by rw [strOf_size]; exact hl0)
  rw [hsb] at CN
  clear hsb hr0 heW
  generalize strOf z.bs = S0 at *
  have HLB : Hid ((ps.map (·.bs)).length = ps.length) := List.length_map ..
  have HGB : Hid (∀ k, k < ps.length → (ps.map (·.bs)).getD k [] = (ps.getD k zeroPc).bs) := fun k hk => by simp [List.getD, hk]
  generalize hbs : ps.map (·.bs) = bs at *
  clear hbs
  cases hX : pNum z.bs with
  | none =>
    rw [hX] at CN
    simp only [numAns] at CN
    have hno := HN1.out hX
    have HNO : Hid (∀ y U, pathB y U = true → bs ≠ numText y :: U.map stepText) := hno
    clear HN0 HN1 hX HPC HST hno
    go_enter Tryz.func31, Tryz.ntmps31
    go_upto_region 1 with fail
    rw [hW.out]
    clear hW
    go_wp2_with fail
    refine CN.mono ?_
    rintro e w1 ⟨rfl, hb1⟩
    clear CN
    have b01 := b0.below hb1 b0.lt
    obtain ⟨WF, hWF, ⟨r0, r1⟩, HA⟩ := ppAns_no b01 (hbW.trans (hb1.mono hbW.size)) HNO.out
    have y0 := b01.cell 0 _ rfl
    have y1 := b01.cell 1 _ rfl
    have v0 := b01.frozen 0
    have v1 := b01.frozen 1
    clear HNO b0 b01
    go_wp2
    rw [hWF.out]
    exact bodyPost_ret (v := .tuple #[.agg #[.int .i64 0, .slice none 0 0], .bool false]) (by simp [results, Tryz.results31, go_sem, r0, r1]) rfl HA.out
  | some x =>
    rw [hX] at CN
    simp only [numAns] at CN
    have HRT : Hid (ReadTo bs x []) := HN0.out x hX
    clear HN0 HN1 hX
    go_enter Tryz.func31, Tryz.ntmps31
    go_upto_region 1 with fail
    rw [hW.out]
    clear hW
    go_wp2_with fail
    refine CN.mono ?_
    rintro e w1 ⟨rfl, hb1⟩
    clear CN
    have hz1 := hb1.size
    obtain ⟨V, hV, bV, hbV, hsV⟩ := boxes1 w1 [.int .i64 x, .slice none 0 0] 27
    have hPP : PPIn w w1.heap.size x V [] none 0 := ⟨by omega, bV.lt, (b0.below hb1 b0.lt).below hbV (by omega), bV, ownPh_nil _ _ _ (Nat.le_refl _), (hbW.trans (hb1.mono hbW.size)).trans (hbV.mono (by omega))⟩
    clear b0 bV hbV hsV q0 hcv hbW hl0
    go_upto_region 5 with fail
    rw [hV.out]
    clear hV hb1 hzW
    go_wp2_with fail
    have hpl : (ps.length - 1 : Nat) ≤ 1048576 := by omega
    go_loopw [27] (fun iv wr => ∃ (T : List StepV) (a : Option Addr) (c : Nat), iv = .int .i64 T.length ∧ T.length ≤ ps.length - 1 ∧ Hid (ReadTo bs x T) ∧ Hid (PPIn w w1.heap.size x wr T a c)) (fun i _ => ps.length - 1 - (RowKit.intOf i).toNat)
    case atStart => exact ⟨[], none, 0, rfl, Nat.zero_le _, HRT, hPP⟩
    case round =>
      obtain ⟨T, a, c, rfl, hT, HR, HP⟩ := hrel
      clear HRT hPP
      by_cases hlt : T.length < ps.length - 1
      · obtain rfl := ho1 (by omega)
        obtain ⟨q1, hr1, hl1⟩ := HPC.out wr HP.out.bl (T.length + 1) (by omega)
        have HSS : Hid (∀ t ok, StepAns (ps.getD (T.length + 1) zeroPc).bs t ok → (ok = true → ReadTo bs x (T ++ [t])) ∧ (ok = false → ∀ y U, pathB y U = true → bs ≠ numText y :: U.map stepText)) := fun t ok h => by
          refine readTo_step HR.out (by have := HLB.out; omega) ?_
          rw [HGB.out (T.length + 1) (by omega)]
          exact h
        clear HR
        generalize ps.getD (T.length + 1) zeroPc = z1 at *
        rw [Nat.add_comm T.length 1] at q1
        have hcv : ∀ cap, (convert 22 9 (.slice (some ⟨B, z1.off, none⟩) z1.bs.length cap)).run Tryz.prog wr = .ok (.string (strOf z1.bs)) wr := fun cap => run_text wr B z1.off cap z1.bs _ rfl hr1
        have hsb : sBytes (strOf z1.bs) = z1.bs := sBytes_strOfP z1.bs hr1.1
        have CS := HST.out (strOf z1.bs) wr HP.out.bl (by rw [strOf_size]; exact hl1)
        rw [hsb] at CS
        clear hsb hr1 hl1
        generalize strOf z1.bs = S1 at *
        go_wp2_with fail
        refine CS.mono ?_
        rintro e w2 ⟨⟨t, ok, rfl, hsa⟩, hb2⟩
        clear CS hcv q1
        have HP2 : Hid (PPIn w w1.heap.size x w2 T a c) := HP.out.below hb2
        have hS := HSS.out t ok hsa
        clear HSS hsa hb2 HP
        obtain ⟨V2, hV2, bz, hbV2, hsV2⟩ := boxes1 w2 [.int .i64 t.kd, .int .i64 t.num] 44
        have HP3 : Hid (PPIn w w1.heap.size x V2 T a c) := HP2.out.below hbV2
        have k0 := bz.cell 0 _ rfl
        have k1 := bz.cell 1 _ rfl
        clear HP2 bz hbV2 hsV2
        go_upto_region 9 with fail
        rw [hV2.out]
        clear hV2
        cases ok with
        | false =>
          obtain ⟨WF, hWF, ⟨r0, r1⟩, HA⟩ := ppAns_no HP3.out.b0 HP3.out.bl (hS.2 rfl)
          have y0 := HP3.out.b0.cell 0 _ rfl
          have y1 := HP3.out.b0.cell 1 _ rfl
          have v0 := HP3.out.b0.frozen 0
          have v1 := HP3.out.b0.frozen 1
          clear HP3 hS HPC HST HGB HLB
          go_wp2
          rw [hWF.out]
          exact bodyPost_ret (v := .tuple #[.agg #[.int .i64 0, .slice none 0 0], .bool false]) (by simp [results, Tryz.results31, go_sem, r0, r1]) rfl HA.out
        | true =>
          have HRN : Hid (ReadTo bs x (T ++ [t])) := hS.1 rfl
          have y1 := HP3.out.b1.cell 1 _ rfl
          have hr1 := readsPh_one V2 t 44
          have hu : Below V2.heap.size V2 (V2.alloc (.cells #[.int .i64 t.kd, .int .i64 t.num] 44)) := (Below.refl _ _).alloc (Nat.le_refl _) _
          have hoA := HP3.out.own.below hu
          have hlo : w1.heap.size + 1 ≤ (V2.alloc (.cells #[.int .i64 t.kd, .int .i64 t.num] 44)).heap.size := by have := HP3.out.sz; simp; omega
          clear hS HPC HST HGB HLB
          go_wp2_with (at_builtin; refine append_steps rfl _ _ rfl (w1.heap.size + 1) V2.heap.size a c T rfl hoA (some ⟨V2.heap.size, 0, none⟩) 1 [t] rfl hr1 (by intro h; cases h) (by simp; omega) hlo ?_; intro a3 c3 T3 w4 hT3 ho3 hg3; have hgg := HP3.out.grown hu hg3; have p1 := hgg.2.1.cell 1 _ rfl; have f1 := hgg.2.1.frozen 1)
          go_roundw
          case rel => exact ⟨T3, a3, c3, by rw [hT3.out]; simp, by rw [hT3.out]; simp; omega, by rw [hT3.out]; exact HRN, PPIn.put HP3.out.hB hgg.1 hgg.2.1 hgg.2.2.1 hgg.2.2.2 ho3⟩
          case measure => simp [RowKit.intOf]; omega
      · obtain ⟨g1, g2⟩ := readTo_end HR.out (by have := HLB.out; omega)
        obtain ⟨WF, hWF, ⟨r0, r1⟩, HA⟩ := HP.out.yes g1 g2
        have y0 := HP.out.b0.cell 0 _ rfl
        have y1 := HP.out.b0.cell 1 _ rfl
        have v0 := HP.out.b0.frozen 0
        have v1 := HP.out.b0.frozen 1
        have p0 := HP.out.b1.cell 0 _ rfl
        have p1 := HP.out.b1.cell 1 _ rfl
        have hzz := HP.out.hB
        clear g1 g2 HR HP HPC HST HGB HLB
        go_wp2
        rw [hWF.out]
        exact bodyPost_ret (v := .tuple #[.agg #[.int .i64 x, .slice a T.length c], .bool true]) (by simp [results, Tryz.results31, go_sem, r0, r1]) rfl HA.out
end Go.Proofs.YtajcffchopcamaaGreatDoor

/- The walk of impl.ParsePath. -/
namespace Go.Proofs.YtajcffchopcamaaGreatDoor
open Go.RowKit

/-- The bytes of a text, in a row of their own. -/
theorem bytes_of_str (w : World) (s : ByteArray) :
    ∃ W c, (convert 9 22 (.string s)).run Tryz.prog w = .ok (.slice (some ⟨w.heap.size, 0, none⟩) (sBytes s).length c) W ∧ Reads W (some ⟨w.heap.size, 0, none⟩) (sBytes s) ∧ (sBytes s).length ≤ c ∧ Below w.heap.size w W ∧ w.heap.size < W.heap.size := by
  have h := Lib.run_convert_string_bytes (P := Tryz.prog) w 9 22 5 s Tryz.underlying9 Tryz.underlying22 Tryz.underlying5
  have hl := sBytes_len s
  refine ⟨_, _, by rw [hl]; exact h, ⟨fun z hz => ?_, fun hne => ⟨w.heap.size, 0, rfl, fun i hi => ?_⟩⟩, ?_, ?_, ?_⟩
  · obtain ⟨b, _, rfl⟩ := List.mem_map.1 hz
    have := b.toNat_lt
    omega
  · have hi' : i < s.size := by rw [← hl]; exact hi
    rw [Nat.zero_add, Lib.bytesWorld_cell w 5 s i hi']
    unfold sBytes
    simp only [List.getD, List.getElem?_map]
    cases s.data.toList[i]? <;> rfl
  · rw [hl]; exact grownCap_ge _ _ _ _
  · exact ⟨rfl, rfl, rfl, by rw [Lib.bytesWorld_size]; omega, fun k hk => Lib.bytesWorld_at_old w _ _ k hk⟩
  · rw [Lib.bytesWorld_size]; omega

theorem CutTo.few {L : List Int} {ps : List (List Int)} {i : Nat} (h : CutTo L ps i) : ps.length ≤ i + 1 := by
  induction h with
  | head h => simp
  | @step ps i j h hi hj ih =>
    have := hj.1
    simp
    omega

/-- What comes of the pieces that were read. -/
theorem pathAns_of {w w' : World} {L : List Int} {bs : List (List Int)} {x : Int} {T : List StepV} {a : Option Addr} {c : Nat} {ok : Bool} (hc : CutTo L bs L.length) (h1 : ok = true → bs = numText x :: T.map stepText) (h2 : ∀ y U, pathB y U = true → bs = numText y :: U.map stepText → ok = true ∧ y = x ∧ U = T)
    (ho : OwnPh w' w.heap.size w'.heap.size a c T) (hb : Below w.heap.size w w') :
    ((ok = true ∧ pathB x T = true) → PathAns w w' L (.returned (.tuple #[.agg #[.int .i64 x, .slice a T.length c], .bool true]))) ∧ ((ok = false ∨ pathB x T = false) → PathAns w w' L (.returned (.tuple #[.agg #[.int .i64 0, .slice none 0 0], .bool false]))) := by
  refine ⟨fun ⟨g1, g2⟩ => ⟨.inl ⟨x, T, a, c, rfl, pieces_yes hc g2 (h1 g1), ho⟩, hb⟩, fun g => ⟨.inr ⟨rfl, fun y U hP => ?_⟩, hb⟩⟩
  obtain ⟨e1, rfl, rfl⟩ := h2 y U hP.1 (hc.whole hP)
  rcases g with g | g
  · rw [g] at e1; cases e1
  · rw [hP.1] at g; cases g

set_option maxHeartbeats 2000000 in
set_option maxRecDepth 100000 in
theorem implParsePath_any (s : ByteArray) (w : World) (he : EnvN w) (hs : s.size ≤ 1048576) :
    Calls Tryz.prog 8 #[.string s] w fun e w' => PathAns w w' (sBytes s) e := by
  obtain ⟨W, hW, b0, hbW, hsW⟩ := boxes1 w [.int .i64 0, .slice none 0 0] 27
  obtain ⟨W1, c1, hcv, hr1, hc1, hb1, hz1⟩ := bytes_of_str W s
  have hl : (sBytes s).length ≤ 1048576 := by rw [sBytes_len]; exact hs
  have CC := cutPath_any W.heap.size c1 (sBytes s) W1 hr1 hl hc1
  have B1 : Below w.heap.size w W1 := hbW.trans (hb1.mono hbW.size)
  have heW := he.keep B1
  have b01 := b0.below hb1 b0.lt
  have hWs : W.heap.size = w.heap.size + 1 := hsW
  clear he b0 hsW hbW
  generalize sBytes s = L at *
  rw [hWs] at hcv hr1 CC
  clear hb1 hWs hz1
  go_enter Tryz.func8, Tryz.ntmps8
  go_upto_region 1 with fail
  rw [hW.out]
  clear hW
  go_wp2_with fail
  refine CC.mono ?_
  clear CC hcv
  rintro e w2 ⟨a2, c2, ps, rfl, hat, hct⟩
  have hpp : 0 < ps.length := by have := hct.pos; simpa using this
  have hpf : ps.length ≤ 1048577 := by have := hct.few; rw [List.length_map] at this; omega
  obtain ⟨g, rfl, hg, hpc, hcell⟩ := hat.own.cell hpp
  have CP := parsePieces_any (w.heap.size + 1) g c2 ps w2 (heW.keep hat.bl) hcell hpc (fun p hp => by
    obtain ⟨n, hn⟩ := hat.each p hp
    rw [hn]
    exact ⟨reads_piece (hr1.below hat.bl) p.off n, by simp; omega⟩) hpp hpf
  have B2 : Below w.heap.size w w2 := B1.trans (hat.bl.mono B1.size)
  have b02 := b01.below hat.bl b01.lt
  clear hat hcell hr1 heW b01 B1
  go_wp2_with fail
  refine CP.mono ?_
  clear CP
  rintro e w3 ⟨x, T, a, c, ok, rfl, ho, hTl, h1, h2, hb3⟩
  have hz2 := B2.size
  have hlt2 : w.heap.size < w2.heap.size := b02.lt
  obtain ⟨V, hV, bV, hbV, hsV⟩ := boxes1 w3 [.int .i64 x, .slice a T.length c] 27
  have hoV := ho.below hbV
  have CK := implPathOk_any x T a c V hoV.reads (by rw [List.length_map] at hTl; omega)
  have BV : Below w.heap.size w V := (B2.trans (hb3.mono B2.size)).trans (hbV.mono (by have := hb3.size; omega))
  have b03 := (b02.below hb3 b02.lt).below hbV (by have := hb3.size; omega)
  have hs3 := hb3.size
  have hsV' := hbV.size
  have HFIN : Hid (∀ u, Below V.heap.size V u → ∀ v0 v1, ∃ WF, Hid ((u.setCell ⟨w.heap.size, 0, none⟩ v0).setCell ⟨w.heap.size, 1, none⟩ v1 = WF) ∧ (WF.cell? ⟨w.heap.size, 0, none⟩ = some v0 ∧ WF.cell? ⟨w.heap.size, 1, none⟩ = some v1) ∧ OwnPh WF w.heap.size WF.heap.size a c T ∧ Below w.heap.size w WF) := fun u hu v0 v1 => by
    obtain ⟨WF, hWF, bF, hwF, hsF⟩ := box2_fillP (b03.below hu (by omega)) v0 v1
    have hz := hu.size
    refine ⟨WF, hWF, ⟨bF.cell 0 _ rfl, bF.cell 1 _ rfl⟩, ?_, (BV.trans (hu.mono (by omega))).trans (hwF.below (Nat.le_refl _) (by omega))⟩
    exact ((hoV.below hu).within hwF (.inr (by omega))).widen (by omega) (by omega) (Nat.le_refl _)
  have HB0 : Hid (∀ u, Below V.heap.size V u → Box u w.heap.size [.int .i64 0, .slice none 0 0] 27 ∧ Box u w3.heap.size [.int .i64 x, .slice a T.length c] 27) := fun u hu => ⟨b03.below hu (by omega), bV.below hu bV.lt⟩
  have HANS : Hid (∀ WF, OwnPh WF w.heap.size WF.heap.size a c T → Below w.heap.size w WF → ((ok = true ∧ pathB x T = true) → PathAns w WF L (.returned (.tuple #[.agg #[.int .i64 x, .slice a T.length c], .bool true]))) ∧ ((ok = false ∨ pathB x T = false) → PathAns w WF L (.returned (.tuple #[.agg #[.int .i64 0, .slice none 0 0], .bool false])))) := fun WF h3 h4 => pathAns_of hct h1 h2 h3 h4
  have k0 := bV.cell 0 _ rfl
  have k1 := bV.cell 1 _ rfl
  clear bV b03 b02 hoV ho hb3 h1 h2 hct hTl BV B2 hs3 hsV' hsV hbV
  go_upto_region 2 with fail
  rw [hV.out]
  clear hV
  cases ok with
  | false =>
    obtain ⟨c0, -⟩ := HB0.out V (Below.refl _ _)
    obtain ⟨WF, hWF, ⟨r0, r1⟩, hoF, hbF⟩ := HFIN.out V (Below.refl _ _) (.int .i64 0) (.slice none 0 0)
    have HA : Hid (PathAns w WF L (.returned (.tuple #[.agg #[.int .i64 0, .slice none 0 0], .bool false]))) := (HANS.out WF hoF hbF).2 (.inl rfl)
    have y0 := c0.cell 0 _ rfl
    have y1 := c0.cell 1 _ rfl
    have v0 := c0.frozen 0
    have v1 := c0.frozen 1
    clear HANS HFIN HB0 c0 CK hoF hbF
    go_wp2
    rw [hWF.out]
    exact bodyPost_ret (v := .tuple #[.agg #[.int .i64 0, .slice none 0 0], .bool false]) (by simp [results, Tryz.results8, go_sem, r0, r1]) rfl HA.out
  | true =>
    go_wp2_with fail
    refine CK.mono ?_
    clear CK
    rintro e w4 ⟨rfl, hb4⟩
    obtain ⟨c0, c1'⟩ := HB0.out w4 hb4
    have y0 := c0.cell 0 _ rfl
    have y1 := c0.cell 1 _ rfl
    have v0 := c0.frozen 0
    have v1 := c0.frozen 1
    have x0 := c1'.cell 0 _ rfl
    have x1 := c1'.cell 1 _ rfl
    clear HB0 c0 c1' k0 k1
    cases hB : pathB x T with
    | false =>
      obtain ⟨WF, hWF, ⟨r0, r1⟩, hoF, hbF⟩ := HFIN.out w4 hb4 (.int .i64 0) (.slice none 0 0)
      have HA : Hid (PathAns w WF L (.returned (.tuple #[.agg #[.int .i64 0, .slice none 0 0], .bool false]))) := (HANS.out WF hoF hbF).2 (.inr hB)
      clear HANS HFIN hoF hbF hB
      go_wp2
      rw [hWF.out]
      exact bodyPost_ret (v := .tuple #[.agg #[.int .i64 0, .slice none 0 0], .bool false]) (by simp [results, Tryz.results8, go_sem, r0, r1]) rfl HA.out
    | true =>
      obtain ⟨WF, hWF, ⟨r0, r1⟩, hoF, hbF⟩ := HFIN.out w4 hb4 (.int .i64 x) (.slice a T.length c)
      have HA : Hid (PathAns w WF L (.returned (.tuple #[.agg #[.int .i64 x, .slice a T.length c], .bool true]))) := (HANS.out WF hoF hbF).1 ⟨by trivial, hB⟩
      clear HANS HFIN hoF hbF hB
      go_wp2
      rw [hWF.out]
      exact bodyPost_ret (v := .tuple #[.agg #[.int .i64 x, .slice a T.length c], .bool true]) (by simp [results, Tryz.results8, go_sem, r0, r1]) rfl HA.out
end Go.Proofs.YtajcffchopcamaaGreatDoor
