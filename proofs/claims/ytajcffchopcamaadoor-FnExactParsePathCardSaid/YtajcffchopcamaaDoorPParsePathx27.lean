/- Several texts in one, in their order. -/
import Derived.Test.YtajcffchopcamaaDoorPParsePathx25
import Derived.Test.YtajcffchopcamaaDoorPParsePathx26
import Derived.Test.YtajcffchopcamaaDoorPParsePathx13
import Derived.Test.YtajcffchopcamaaDoorShelf
import Derived.Test.YtajcffchopcamaaDoorPParsePathx24
import Derived.Test.YtajcffchopcamaaDoorPParsePathx9
import Derived.Test.YtajcffchopcamaaDoorPParsePathx22
import Derived.Test.YtajcffchopcamaaDoorPParsePathx20
/- strconv.Itoa and strconv.Atoi by the library's contracts; the walk of impl.parseNumber where the errors' own type is not asked for. -/
namespace Go.Proofs.YtajcffchopcamaaDoor
open Go.RowKit

/-- The library's table of powers. -/
def PowT (w : World) : Prop := ∃ t f, w.heap[0]? = some (.cells (Lib.pow10Tab.map fun z => Value.int .u64 z).toArray t f)
theorem PowT.keep {w w' : World} (h : PowT w) (hb : Below w.heap.size w w') : PowT w' := by
  obtain ⟨t, f, hp⟩ := h
  exact ⟨t, f, by rw [hb.block _ (Array.getElem?_eq_some_iff.1 hp).1]; exact hp⟩

theorem below_growN (w : World) (k : Nat) (os : Array Obj) : Below w.heap.size w (Sort.grow (w.drewN k) os) := by
  refine ⟨rfl, rfl, rfl, by simp [Sort.grow], fun j hj => ?_⟩
  have h1 : j < (w.drewN k).heap.size := hj
  simp only [Sort.grow]
  rw [Array.getElem?_append_left h1]
  rfl

theorem itoa_pow (z : Int) (hz : -9223372036854775808 ≤ z ∧ z ≤ 9223372036854775807) (w : World) (he : PowT w) :
    Calls Tryd.prog 19 #[.int .i64 z] w fun e w' => e = .returned (.string (strOf (numText z))) ∧ Below w.heap.size w w' := by
  obtain ⟨t, f, h⟩ := he
  refine (Any.strconv_Itoa Tryd.laysM171 z hz.1 hz.2 w (tabIs_of (by kernel_rfl) h)).mono ?_
  rintro e w' ⟨rfl, k, os, rfl⟩
  exact ⟨by rw [itoa_str], below_growN w k os⟩

/-- What the library's variables hold on the road of a number that is read. -/
structure EnvN (w : World) : Prop where
  pow : PowT w
  syn : ∃ te pe, w.cell? ⟨2, 0, none⟩ = some (.iface te pe)
  rng : ∃ te pe, w.cell? ⟨3, 0, none⟩ = some (.iface te pe)
theorem EnvN.keep {w w' : World} (h : EnvN w) (hb : Below w.heap.size w w') : EnvN w' := by
  refine ⟨h.pow.keep hb, ?_, ?_⟩
  · obtain ⟨te, pe, hm⟩ := h.syn
    exact ⟨te, pe, by rw [hb.cell (p := ⟨_, 0, none⟩) (block_lt hm)]; exact hm⟩
  · obtain ⟨te, pe, hm⟩ := h.rng
    exact ⟨te, pe, by rw [hb.cell (p := ⟨_, 0, none⟩) (block_lt hm)]; exact hm⟩

theorem pNumN_lib (s : ByteArray) : pNum (sBytes s) = match Lib.atoiAll s.data.toList with
    | .ok v => if numText v = sBytes s then some v else none
    | _ => none := by
  have e : (sBytes s).map b8 = s.data.toList := by rw [sBytes_toI, b8_toI]
  unfold pNum
  cases h : Lib.atoiAll s.data.toList <;> simp only [e, h]
theorem textN_same (v : Int) (s : ByteArray) : (strOf (numText v)) = s ↔ numText v = sBytes s := by
  have hb : ∀ z ∈ numText v, 0 ≤ z ∧ z < 256 := by
    intro z hz
    rcases numText_sign v z hz with rfl | h
    · decide
    · omega
  have key : sBytes (strOf (numText v)) = numText v := by
    rw [strOf_b8, sBytes_mk, List.map_map]
    conv => rhs; rw [← List.map_id (numText v)]
    apply List.map_congr_left
    intro z hz
    have := hb z hz
    simp [toI, b8]
    omega
  constructor
  · intro h; rw [← h, key]
  · intro h; apply sBytes_inj; rw [key, h]

set_option maxHeartbeats 1000000 in
set_option maxRecDepth 100000 in
theorem parseNumberN_any (s : ByteArray) (w : World) (he : EnvN w) (hs : s.size ≤ 1048576) : Calls Tryd.prog 35 #[.string s] w fun e w' => e = .returned (numAns (pNum (sBytes s))) ∧ Below w.heap.size w w' := by
  have HP := pNumN_lib s
  generalize pNum (sBytes s) = X at *
  cases ha : Lib.atoiAll s.data.toList
  case ok v =>
    rw [ha] at HP
    simp only at HP
    have hat := Any.strconv_Atoi_ok Tryd.laysC172 s (by omega) v ha w
    have hbd := Lib.atoiAll_bounds ha
    have htx := textN_same v s
    have hit := fun w' (g : PowT w') => itoa_pow v hbd w' g
    clear ha
    generalize strOf (numText v) = T at *
    by_cases hT : T = s
    · have HX : Hid (X = some v) := by rw [Hid, HP, if_pos (htx.1 hT)]
      have hTb : (T.toList == s.toList) = true := by rw [hT]; simp
      clear HP htx hT
      go_enter Tryd.func35, Tryd.ntmps35
      go_wp2_with fail
      refine hat.mono ?_
      rintro e w1 ⟨rfl, hw1⟩
      have hb1 : Below w.heap.size w w1 := by
        rcases hw1 with rfl | ⟨t, rfl⟩
        · exact Below.refl _ _
        · exact Lib.bytesWorld_below _ _ _
      clear hat hw1
      go_wp2_with fail
      refine (hit w1 (he.pow.keep hb1)).mono ?_
      rintro e w2 ⟨rfl, hb2⟩
      clear hit
      go_wp2
      go_ret2
      exact ⟨by rw [HX.out]; rfl, hb1.trans (hb2.mono hb1.size)⟩
    · have HX : Hid (X = none) := by rw [Hid, HP, if_neg (fun h => hT (htx.2 h))]
      have hTb : (T.toList == s.toList) = false := by
        rw [beq_eq_false_iff_ne]
        intro e
        apply hT
        apply ByteArray.ext
        apply Array.ext'
        rw [ByteArray.toList_eq, ByteArray.toList_eq] at e
        exact e
      clear HP htx hT
      go_enter Tryd.func35, Tryd.ntmps35
      go_wp2_with fail
      refine hat.mono ?_
      rintro e w1 ⟨rfl, hw1⟩
      have hb1 : Below w.heap.size w w1 := by
        rcases hw1 with rfl | ⟨t, rfl⟩
        · exact Below.refl _ _
        · exact Lib.bytesWorld_below _ _ _
      clear hat hw1
      go_wp2_with fail
      refine (hit w1 (he.pow.keep hb1)).mono ?_
      rintro e w2 ⟨rfl, hb2⟩
      clear hit
      go_wp2
      go_ret2
      exact ⟨by rw [HX.out]; rfl, hb1.trans (hb2.mono hb1.size)⟩
  all_goals
    rw [ha] at HP
    simp only at HP
    have HX : Hid (X = none) := HP
    have hat : Calls Tryd.prog 40 #[.string s] w fun e w' => ∃ N z, e = .returned (.tuple #[.int .i64 z, .iface 89 (.pointer (some ⟨N, 0, none⟩))]) ∧ Below w.heap.size w w' := by
      first
      | (obtain ⟨te, pe, hv⟩ := he.syn
         refine (Any.strconv_Atoi_syntax Tryd.laysC172 s (by omega) ha _ w hv (.inr ⟨te, pe, rfl⟩)).mono ?_
         rintro e w' ⟨N, rfl, _, _, hb⟩
         exact ⟨N, _, rfl, hb⟩)
      | (obtain ⟨te, pe, hv⟩ := he.rng
         refine (Any.strconv_Atoi_range Tryd.laysC172 s (by omega) ha _ w hv (.inr ⟨te, pe, rfl⟩)).mono ?_
         rintro e w' ⟨N, rfl, _, _, hb⟩
         exact ⟨N, _, rfl, hb⟩)
    clear ha HP
    go_enter Tryd.func35, Tryd.ntmps35
    go_wp2_with fail
    refine hat.mono ?_
    rintro e w1 ⟨N, z, rfl, hb1⟩
    clear hat
    go_wp2
    go_ret2
    exact ⟨by rw [HX.out]; rfl, hb1⟩
end Go.Proofs.YtajcffchopcamaaDoor

/- The walks of impl.parseN, parseStep. -/
namespace Go.Proofs.YtajcffchopcamaaDoor
open Go.RowKit

theorem trim_size (s p q : List UInt8) : (Lib.trimPrefix s p).length ≤ s.length ∧ (Lib.trimSuffix (Lib.trimPrefix s p) q).length ≤ s.length := by
  have h : ∀ a b : List UInt8, (Lib.trimPrefix a b).length ≤ a.length := fun a b => by unfold Lib.trimPrefix; split <;> simp
  have g : ∀ a b : List UInt8, (Lib.trimSuffix a b).length ≤ a.length := fun a b => by unfold Lib.trimSuffix; split <;> simp
  exact ⟨h s p, Nat.le_trans (g _ q) (h s p)⟩

theorem box2_fillN {w : World} {B : Nat} {x0 x1 : Value} {t : TypeId} (b : Box w B [x0, x1] t) (v0 v1 : Value) :
    ∃ W, Hid ((w.setCell ⟨B, 0, none⟩ v0).setCell ⟨B, 1, none⟩ v1 = W) ∧ Box W B [v0, v1] t ∧ Within B (B + 1) w W ∧ W.heap.size = w.heap.size := by
  refine ⟨_, rfl, by simpa using (b.set 0 v0).set 1 v1, (within_set w B 0 v0 (by omega)).trans (within_set _ B 1 v1 (by omega)), by simp⟩

/-- What parseN answers. -/
def ParseNAns (kind : Int) (L A B : List Int) (e : Ending) : Prop := ∃ n ok, e = .returned (.tuple #[.agg #[.int .i64 kind, .int .i64 n], .bool ok]) ∧ NumAns L A B n ok

set_option maxHeartbeats 2000000 in
set_option maxRecDepth 100000 in
theorem parseN_any (kind : Int) (s A B : ByteArray) (w : World) (he : EnvN w) (hs : s.size ≤ 1048576) :
    Calls Tryd.prog 42 #[.int .i64 kind, .string s, .string A, .string B] w fun e w' => ParseNAns kind (sBytes s) (sBytes A) (sBytes B) e ∧ Below w.heap.size w w' := by
  have hN : NumAns (sBytes s) (sBytes A) (sBytes B) ((pNum (sBytes ⟨(Lib.trimSuffix (Lib.trimPrefix s.data.toList A.data.toList) B.data.toList).toArray⟩)).getD 0) (Lib.hasPrefix s.data.toList A.data.toList && (Lib.hasSuffix (Lib.trimPrefix s.data.toList A.data.toList) B.data.toList && (pNum (sBytes ⟨(Lib.trimSuffix (Lib.trimPrefix s.data.toList A.data.toList) B.data.toList).toArray⟩)).isSome)) := by
    rw [sBytes_mk]
    exact numAns_trim s.data.toList A.data.toList B.data.toList
  obtain ⟨z1, z2⟩ := trim_size s.data.toList A.data.toList B.data.toList
  have hsz : s.data.toList.length = s.size := (Lib.size_eq s).symm
  obtain ⟨W, hW, b0, hbW, hsW⟩ := boxes1 w [.int .i64 0, .int .i64 0] 41
  have CP := Any.strings_CutPrefix Tryd.lays103 s A W
  have CS := Any.strings_CutSuffix Tryd.lays104 ⟨(Lib.trimPrefix s.data.toList A.data.toList).toArray⟩ B W (by simp [ByteArray.size]; omega)
  have CN := parseNumberN_any ⟨(Lib.trimSuffix (Lib.trimPrefix s.data.toList A.data.toList) B.data.toList).toArray⟩ W (he.keep hbW) (by simp only [ByteArray.size, List.size_toArray]; omega)
  have e1 : (ByteArray.mk (Lib.trimPrefix s.data.toList A.data.toList).toArray).data.toList = Lib.trimPrefix s.data.toList A.data.toList := rfl
  rw [e1] at CS
  clear e1
  generalize Lib.hasPrefix s.data.toList A.data.toList = b1 at *
  generalize Lib.hasSuffix (Lib.trimPrefix s.data.toList A.data.toList) B.data.toList = b2 at *
  generalize (⟨(Lib.trimSuffix (Lib.trimPrefix s.data.toList A.data.toList) B.data.toList).toArray⟩ : ByteArray) = S2 at *
  generalize (⟨(Lib.trimPrefix s.data.toList A.data.toList).toArray⟩ : ByteArray) = S1 at *
  generalize pNum (sBytes S2) = X at *
  have HN : Hid (NumAns (sBytes s) (sBytes A) (sBytes B) (X.getD 0) (b1 && (b2 && X.isSome))) := hN
  clear hN z1 z2 hsz hsW he
  obtain ⟨n, ok, hX, hXn, hXo⟩ : ∃ n ok, numAns X = .tuple #[.int .i64 n, .bool ok] ∧ X.getD 0 = n ∧ X.isSome = ok := by
    cases X with
    | none => exact ⟨0, false, rfl, rfl, rfl⟩
    | some v => exact ⟨v, true, rfl, rfl, rfl⟩
  rw [hX] at CN
  rw [hXn, hXo] at HN
  clear hX hXn hXo
  have hz : w.heap.size < W.heap.size := b0.lt
  go_enter Tryd.func42, Tryd.ntmps42
  go_upto_region 1 with fail
  rw [hW.out]
  clear hW
  go_wp2_with fail
  refine CP.mono ?_
  rintro e w1 ⟨rfl, rfl⟩
  clear CP
  go_wp2_with fail
  refine CS.mono ?_
  rintro e w2 ⟨rfl, rfl⟩
  clear CS
  go_wp2_with fail
  refine CN.mono ?_
  rintro e w3 ⟨rfl, hb3⟩
  clear CN
  have b3 := b0.below hb3 b0.lt
  obtain ⟨WF, hWF, bF, hwF, hsF⟩ := box2_fillN b3 (.int .i64 kind) (.int .i64 n)
  have g0 := b3.cell 0 _ rfl
  have g1 := b3.cell 1 _ rfl
  have f0 := bF.cell 0 _ rfl
  have f1 := bF.cell 1 _ rfl
  have u0 := b3.frozen 0
  have u1 := b3.frozen 1
  have hs3 := hb3.size
  have HB : Hid (Below w.heap.size w WF) := (hbW.trans (hb3.mono hbW.size)).trans (hwF.below (by omega) (by omega))
  clear b0 b3 bF hwF hsF hs3
  cases b1 with
  | false =>
    have HA : Hid (NumAns (sBytes s) (sBytes A) (sBytes B) n false) := by rw [Hid]; simpa using HN.out
    clear HN
    go_wp2
    rw [hWF.out]
    exact bodyPost_ret (v := .tuple #[.agg #[.int .i64 kind, .int .i64 n], .bool false]) (by simp [results, Tryd.results42, go_sem, f0, f1]) rfl ⟨⟨n, false, rfl, HA.out⟩, HB.out⟩
  | true =>
    cases b2 with
    | false =>
      have HA : Hid (NumAns (sBytes s) (sBytes A) (sBytes B) n false) := by rw [Hid]; simpa using HN.out
      clear HN
      go_wp2
      rw [hWF.out]
      exact bodyPost_ret (v := .tuple #[.agg #[.int .i64 kind, .int .i64 n], .bool false]) (by simp [results, Tryd.results42, go_sem, f0, f1]) rfl ⟨⟨n, false, rfl, HA.out⟩, HB.out⟩
    | true =>
      have HA : Hid (NumAns (sBytes s) (sBytes A) (sBytes B) n ok) := by rw [Hid]; simpa using HN.out
      clear HN
      go_wp2
      rw [hWF.out]
      exact bodyPost_ret (v := .tuple #[.agg #[.int .i64 kind, .int .i64 n], .bool ok]) (by simp [results, Tryd.results42, go_sem, f0, f1]) rfl ⟨⟨n, ok, rfl, HA.out⟩, HB.out⟩

/-- What parseStep answers. -/
def ParseStepAns (L : List Int) (e : Ending) : Prop := ∃ t ok, e = .returned (.tuple #[.agg #[.int .i64 (t : StepV).kd, .int .i64 t.num], .bool ok]) ∧ StepAns L t ok

theorem stepAns_num {L A B : List Int} {kd n : Int} {ok : Bool} (h : NumAns L A B n ok) (he : ∀ m, stepText ⟨kd, m⟩ = A ++ numText m ++ B) (hk : ∀ t, stepB t = true → L = stepText t → t.kd = kd) : StepAns L ⟨kd, n⟩ ok := by
  refine ⟨fun g => by rw [he]; exact h.1 g, fun t ht hL => ?_⟩
  have h1 := hk t ht hL
  obtain ⟨k, m⟩ := t
  simp only at h1
  subst h1
  have hs := (stepB_small ht).1
  obtain ⟨g1, g2⟩ := h.2 m hs.1 hs.2 (by rw [← he]; exact hL)
  exact ⟨g1, by rw [g2]⟩

theorem step_first {t : StepV} (h : stepB t = true) : (t.kd = 1 ∧ ∃ c R, numText t.num = c :: R ∧ c ≠ 42 ∧ stepText t = 46 :: c :: R) ∨ (t = ⟨2, 0⟩ ∧ stepText t = [46, 42]) ∨ (t = ⟨3, 0⟩ ∧ stepText t = [46, 42, 42]) ∨ (t.kd = 4 ∧ stepText t = 91 :: 107 :: 61 :: (numText t.num ++ [93])) ∨ (t.kd = 5 ∧ stepText t = 91 :: 105 :: 62 :: (numText t.num ++ [93])) := by
  have hs := stepB_small h
  obtain ⟨kd, num⟩ := t
  simp only at *
  rcases stepB_kd h with e | e | e | e | e
  · simp only at e
    subst e
    obtain ⟨c, R, en, hc⟩ := numText_first num
    exact .inl ⟨rfl, c, R, en, hc, by simp [stepText, en]⟩
  · simp only at e
    subst e
    obtain rfl := hs.2 (.inl rfl)
    exact .inr (.inl ⟨rfl, rfl⟩)
  · simp only at e
    subst e
    obtain rfl := hs.2 (.inr rfl)
    exact .inr (.inr (.inl ⟨rfl, rfl⟩))
  · simp only at e
    subst e
    exact .inr (.inr (.inr (.inl ⟨rfl, by simp [stepText]⟩)))
  · simp only at e
    subst e
    exact .inr (.inr (.inr (.inr ⟨rfl, by simp [stepText]⟩)))

/-- Which of its ways the program goes at a piece. -/
theorem stepI_ways (P : ByteArray) :
    ((P.toList == [46, 42]) = true ∧ StepAns (sBytes P) ⟨2, 0⟩ true) ∨
    ((P.toList == [46, 42]) = false ∧ (P.toList == [46, 42, 42]) = true ∧ StepAns (sBytes P) ⟨3, 0⟩ true) ∨
    ((P.toList == [46, 42]) = false ∧ (P.toList == [46, 42, 42]) = false ∧
      ((Lib.hasPrefix P.data.toList (ByteArray.mk #[91, 107, 61]).data.toList = true ∧ ∀ n ok, NumAns (sBytes P) (sBytes ⟨#[91, 107, 61]⟩) (sBytes ⟨#[93]⟩) n ok → StepAns (sBytes P) ⟨4, n⟩ ok) ∨
       (Lib.hasPrefix P.data.toList (ByteArray.mk #[91, 107, 61]).data.toList = false ∧ Lib.hasPrefix P.data.toList (ByteArray.mk #[91, 105, 62]).data.toList = true ∧ ∀ n ok, NumAns (sBytes P) (sBytes ⟨#[91, 105, 62]⟩) (sBytes ⟨#[93]⟩) n ok → StepAns (sBytes P) ⟨5, n⟩ ok) ∨
       (Lib.hasPrefix P.data.toList (ByteArray.mk #[91, 107, 61]).data.toList = false ∧ Lib.hasPrefix P.data.toList (ByteArray.mk #[91, 105, 62]).data.toList = false ∧ ∀ n ok, NumAns (sBytes P) (sBytes ⟨#[46]⟩) (sBytes ⟨#[]⟩) n ok → StepAns (sBytes P) ⟨1, n⟩ ok))) := by
  have s1 : sBytes ⟨#[91, 107, 61]⟩ = [91, 107, 61] := rfl
  have s2 : sBytes ⟨#[91, 105, 62]⟩ = [91, 105, 62] := rfl
  have s3 : sBytes ⟨#[93]⟩ = [93] := rfl
  have s4 : sBytes ⟨#[46]⟩ = [46] := rfl
  have s5 : sBytes ⟨#[]⟩ = [] := rfl
  have hp : ∀ p : List UInt8, Lib.hasPrefix P.data.toList p = decide ((p.map toI) <+: sBytes P) := fun p => by
    unfold Lib.hasPrefix
    rw [Bool.eq_iff_iff, List.isPrefixOf_iff_prefix, decide_eq_true_eq, sBytes_toI]
    constructor
    · rintro ⟨r, hr⟩; exact ⟨r.map toI, by rw [← hr]; simp⟩
    · rintro ⟨r, hr⟩
      refine ⟨r.map b8, ?_⟩
      have := congrArg (List.map b8) hr
      rw [List.map_append, b8_toI, b8_toI] at this
      exact this
  have k1 : (ByteArray.mk #[91, 107, 61]).data.toList.map toI = [91, 107, 61] := rfl
  have k2 : (ByteArray.mk #[91, 105, 62]).data.toList.map toI = [91, 105, 62] := rfl
  rw [str_is, str_is, hp, hp, k1, k2, s1, s2, s3, s4, s5]
  generalize sBytes P = L
  simp only [List.map_cons, List.map_nil, show ((46 : UInt8).toNat : Int) = 46 from rfl, show ((42 : UInt8).toNat : Int) = 42 from rfl]
  by_cases h1 : L = [46, 42]
  · refine .inl ⟨decide_eq_true h1, fun _ => h1, fun t ht hL => ⟨rfl, ?_⟩⟩
    rcases step_first ht with ⟨_, c, R, _, hc, e⟩ | ⟨e, _⟩ | ⟨_, e⟩ | ⟨_, e⟩ | ⟨_, e⟩
    · rw [hL, e] at h1; simp at h1; exact absurd h1.1 hc
    · exact e
    · rw [hL, e] at h1; simp at h1
    · rw [hL, e] at h1; simp at h1
    · rw [hL, e] at h1; simp at h1
  by_cases h2 : L = [46, 42, 42]
  · refine .inr (.inl ⟨decide_eq_false h1, decide_eq_true h2, fun _ => h2, fun t ht hL => ⟨rfl, ?_⟩⟩)
    rcases step_first ht with ⟨_, c, R, _, hc, e⟩ | ⟨_, e⟩ | ⟨e, _⟩ | ⟨_, e⟩ | ⟨_, e⟩
    · rw [hL, e] at h2; simp at h2; exact absurd h2.1 hc
    · rw [hL, e] at h2; simp at h2
    · exact e
    · rw [hL, e] at h2; simp at h2
    · rw [hL, e] at h2; simp at h2
  refine .inr (.inr ⟨decide_eq_false h1, decide_eq_false h2, ?_⟩)
  by_cases h3 : [91, 107, 61] <+: L
  · refine .inl ⟨decide_eq_true h3, fun n ok h => stepAns_num h (fun m => by simp [stepText]) (fun t ht hL => ?_)⟩
    obtain ⟨r, hr⟩ := h3
    rcases step_first ht with ⟨_, c, R, _, hc, e⟩ | ⟨_, e⟩ | ⟨_, e⟩ | ⟨e, _⟩ | ⟨_, e⟩
    · rw [hL, e] at hr; simp at hr
    · exact absurd (hL.trans e) h1
    · exact absurd (hL.trans e) h2
    · exact e
    · rw [hL, e] at hr; simp at hr
  by_cases h4 : [91, 105, 62] <+: L
  · refine .inr (.inl ⟨decide_eq_false h3, decide_eq_true h4, fun n ok h => stepAns_num h (fun m => by simp [stepText]) (fun t ht hL => ?_)⟩)
    obtain ⟨r, hr⟩ := h4
    rcases step_first ht with ⟨_, c, R, _, hc, e⟩ | ⟨_, e⟩ | ⟨_, e⟩ | ⟨_, e⟩ | ⟨e, _⟩
    · rw [hL, e] at hr; simp at hr
    · exact absurd (hL.trans e) h1
    · exact absurd (hL.trans e) h2
    · rw [hL, e] at hr; simp at hr
    · exact e
  · refine .inr (.inr ⟨decide_eq_false h3, decide_eq_false h4, fun n ok h => stepAns_num h (fun m => by simp [stepText]) (fun t ht hL => ?_)⟩)
    rcases step_first ht with ⟨e, _⟩ | ⟨_, e⟩ | ⟨_, e⟩ | ⟨_, e⟩ | ⟨_, e⟩
    · exact e
    · exact absurd (hL.trans e) h1
    · exact absurd (hL.trans e) h2
    · exact absurd ⟨_, (hL.trans e).symm⟩ h3
    · exact absurd ⟨_, (hL.trans e).symm⟩ h4

set_option maxHeartbeats 2000000 in
set_option maxRecDepth 100000 in
theorem parseStep_any (P : ByteArray) (w : World) (he : EnvN w) (hs : P.size ≤ 1048576) :
    Calls Tryd.prog 36 #[.string P] w fun e w' => ParseStepAns (sBytes P) e ∧ Below w.heap.size w w' := by
  obtain ⟨W, hW, b0, hbW, hsW⟩ := boxes1 w [.int .i64 0, .int .i64 0] 41
  have heW := he.keep hbW
  have hz : w.heap.size < W.heap.size := b0.lt
  clear hsW he
  have HK := Any.strings_HasPrefix Tryd.lays99 P ⟨#[91, 107, 61]⟩ W
  have HI := Any.strings_HasPrefix Tryd.lays99 P ⟨#[91, 105, 62]⟩ W
  rcases stepI_ways P with ⟨q1, hw0⟩ | ⟨q1, q2, hw0⟩ | ⟨q1, q2, ⟨q3, hw0⟩ | ⟨q3, q4, hw0⟩ | ⟨q3, q4, hw0⟩⟩
  · have hway : Hid (StepAns (sBytes P) ⟨2, 0⟩ true) := hw0
    clear hw0 HK HI heW
    obtain ⟨WF, hWF, bF, hwF, hsF⟩ := box2_fillN b0 (.int .i64 2) (.int .i64 0)
    have g0 := b0.cell 0 _ rfl
    have g1 := b0.cell 1 _ rfl
    have f0 := bF.cell 0 _ rfl
    have f1 := bF.cell 1 _ rfl
    have u0 := b0.frozen 0
    have u1 := b0.frozen 1
    have HB : Hid (Below w.heap.size w WF) := hbW.trans (hwF.below (by omega) (by omega))
    clear b0 bF hwF hsF
    go_enter Tryd.func36, Tryd.ntmps36
    go_upto_region 1 with fail
    rw [hW.out]
    clear hW
    go_wp2
    rw [hWF.out]
    exact bodyPost_ret (v := .tuple #[.agg #[.int .i64 2, .int .i64 0], .bool true]) (by simp [results, Tryd.results36, go_sem, f0, f1]) rfl ⟨⟨⟨2, 0⟩, true, rfl, hway.out⟩, HB.out⟩
  · have hway : Hid (StepAns (sBytes P) ⟨3, 0⟩ true) := hw0
    clear hw0 HK HI heW
    obtain ⟨WF, hWF, bF, hwF, hsF⟩ := box2_fillN b0 (.int .i64 3) (.int .i64 0)
    have g0 := b0.cell 0 _ rfl
    have g1 := b0.cell 1 _ rfl
    have f0 := bF.cell 0 _ rfl
    have f1 := bF.cell 1 _ rfl
    have u0 := b0.frozen 0
    have u1 := b0.frozen 1
    have HB : Hid (Below w.heap.size w WF) := hbW.trans (hwF.below (by omega) (by omega))
    clear b0 bF hwF hsF
    go_enter Tryd.func36, Tryd.ntmps36
    go_upto_region 1 with fail
    rw [hW.out]
    clear hW
    go_wp2
    rw [hWF.out]
    exact bodyPost_ret (v := .tuple #[.agg #[.int .i64 3, .int .i64 0], .bool true]) (by simp [results, Tryd.results36, go_sem, f0, f1]) rfl ⟨⟨⟨3, 0⟩, true, rfl, hway.out⟩, HB.out⟩
  · have hway : Hid (_) := hw0
    rw [q3] at HK
    have CN := parseN_any 4 P ⟨#[91, 107, 61]⟩ ⟨#[93]⟩ W heW hs
    clear hw0 HI heW q3
    go_enter Tryd.func36, Tryd.ntmps36
    go_upto_region 1 with fail
    rw [hW.out]
    clear hW
    go_wp2_with fail
    refine HK.mono ?_
    rintro e w1 ⟨rfl, rfl⟩
    clear HK
    go_wp2_with fail
    refine CN.mono ?_
    rintro e w3 ⟨⟨n, ok, rfl, hNA⟩, hb3⟩
    clear CN
    have HA : Hid (StepAns (sBytes P) ⟨4, n⟩ ok) := hway.out n ok hNA
    clear hway hNA
    have b3 := b0.below hb3 b0.lt
    obtain ⟨WF, hWF, bF, hwF, hsF⟩ := box2_fillN b3 (.int .i64 4) (.int .i64 n)
    have g0 := b3.cell 0 _ rfl
    have g1 := b3.cell 1 _ rfl
    have f0 := bF.cell 0 _ rfl
    have f1 := bF.cell 1 _ rfl
    have u0 := b3.frozen 0
    have u1 := b3.frozen 1
    have hs3 := hb3.size
    have HB : Hid (Below w.heap.size w WF) := (hbW.trans (hb3.mono hbW.size)).trans (hwF.below (by omega) (by omega))
    clear b0 b3 bF hwF hsF hs3
    go_wp2
    rw [hWF.out]
    exact bodyPost_ret (v := .tuple #[.agg #[.int .i64 4, .int .i64 n], .bool ok]) (by simp [results, Tryd.results36, go_sem, f0, f1]) rfl ⟨⟨⟨4, n⟩, ok, rfl, HA.out⟩, HB.out⟩
  · have hway : Hid (_) := hw0
    rw [q3] at HK
    rw [q4] at HI
    have CN := parseN_any 5 P ⟨#[91, 105, 62]⟩ ⟨#[93]⟩ W heW hs
    clear hw0 heW q3 q4
    go_enter Tryd.func36, Tryd.ntmps36
    go_upto_region 1 with fail
    rw [hW.out]
    clear hW
    go_wp2_with fail
    refine HK.mono ?_
    rintro e w1 ⟨rfl, rfl⟩
    clear HK
    go_wp2_with fail
    refine HI.mono ?_
    rintro e w2 ⟨rfl, rfl⟩
    clear HI
    go_wp2_with fail
    refine CN.mono ?_
    rintro e w3 ⟨⟨n, ok, rfl, hNA⟩, hb3⟩
    clear CN
    have HA : Hid (StepAns (sBytes P) ⟨5, n⟩ ok) := hway.out n ok hNA
    clear hway hNA
    have b3 := b0.below hb3 b0.lt
    obtain ⟨WF, hWF, bF, hwF, hsF⟩ := box2_fillN b3 (.int .i64 5) (.int .i64 n)
    have g0 := b3.cell 0 _ rfl
    have g1 := b3.cell 1 _ rfl
    have f0 := bF.cell 0 _ rfl
    have f1 := bF.cell 1 _ rfl
    have u0 := b3.frozen 0
    have u1 := b3.frozen 1
    have hs3 := hb3.size
    have HB : Hid (Below w.heap.size w WF) := (hbW.trans (hb3.mono hbW.size)).trans (hwF.below (by omega) (by omega))
    clear b0 b3 bF hwF hsF hs3
    go_wp2
    rw [hWF.out]
    exact bodyPost_ret (v := .tuple #[.agg #[.int .i64 5, .int .i64 n], .bool ok]) (by simp [results, Tryd.results36, go_sem, f0, f1]) rfl ⟨⟨⟨5, n⟩, ok, rfl, HA.out⟩, HB.out⟩
  · have hway : Hid (_) := hw0
    rw [q3] at HK
    rw [q4] at HI
    have CN := parseN_any 1 P ⟨#[46]⟩ ⟨#[]⟩ W heW hs
    clear hw0 heW q3 q4
    go_enter Tryd.func36, Tryd.ntmps36
    go_upto_region 1 with fail
    rw [hW.out]
    clear hW
    go_wp2_with fail
    refine HK.mono ?_
    rintro e w1 ⟨rfl, rfl⟩
    clear HK
    go_wp2_with fail
    refine HI.mono ?_
    rintro e w2 ⟨rfl, rfl⟩
    clear HI
    go_wp2_with fail
    refine CN.mono ?_
    rintro e w3 ⟨⟨n, ok, rfl, hNA⟩, hb3⟩
    clear CN
    have HA : Hid (StepAns (sBytes P) ⟨1, n⟩ ok) := hway.out n ok hNA
    clear hway hNA
    have b3 := b0.below hb3 b0.lt
    obtain ⟨WF, hWF, bF, hwF, hsF⟩ := box2_fillN b3 (.int .i64 1) (.int .i64 n)
    have g0 := b3.cell 0 _ rfl
    have g1 := b3.cell 1 _ rfl
    have f0 := bF.cell 0 _ rfl
    have f1 := bF.cell 1 _ rfl
    have u0 := b3.frozen 0
    have u1 := b3.frozen 1
    have hs3 := hb3.size
    have HB : Hid (Below w.heap.size w WF) := (hbW.trans (hb3.mono hbW.size)).trans (hwF.below (by omega) (by omega))
    clear b0 b3 bF hwF hsF hs3
    go_wp2
    rw [hWF.out]
    exact bodyPost_ret (v := .tuple #[.agg #[.int .i64 1, .int .i64 n], .bool ok]) (by simp [results, Tryd.results36, go_sem, f0, f1]) rfl ⟨⟨⟨1, n⟩, ok, rfl, HA.out⟩, HB.out⟩
end Go.Proofs.YtajcffchopcamaaDoor

/- The walk of impl.cutPath. -/
namespace Go.Proofs.YtajcffchopcamaaDoor
open Go.RowKit

/-- What the cutter has at the place i: the pieces that end ahead of f, and no stop behind f. -/
def CutSt (L : List Int) (ps : List (List Int)) (f i : Nat) : Prop :=
  (ps = [] ∧ f = 0 ∧ ∀ t, t < i → stopB (L.getD t 0) = false) ∨ (CutTo L ps f ∧ f < i ∧ ∀ t, f + 1 ≤ t → t < i → stopB (L.getD t 0) = false)
theorem CutSt.zero (L : List Int) : CutSt L [] 0 0 := .inl ⟨rfl, rfl, fun t h => by omega⟩
theorem CutSt.go {L : List Int} {ps : List (List Int)} {f i : Nat} (h : CutSt L ps f i) (hn : stopB (L.getD i 0) = false) : CutSt L ps f (i + 1) := by
  rcases h with ⟨h1, h2, h3⟩ | ⟨h1, h2, h3⟩
  · refine .inl ⟨h1, h2, fun t ht => ?_⟩
    by_cases e : t = i
    · rw [e]; exact hn
    · exact h3 t (by omega)
  · refine .inr ⟨h1, by omega, fun t ht1 ht2 => ?_⟩
    by_cases e : t = i
    · rw [e]; exact hn
    · exact h3 t ht1 (by omega)
theorem CutSt.cut {L : List Int} {ps : List (List Int)} {f i : Nat} (h : CutSt L ps f i) (hi : i ≤ L.length) (hs : i < L.length → stopB (L.getD i 0) = true) : CutTo L (ps ++ [(L.drop f).take (i - f)]) i := by
  rcases h with ⟨rfl, rfl, h3⟩ | ⟨h1, h2, h3⟩
  · simpa using CutTo.head (L := L) ⟨Nat.zero_le _, hi, fun t _ ht => h3 t ht, hs⟩
  · exact CutTo.step h1 (by omega) ⟨h2, hi, h3, hs⟩

theorem stop_index (z : Int) (h : 0 ≤ z ∧ z < 256) : (stopB z = true ∧ 0 ≤ Lib.indexByte (ByteArray.mk #[46, 91]).data.toList z.toNat.toUInt8) ∨ (stopB z = false ∧ ¬ 0 ≤ Lib.indexByte (ByteArray.mk #[46, 91]).data.toList z.toNat.toUInt8) := by
  obtain ⟨n, rfl⟩ := Int.eq_ofNat_of_zero_le h.1
  have hn : n < 256 := by omega
  clear h
  have e : Lib.indexByte (ByteArray.mk #[46, 91]).data.toList ((n : Int).toNat.toUInt8) = if n = 46 then 0 else if n = 91 then 1 else -1 := by
    have hb : ∀ m : UInt8, (m == (n : Int).toNat.toUInt8) = decide (m.toNat = n) := fun m => by
      rw [Int.toNat_natCast]
      rw [Bool.eq_iff_iff]
      simp only [beq_iff_eq, decide_eq_true_eq]
      constructor
      · intro q; rw [q]; simp; omega
      · intro q; subst q; simp
    show Lib.indexByte [46, 91] _ = _
    simp only [Lib.indexByte, hb]
    have e46 : (46 : UInt8).toNat = 46 := rfl
    have e91 : (91 : UInt8).toNat = 91 := rfl
    rw [e46, e91]
    by_cases h1 : n = 46
    · simp [h1]
    · by_cases h2 : n = 91
      · simp [h2]
      · simp [h1, h2, eq_comm]
  rw [e]
  by_cases h1 : n = 46
  · left; simp [h1, stopB]
  · by_cases h2 : n = 91
    · left; simp [h2, stopB]
    · right; simp [h1, h2, stopB]; omega

theorem reads_piece {w : World} {B : Nat} {L : List Int} (h : Reads w (some ⟨B, 0, none⟩) L) (f n : Nat) : Reads w (some ⟨B, f, none⟩) ((L.drop f).take n) := by
  refine ⟨fun z hz => h.1 z (List.mem_of_mem_drop (List.mem_of_mem_take hz)), fun hne => ⟨B, f, rfl, fun i hi => ?_⟩⟩
  rw [List.length_take, List.length_drop] at hi
  have hL : L ≠ [] := by rintro rfl; simp at hne
  obtain ⟨b, off, e, hc⟩ := h.2 hL
  cases e
  have := hc (f + i) (by omega)
  rw [Nat.zero_add] at this
  rw [this]
  simp [List.getD, show i < n from by omega]

/-- What the cutter keeps: the row of the pieces, and that each is a part of the text. -/
structure PcAt (w : World) (B : Nat) (L : List Int) (wr : World) (a : Option Addr) (c : Nat) (ps : List PcA) : Prop where
  own : OwnPc B wr w.heap.size a c ps
  each : ∀ p ∈ ps, ∃ n, p.bs = (L.drop p.off).take n
  bl : Below w.heap.size w wr
theorem PcAt.next {w : World} {B : Nat} {L : List Int} {wr u w4 : World} {a a' : Option Addr} {c c' : Nat} {ps qs : List PcA} {f n : Nat} {z : PcA} (h : PcAt w B L wr a c ps) (hz : z.off = f ∧ z.bs = (L.drop f).take n) (hu : Below wr.heap.size wr u)
    (hg : u.grownBy w4 (Value.slice a ps.length c).ownBlock) (hq : qs = ps ++ [z]) (ho : OwnPc B w4 w.heap.size a' c' qs) : PcAt w B L w4 a' c' qs := by
  refine ⟨ho, fun p hp => ?_, (h.bl.trans (hu.mono h.bl.size)).grown hg (Nat.le_trans h.bl.size hu.size) (fun k hk => (h.own.lt k hk).1)⟩
  rw [hq] at hp
  rcases List.mem_append.1 hp with hp | hp
  · exact h.each p hp
  · simp at hp
    subst hp
    exact ⟨n, by rw [hz.1]; exact hz.2⟩

set_option maxRecDepth 100000 in
theorem run_slice3 (B f n i len c : Nat) (hi : i = f + n) (hc : i ≤ c) (h0 : n = 0 → f = 0) (w : World) :
    (Instr.slice 51 (.slice (some ⟨B, 0, none⟩) len c) (some (.int .i64 (f : Int))) (some (.int .i64 (i : Int))) (some (.int .i64 (i : Int)))).run Tryd.prog w = .ok (.slice (some ⟨B, f, none⟩) n n) w := by
  rw [run_slice_lhm w 51 (some ⟨B, 0, none⟩) len c Tryd.underlying51 .i64 .i64 .i64 f i i (by omega) (by omega) (by omega) (by omega)]
  have hs : (sizeOf (Tryd.prog.elem 51)).run Tryd.prog w = .ok 1 w := by kernel_rfl
  rw [hs]
  simp only [Result.andThen, sliced, Int.toNat_natCast]
  have e1 : i - f = n := by omega
  rw [e1]
  by_cases h : i = f
  · have : n = 0 := by omega
    rw [if_pos h, h0 this]
  · rw [if_neg h]
    simp [Addr_add]

/-- What the cutter answers. -/
def CutAll (w : World) (B : Nat) (L : List Int) (w' : World) (e : Ending) : Prop := ∃ a c ps, e = .returned (.slice a (ps : List PcA).length c) ∧ PcAt w B L w' a c ps ∧ CutTo L (ps.map (·.bs)) L.length

set_option maxHeartbeats 2000000 in
set_option maxRecDepth 100000 in
theorem cutPath_any (B c : Nat) (L : List Int) (w : World) (hr : Reads w (some ⟨B, 0, none⟩) L) (hl : L.length ≤ 1048576) (hc : L.length ≤ c) :
    Calls Tryd.prog 25 #[.slice (some ⟨B, 0, none⟩) L.length c] w fun e w' => CutAll w B L w' e := by
  have HBT : Hid (∀ u, Below w.heap.size w u → ∀ k, k < L.length → u.cell? ⟨B, k, none⟩ = some (.int .u8 (L.getD k 0))) := fun u hu k hk => by
    obtain ⟨b, off, e, h⟩ := (hr.below hu).2 (by rintro rfl; simp at hk)
    cases e
    have := h k hk
    rwa [Nat.zero_add] at this
  have HBY : Hid (∀ k, 0 ≤ L.getD k 0 ∧ L.getD k 0 < 256) := fun k => bytes_at hr.1 k
  have HIX : Hid (∀ (z : Int) (u : World), Calls Tryd.prog 37 #[.string ⟨#[46, 91]⟩, .int .u8 z] u fun e w' => e = .returned (.int .i64 (Lib.indexByte (ByteArray.mk #[46, 91]).data.toList z.toNat.toUInt8)) ∧ w' = u) := fun z u => Any.strings_IndexByte Tryd.lays137 ⟨#[46, 91]⟩ z u
  clear hr
  obtain ⟨W, hW, hWo, hWb⟩ : ∃ W, Hid (w.alloc (.cells #[] 51) = W) ∧ Hid (OwnPc B W w.heap.size (some ⟨w.heap.size, 0, none⟩) 0 []) ∧ Below w.heap.size w W := ⟨_, rfl, ownPc_lit0 B w, (Below.refl _ _).alloc (Nat.le_refl _) _⟩
  go_enter Tryd.func25, Tryd.ntmps25
  go_wp2_with fail
  rw [hW.out]
  clear hW
  go_loopw [3, 4, 9] (fun pv fv iv wr => ∃ (a : Option Addr) (cc : Nat) (ps : List PcA) (f i : Nat), pv = .slice a ps.length cc ∧ fv = .int .i64 f ∧ iv = .int .i64 i ∧ f ≤ i ∧ i ≤ L.length ∧ ps.length ≤ i ∧ Hid (CutSt L (ps.map (·.bs)) f i) ∧ PcAt w B L wr a cc ps) (fun _ _ i _ => L.length - (intOf i).toNat)
  case atStart => exact ⟨_, 0, [], 0, 0, rfl, rfl, rfl, Nat.le_refl _, Nat.zero_le _, Nat.le_refl _, CutSt.zero L, hWo.out, (fun p hp => by cases hp), hWb⟩
  case round =>
    obtain ⟨a, cc, ps, f, i, rfl, rfl, rfl, hfi, hi, hpi, hst, hat⟩ := hrel
    clear hWo hWb
    by_cases hlt : i < L.length
    · have c0 := HBT.out wr hat.bl i hlt
      have hz := HBY.out i
      have HGO : Hid (stopB (L.getD i 0) = false → CutSt L (ps.map (·.bs)) f (i + 1)) := fun h => hst.out.go h
      have HCUT : Hid (stopB (L.getD i 0) = true → CutSt L (ps.map (·.bs) ++ [(L.drop f).take (i - f)]) i (i + 1)) := fun h => .inr ⟨hst.out.cut (by omega) (fun _ => h), by omega, fun t h1 h2 => by omega⟩
      generalize L.getD i 0 = z at *
      have hs := stop_index z hz
      have CI := HIX.out z wr
      generalize Lib.indexByte (ByteArray.mk #[46, 91]).data.toList z.toNat.toUInt8 = d at *
      rcases hs with ⟨hs, hd⟩ | ⟨hs, hd⟩
      · have HN := HCUT.out hs
        obtain ⟨n, hn⟩ : ∃ n, i = f + n := ⟨i - f, by omega⟩
        have hn0 : n = 0 → f = 0 := fun h => by
          rcases hst.out with ⟨_, h1, _⟩ | ⟨_, h1, _⟩ <;> omega
        have hSL := run_slice3 B f n i L.length c hn (by omega) hn0
        have hlen : ((L.drop f).take n).length = n := by rw [List.length_take, List.length_drop]; omega
        have HZ : Hid ((⟨(L.drop f).take n, f, n⟩ : PcA).off = f ∧ (⟨(L.drop f).take n, f, n⟩ : PcA).bs = (L.drop f).take n) := ⟨rfl, rfl⟩
        have HZC : Hid (Value.slice (some ⟨B, f, none⟩) n n = PcA.cell B ⟨(L.drop f).take n, f, n⟩) := by unfold PcA.cell; simp only [Hid]; rw [hlen]
        have HZN : Hid (∀ qs, qs = ps ++ [(⟨(L.drop f).take n, f, n⟩ : PcA)] → CutSt L (qs.map (·.bs)) i (i + 1)) := fun qs hq => by
          rw [hq, List.map_append]
          have := HN
          rw [show i - f = n from by omega] at this
          exact this
        generalize (⟨(L.drop f).take n, f, n⟩ : PcA) = z3 at *
        clear HGO HCUT hst hs HBT HBY HIX HN hn hlen
        have hpl : ps.length ≤ 1099511627776 := by omega
        obtain ⟨V, hV, bz, hbV, hsV⟩ := boxes1 wr [.slice (some ⟨B, f, none⟩) n n] 51
        have z0 := bz.cell 0 _ rfl
        have hoV := hat.own.below hbV
        have hloV : w.heap.size ≤ V.heap.size := Nat.le_trans hat.bl.size hbV.size
        clear bz hsV
        go_wp2_with fail
        refine CI.mono ?_
        rintro e w1 ⟨rfl, rfl⟩
        clear CI c0
        go_wp2_with (at_builtin; rw [hV.out]; refine append_pc1 (B := B) rfl (.tmp 18) (.tmp 24) rfl w.heap.size a cc ps rfl hoV w1.heap.size 1 z3 rfl (by rw [← HZC.out]; exact z0) hpl hloV ?_)
        intro a2 c2 qs w4 hq ho4 hg4
        have hq4 : qs.length = ps.length + 1 := by rw [hq.out]; simp
        have hat4 := hat.next HZ.out hbV hg4 hq.out ho4
        have HN4 : Hid (CutSt L (qs.map (·.bs)) i (i + 1)) := HZN.out qs hq.out
        clear hoV hbV hg4 ho4 HZ HZC HZN hq hat hV z0 hSL
        go_wp2
        go_roundw
        case rel => exact ⟨a2, c2, qs, i, i + 1, rfl, rfl, by go_num, by omega, by omega, by omega, HN4, hat4⟩
        case measure => simp [intOf]; omega
      · have HN := HGO.out hs
        clear HGO HCUT hst hs HBT HBY HIX
        go_wp2_with fail
        refine CI.mono ?_
        rintro e w1 ⟨rfl, rfl⟩
        clear CI c0
        go_wp2
        go_roundw
        case rel => exact ⟨a, cc, ps, f, i + 1, rfl, rfl, by go_num, by omega, by omega, by omega, HN, hat⟩
        case measure => simp [intOf]; omega
    · obtain rfl : i = L.length := by omega
      obtain ⟨n, hn⟩ : ∃ n, L.length = f + n := ⟨L.length - f, by omega⟩
      have hn0 : n = 0 → f = 0 := fun h => by
        rcases hst.out with ⟨_, h1, _⟩ | ⟨_, h1, _⟩ <;> omega
      have hSL := run_slice3 B f n L.length L.length c hn (by omega) hn0
      have hlen : ((L.drop f).take n).length = n := by rw [List.length_take, List.length_drop]; omega
      have HZ : Hid ((⟨(L.drop f).take n, f, n⟩ : PcA).off = f ∧ (⟨(L.drop f).take n, f, n⟩ : PcA).bs = (L.drop f).take n) := ⟨rfl, rfl⟩
      have HZC : Hid (Value.slice (some ⟨B, f, none⟩) n n = PcA.cell B ⟨(L.drop f).take n, f, n⟩) := by unfold PcA.cell; simp only [Hid]; rw [hlen]
      have HZN : Hid (∀ qs, qs = ps ++ [(⟨(L.drop f).take n, f, n⟩ : PcA)] → CutTo L (qs.map (·.bs)) L.length) := fun qs hq => by
        rw [hq, List.map_append]
        have := hst.out.cut (Nat.le_refl _) (fun h => by omega)
        rw [show L.length - f = n from by omega] at this
        exact this
      generalize (⟨(L.drop f).take n, f, n⟩ : PcA) = z3 at *
      clear hst HBT HBY HIX hn hlen
      have hpl : ps.length ≤ 1099511627776 := by omega
      obtain ⟨V, hV, bz, hbV, hsV⟩ := boxes1 wr [.slice (some ⟨B, f, none⟩) n n] 51
      have z0 := bz.cell 0 _ rfl
      have hoV := hat.own.below hbV
      have hloV : w.heap.size ≤ V.heap.size := Nat.le_trans hat.bl.size hbV.size
      clear bz hsV
      go_wp2_with (at_builtin; rw [hV.out]; refine append_pc1 (B := B) rfl (.tmp 28) (.tmp 36) rfl w.heap.size a cc ps rfl hoV wr.heap.size 1 z3 rfl (by rw [← HZC.out]; exact z0) hpl hloV ?_)
      intro a2 c2 qs w4 hq ho4 hg4
      have hat4 := hat.next HZ.out hbV hg4 hq.out ho4
      have HN4 : Hid (CutTo L (qs.map (·.bs)) L.length) := HZN.out qs hq.out
      clear hoV hbV hg4 ho4 HZ HZC HZN hq hat hV z0 hSL
      go_wp2
      go_ret
      exact ⟨a2, c2, qs, rfl, hat4, HN4⟩
end Go.Proofs.YtajcffchopcamaaDoor
