/- Several texts in one, in their order. -/
import Derived.Test.YtajcffchopcamaaGreatDoorPFnPathsx27
import Derived.Test.YtajcffchopcamaaGreatDoorPFnPathsx8
import Derived.Lib.ItoaNum
import Derived.Lib.Join
import Derived.Test.YtajcffchopcamaaGreatDoorPFnPathsx19
import Derived.Lib.AtoiTie
import Derived.Lib.Strings
import Derived.LaidLaws
import Derived.LaidHandle
import Derived.Lib.LaidTab
/- A text is one path's alone. -/
namespace Go.Proofs.YtajcffchopcamaaGreatDoor

theorem pathIn_all {L : List Int} {x : Int} {T : List StepV} (h : IsPath L x T) : ∀ k, k ≤ T.length → PathIn L x (T.take k) true (pathTo x T k).length := by
  obtain ⟨hB, rfl⟩ := h
  intro k
  induction k with
  | zero =>
    intro _
    have := pathIn_start (endAt_head x T)
    have hx := pathB_from hB
    rw [head_piece, text_number x (by omega)] at this
    exact this
  | succ k ih =>
    intro hk
    have hl : (pathTo x T k).length < (pathTo x T T.length).length := by
      obtain ⟨c, R, e, -, -⟩ := stepText_parts (T.getD k zeroPh)
      rw [pathTo_rest x T k, drop_getPh T hk, List.flatMap_cons, e]
      simp
    have := pathIn_step (ih (by omega)) hl (endAt_step x T hk)
    rw [step_piece x T hk, piece_text ((pathB_info hB).2.2 k hk)] at this
    have e : T.take (k + 1) = T.take k ++ [T.getD k zeroPh] := by rw [List.take_add_one]; simp [List.getD, show k < T.length from hk]
    rw [e]
    exact this

theorem isPath_one {L : List Int} {x y : Int} {T U : List StepV} (h : IsPath L x T) (g : IsPath L y U) : y = x ∧ U = T := by
  have := pathIn_end (pathIn_all h T.length (Nat.le_refl _)) (by rw [h.2]; exact Nat.le_refl _) y U g
  rw [List.take_length] at this
  exact this
end Go.Proofs.YtajcffchopcamaaGreatDoor

/- Plain mathematics: the texts of numbers as the library says them. -/
namespace Go.Proofs.YtajcffchopcamaaGreatDoor
open Go.RowKit

def b8 (z : Int) : UInt8 := UInt8.ofNat z.toNat
theorem strOf_b8 (l : List Int) : strOf l = ⟨(l.map b8).toArray⟩ := rfl

theorem dec_lib (n : Nat) : (decOf n).map b8 = Lib.decDigits n := by
  induction n using Nat.strongRecOn with
  | _ n ih =>
    by_cases h : n < 10
    · rw [decOf_small n h, Lib.decDigits, dif_pos h]
      show [UInt8.ofNat (((48 + n : Nat) : Int)).toNat] = _
      rw [Int.toNat_natCast]
    · rw [decOf_big n h, Lib.decDigits, dif_neg h, List.map_append, ih (n / 10) (by omega)]
      congr 1
theorem num_lib (z : Int) : (numText z).map b8 = Lib.itoa z := by
  unfold numText Lib.itoa
  split
  · rw [List.map_cons, dec_lib, show (-z).toNat = z.natAbs from by omega]; rfl
  · exact dec_lib _
theorem itoa_str (z : Int) : (⟨(Lib.itoa z).toArray⟩ : ByteArray) = strOf (numText z) := by rw [strOf_b8, num_lib]

end Go.Proofs.YtajcffchopcamaaGreatDoor

/- Plain mathematics: a number as strconv reads it; bytes of texts. -/
namespace Go.Proofs.YtajcffchopcamaaGreatDoor
open Go.RowKit

def plainSign (z : Int) : Prop := z = 45 ∨ (48 ≤ z ∧ z ≤ 57)
theorem numText_sign (n : Int) : ∀ z ∈ numText n, plainSign z := by
  intro z hz
  unfold numText at hz
  split at hz
  · rcases List.mem_cons.1 hz with rfl | h
    · exact .inl rfl
    · exact .inr (isDig_bd (decOf_dig _ z h))
  · exact .inr (isDig_bd (decOf_dig _ z hz))
theorem decFrom_app : ∀ (l r : List UInt8) (acc : Nat), Lib.decFrom acc (l ++ r) = (Lib.decFrom acc l).bind (fun a => Lib.decFrom a r) := by
  intro l
  induction l with
  | nil => intro r acc; rfl
  | cons b t ih =>
    intro r acc
    rw [List.cons_append, Lib.decFrom, Lib.decFrom]
    cases Lib.digitVal b with
    | none => rfl
    | some d => exact ih r _
theorem digitVal_dig (d : Nat) (h : d < 10) : Lib.digitVal (UInt8.ofNat (48 + d)) = some d := by
  have e : (UInt8.ofNat (48 + d)).toNat = 48 + d := by simp; omega
  unfold Lib.digitVal
  rw [e, if_pos (by omega)]
  congr 1
  omega
theorem decFrom_dec (n : Nat) : Lib.decFrom 0 (Lib.decDigits n) = some n := by
  induction n using Nat.strongRecOn with
  | _ n ih =>
    rw [Lib.decDigits]
    by_cases h : n < 10
    · rw [dif_pos h]
      simp only [Lib.decFrom, digitVal_dig n h]
      congr 1
      omega
    · rw [dif_neg h, decFrom_app, ih (n / 10) (by omega)]
      simp only [Option.bind_some, Lib.decFrom, digitVal_dig (n % 10) (by omega)]
      congr 1
      omega
theorem dec_head (n : Nat) : ∃ c r, Lib.decDigits n = c :: r ∧ 48 ≤ c.toNat := by
  rw [← dec_lib]
  cases hd : decOf n with
  | nil => have := decOf_pos n; rw [hd] at this; simp at this
  | cons z r =>
    refine ⟨b8 z, r.map b8, rfl, ?_⟩
    have := isDig_bd (decOf_dig n z (by rw [hd]; simp))
    unfold b8
    simp
    omega
theorem atoi_itoa (z : Int) : Lib.atoi (Lib.itoa z) = some z := by
  unfold Lib.itoa
  split
  · obtain ⟨c, r, hc, _⟩ := dec_head z.natAbs
    have hd := decFrom_dec z.natAbs
    simp only [Lib.atoi, beq_self_eq_true, if_true, Lib.decNat]
    rw [hc] at hd ⊢
    simp only [List.isEmpty_cons, Bool.false_eq_true, if_false, hd, Option.map_some, Option.some.injEq]
    omega
  · obtain ⟨c, r, hc, h48⟩ := dec_head z.toNat
    have hd := decFrom_dec z.toNat
    rw [hc] at hd ⊢
    have h1 : (c == 45) = false := by
      rw [beq_eq_false_iff_ne]; intro e; rw [e] at h48; simp at h48
    have h2 : (c == 43) = false := by
      rw [beq_eq_false_iff_ne]; intro e; rw [e] at h48; simp at h48
    simp only [Lib.atoi, h1, h2, Bool.false_eq_true, if_false, Lib.decNat, List.isEmpty_cons, hd, Option.map_some, Option.some.injEq]
    omega
/-- What parseNumber takes a text for. -/
def pNum (L : List Int) : Option Int := match Lib.atoiAll (L.map b8) with
  | .ok v => if numText v = L then some v else none
  | _ => none
theorem pNum_sound (L : List Int) (z : Int) (h : pNum L = some z) : numText z = L := by
  unfold pNum at h
  split at h
  · split at h
    · simp only [Option.some.injEq] at h
      subst h; assumption
    · cases h
  · cases h
theorem pNum_back (z : Int) (h : -1000000000 ≤ z ∧ z ≤ 1000000000) : pNum (numText z) = some z := by
  have hl : (Lib.itoa z).length ≤ 18 := by
    rw [← num_lib, List.length_map]
    have := num_len z h
    omega
  unfold pNum
  rw [num_lib, Lib.atoiAll_short _ hl, atoi_itoa]
  simp [Lib.NumEnd.ofOption]

def toI (b : UInt8) : Int := (b.toNat : Int)
theorem sBytes_toI (s : ByteArray) : sBytes s = s.data.toList.map toI := rfl
theorem sBytes_mk (l : List UInt8) : sBytes ⟨l.toArray⟩ = l.map toI := rfl
theorem b8_toI (l : List UInt8) : (l.map toI).map b8 = l := by
  rw [List.map_map]
  have : (b8 ∘ toI) = id := by
    funext b
    simp [b8, toI]
  rw [this]; simp

end Go.Proofs.YtajcffchopcamaaGreatDoor

/- Plain mathematics of a path's text cut ahead of each step, and of what its pieces say. -/
namespace Go.Proofs.YtajcffchopcamaaGreatDoor

/-- ps are the pieces of L up to the place i, which is where a step begins, or the end. -/
inductive CutTo (L : List Int) : List (List Int) → Nat → Prop
  | head {j : Nat} : EndAt L 0 j → CutTo L [L.take j] j
  | step {ps : List (List Int)} {i j : Nat} : CutTo L ps i → i < L.length → EndAt L (i + 1) j → CutTo L (ps ++ [(L.drop i).take (j - i)]) j

theorem CutTo.flat {L : List Int} {ps : List (List Int)} {i : Nat} (h : CutTo L ps i) : ps.flatten = L.take i := by
  induction h with
  | head h => simp
  | @step ps i j h hi hj ih =>
    rw [List.flatten_append, ih]
    have hij : i ≤ j := by have := hj.1; omega
    simp only [List.flatten_cons, List.flatten_nil, List.append_nil]
    rw [← List.take_add, Nat.add_sub_cancel' hij]
theorem CutTo.pos {L : List Int} {ps : List (List Int)} {i : Nat} (h : CutTo L ps i) : 0 < ps.length := by
  cases h <;> simp

/-- The pieces of a path's text are the texts of its number and of its steps. -/
theorem CutTo.path {L : List Int} {ps : List (List Int)} {i : Nat} (h : CutTo L ps i) {y : Int} {U : List StepV} (hP : IsPath L y U) :
    ps.length ≤ U.length + 1 ∧ ps = (numText y :: U.map stepText).take ps.length ∧ i = (pathTo y U (ps.length - 1)).length := by
  obtain ⟨hB, rfl⟩ := hP
  induction h with
  | head h =>
    obtain rfl := endAt_one (endAt_head y U) h
    rw [head_piece]
    exact ⟨by simp, by simp, rfl⟩
  | @step ps i j h hi hj ih =>
    obtain ⟨h1, h2, rfl⟩ := ih
    have hp := h.pos
    have hlt : ps.length - 1 < U.length := by
      rcases Nat.lt_or_ge (ps.length - 1) U.length with g | g
      · exact g
      · rw [show ps.length - 1 = U.length from by omega] at hi
        exact absurd hi (Nat.lt_irrefl _)
    obtain rfl := endAt_one (endAt_step y U hlt) hj
    rw [step_piece y U hlt]
    refine ⟨by simp; omega, ?_, by simp [show ps.length - 1 + 1 = ps.length from by omega]⟩
    obtain ⟨n, hn⟩ : ∃ n, ps.length = n + 1 := ⟨ps.length - 1, by omega⟩
    rw [hn] at h2 hlt ⊢
    simp only [Nat.add_sub_cancel] at hlt ⊢
    rw [List.length_append, hn, List.length_cons, List.length_nil, Nat.zero_add, List.take_add_one (i := n + 1)]
    rw [← h2]
    simp [List.getD, hlt]
theorem CutTo.whole {L : List Int} {ps : List (List Int)} (h : CutTo L ps L.length) {y : Int} {U : List StepV} (hP : IsPath L y U) : ps = numText y :: U.map stepText := by
  obtain ⟨h1, h2, h3⟩ := h.path hP
  have hp := h.pos
  have e : ps.length - 1 = U.length := by
    rcases Nat.lt_or_ge (ps.length - 1) U.length with g | g
    · exfalso
      obtain ⟨c, R, e, -, -⟩ := stepText_parts (U.getD (ps.length - 1) zeroPh)
      have h4 := pathTo_rest y U (ps.length - 1)
      rw [drop_getPh U g, List.flatMap_cons, e, hP.2] at h4
      have := congrArg List.length h4
      simp at this
      omega
    · omega
  rw [h2, List.take_of_length_le (by simp; omega)]

/-- What the program says of a piece: whether it is a step's text, and of which step. -/
def StepAns (L : List Int) (s : StepV) (ok : Bool) : Prop := (ok = true → L = stepText s) ∧ ∀ t, stepB t = true → L = stepText t → ok = true ∧ t = s

theorem stepB_small {s : StepV} (h : stepB s = true) : (-1000000 ≤ s.num ∧ s.num ≤ 1000000) ∧ ((s.kd = 2 ∨ s.kd = 3) → s.num = 0) := by
  unfold stepB at h
  repeat' split at h
  all_goals simp [inB] at h
  all_goals omega

/-- The pieces that were read are those of a path, or of none. -/
theorem pieces_yes {L : List Int} {ps : List (List Int)} (h : CutTo L ps L.length) {x : Int} {T : List StepV} (hB : pathB x T = true) (he : ps = numText x :: T.map stepText) : IsPath L x T := by
  refine ⟨hB, ?_⟩
  have := h.flat
  rw [List.take_length, he] at this
  rw [← this]
  simp [pathTo, List.flatMap]

/-- The prefix and the suffix of a piece cut off. -/
theorem trim_parts (s p q : List UInt8) (hb : Lib.hasPrefix s p = true) (he : Lib.hasSuffix (Lib.trimPrefix s p) q = true) : s = p ++ (Lib.trimSuffix (Lib.trimPrefix s p) q ++ q) := by
  have e1 : s = p ++ Lib.trimPrefix s p := by
    unfold Lib.trimPrefix
    rw [if_pos hb]
    unfold Lib.hasPrefix at hb
    obtain ⟨r, rfl⟩ := List.isPrefixOf_iff_prefix.1 hb
    simp
  generalize Lib.trimPrefix s p = t at *
  have e2 : t = Lib.trimSuffix t q ++ q := by
    unfold Lib.trimSuffix
    rw [if_pos he]
    unfold Lib.hasSuffix at he
    obtain ⟨r, rfl⟩ := List.isSuffixOf_iff_suffix.1 he
    simp
  rw [← e2]
  exact e1
theorem trim_back (p m q : List UInt8) : Lib.hasPrefix (p ++ (m ++ q)) p = true ∧ Lib.hasSuffix (Lib.trimPrefix (p ++ (m ++ q)) p) q = true ∧ Lib.trimSuffix (Lib.trimPrefix (p ++ (m ++ q)) p) q = m := by
  have h1 : Lib.hasPrefix (p ++ (m ++ q)) p = true := by unfold Lib.hasPrefix; exact List.isPrefixOf_iff_prefix.2 ⟨_, rfl⟩
  have h2 : Lib.trimPrefix (p ++ (m ++ q)) p = m ++ q := by unfold Lib.trimPrefix; rw [if_pos h1]; simp
  have h3 : Lib.hasSuffix (m ++ q) q = true := by unfold Lib.hasSuffix; exact List.isSuffixOf_iff_suffix.2 ⟨_, rfl⟩
  rw [h2]
  refine ⟨h1, h3, ?_⟩
  unfold Lib.trimSuffix
  rw [if_pos h3]
  simp

/-- What parseN says of a text: its number, and whether it is this text. -/
def NumAns (L A B : List Int) (n : Int) (ok : Bool) : Prop := (ok = true → L = A ++ numText n ++ B) ∧ ∀ m, -1000000 ≤ m → m ≤ 1000000 → L = A ++ numText m ++ B → ok = true ∧ m = n

theorem map_toI_inj {a b : List UInt8} (h : a.map toI = b.map toI) : a = b := by
  have := congrArg (List.map b8) h
  rwa [b8_toI, b8_toI] at this

theorem numAns_trim (s p q : List UInt8) : NumAns (s.map toI) (p.map toI) (q.map toI) ((pNum ((Lib.trimSuffix (Lib.trimPrefix s p) q).map toI)).getD 0) (Lib.hasPrefix s p && (Lib.hasSuffix (Lib.trimPrefix s p) q && (pNum ((Lib.trimSuffix (Lib.trimPrefix s p) q).map toI)).isSome)) := by
  refine ⟨fun h => ?_, fun m h1 h2 h => ?_⟩
  · simp only [Bool.and_eq_true] at h
    obtain ⟨hb, he, hn⟩ := h
    obtain ⟨z, hz⟩ := Option.isSome_iff_exists.1 hn
    rw [hz, Option.getD_some, pNum_sound _ _ hz]
    conv => lhs; rw [trim_parts s p q hb he]
    simp
  · have hm : numText m = ((numText m).map b8).map toI := by
      have hb : ∀ z ∈ numText m, 0 ≤ z ∧ z < 256 := by
        intro z hz
        rcases numText_sign m z hz with rfl | h
        · decide
        · omega
      rw [List.map_map]
      conv => lhs; rw [← List.map_id (numText m)]
      apply List.map_congr_left
      intro z hz
      have := hb z hz
      simp [toI, b8]
      omega
    have e : s = p ++ ((numText m).map b8 ++ q) := by
      apply map_toI_inj
      rw [h]
      conv => lhs; rw [hm]
      simp
    obtain ⟨t1, t2, t3⟩ := trim_back p ((numText m).map b8) q
    rw [← e] at t1 t2 t3
    rw [t1, t2, t3, ← hm, pNum_back m (by omega)]
    exact ⟨rfl, rfl⟩
end Go.Proofs.YtajcffchopcamaaGreatDoor

/- What a row's condition on its listed variables gives: each of them reads as its datum. -/
namespace Go.Proofs.YtajcffchopcamaaGreatDoor

theorem laidVars_mem {P : Program} {w : World} : ∀ (l : List (String × DataW Unit)) (ps : List MemPlace), DataW.LaidVars P w l ps → ∀ n d, (n, d) ∈ l →
    ∃ g t cs fuel p, P.globalNamed n = some g ∧ (P.globals[g]?).map (·.type) = some t ∧ w.var? P n = some cs ∧ DataW.trod (fun _ => ()) P w 0 (fun _ => true) false fuel t cs.toList = some (d, p) := by
  intro l
  induction l with
  | nil => intro _ _ n d hm; cases hm
  | cons x r ih =>
    intro ps h n d hm
    obtain ⟨n', d'⟩ := x
    obtain ⟨g, t, cs, fuel, p, q, h1, h2, h3, h4, h5, _⟩ := h
    rcases List.mem_cons.1 hm with e | hm'
    · cases e
      exact ⟨g, t, cs, fuel, p, h1, h2, h3, h4⟩
    · exact ih q h5 n d hm'

theorem var_heap {P : Program} {w : World} {name : String} {g : Nat} {cs : Array Value} (hg : P.globalNamed name = some g) (h : w.var? P name = some cs) : ∃ t f, w.heap[g]? = some (.cells cs t f) := by
  unfold World.var? at h
  rw [hg] at h
  simp only [Option.bind_some] at h
  split at h
  · rename_i cs' t f hh
    simp only [Option.some.injEq] at h
    exact ⟨t, f, by rw [hh, h]⟩
  · cases h

/-- A table of integers that is listed lies in its block. -/
theorem tab_heap {P : Program} {w : World} {laid : List (String × DataW Unit)} {name : String} {k : IntKind} {zs : List Int} {g : Nat} {t e : TypeId} {n : Nat} (hl : laidMet P laid w) (hm : (name, Lib.tabData k zs) ∈ laid)
    (hg : P.globalNamed name = some g) (hty : (P.globals[g]?).map (·.type) = some t) (ht : P.underlying t = some (.array n e)) (he : P.underlying e = some (.int k)) (hce : P.cellsOf e = 1) (hct : P.cellsOf t = n) :
    ∃ t' f, w.heap[g]? = some (.cells (zs.map fun z => Value.int k z).toArray t' f) := by
  obtain ⟨ps, hv, _⟩ := hl
  obtain ⟨g', t', cs, fuel, p, h1, h2, h3, h4⟩ := laidVars_mem laid ps hv name _ hm
  obtain rfl := Option.some.inj (hg.symm.trans h1)
  obtain rfl := Option.some.inj (hty.symm.trans h2)
  have hc := Lib.cells_of_tab ht he hce hct h4
  obtain ⟨t', f, hh⟩ := var_heap hg h3
  refine ⟨t', f, ?_⟩
  rw [hh]
  congr 2
  apply Array.toList_inj.1
  rw [hc]

theorem tabIs_of {P : Program} {w : World} {name : String} {g : Nat} {k : IntKind} {zs : List Int} {t : TypeId} {f : Nat × Nat} (hg : P.globalNamed name = some g) (h : w.heap[g]? = some (.cells (zs.map fun z => Value.int k z).toArray t f)) : Lib.TabIs P w name k zs := by
  unfold Lib.TabIs World.var?
  rw [hg]
  simp [h]
end Go.Proofs.YtajcffchopcamaaGreatDoor
