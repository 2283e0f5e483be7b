/- Several texts in one, in their order. -/
import Derived.Test.YtajcffchopcamaaGreatDoorPEvalx16
import Derived.MapKept
import Derived.Maps.Own
/- Marks by a stack of few places: the state, its steps, that they come to an end, and that what is marked is what is reached. -/
namespace Go.Proofs.YtajcffchopcamaaGreatDoor

def unseenM (S : List Bool) : Nat := S.count false
theorem unseenM_set : ∀ (S : List Bool) (n : Nat), n < S.length → S.getD n false = false → unseenM (S.set n true) + 1 = unseenM S := by
  intro S
  induction S with
  | nil => intro n h; simp at h
  | cons a r ih =>
    intro n h h0
    cases n with
    | zero =>
      have e : a = false := by simpa using h0
      subst e
      simp [unseenM]
    | succ n =>
      have h1 := ih n (by simpa using h) (by simpa using h0)
      simp only [unseenM, List.set_cons_succ, List.count_cons] at h1 ⊢
      omega
theorem unseenM_le (S : List Bool) : unseenM S ≤ S.length := List.count_le_length

structure MSt where
  met : List Bool
  stack : List Int
  left : Bool
  anew : Int

def hasM (vs : List SlotV) (r : Int) : Bool := (vs.getD r.toNat noS).has
def refsM (vs : List SlotV) (i : Int) : List Int := (vs.getD i.toNat noS).o.refs
def metM (S : List Bool) (r : Int) : Bool := S.getD r.toNat false
def missM (vs : List SlotV) (S : List Bool) (r : Int) : Bool := hasM vs r && !metM S r
def lackM (vs : List SlotV) (S : List Bool) (i : Int) : Bool := (refsM vs i).any (missM vs S)
def putM (most : Nat) (st : MSt) (x : Int) : MSt := if st.stack.length < most then ⟨st.met, st.stack ++ [x], st.left, st.anew⟩ else ⟨st.met, st.stack, true, st.anew⟩
def markM (most : Nat) (st : MSt) (x : Int) : MSt := putM most ⟨st.met.set x.toNat true, st.stack, st.left, st.anew⟩ x
def refM (vs : List SlotV) (most : Nat) (st : MSt) (r : Int) : MSt := if missM vs st.met r = true then markM most st r else st
def topM (st : MSt) : Int := st.stack.getLastD 0
def cutM (st : MSt) : MSt := ⟨st.met, st.stack.dropLast, st.left, st.anew⟩
def popM (vs : List SlotV) (most : Nat) (st : MSt) : MSt := (refsM vs (topM st)).foldl (refM vs most) (cutM st)
def drainM (vs : List SlotV) (most : Nat) : Nat → MSt → MSt
  | 0, st => st
  | n + 1, st => if st.stack = [] then st else drainM vs most n (popM vs most st)
def lookM (vs : List SlotV) (most : Nat) (st : MSt) (i : Nat) : MSt := if (metM st.met i && lackM vs st.met i) = true then putM most st i else st
def clearM (st : MSt) : MSt := ⟨st.met, st.stack, false, st.anew + 1⟩
def anewM (vs : List SlotV) (most : Nat) (st : MSt) : MSt := (List.range 32).foldl (lookM vs most) (clearM st)
def loopM (vs : List SlotV) (most : Nat) : Nat → MSt → MSt
  | 0, st => st
  | n + 1, st => if st.left = true then loopM vs most n (drainM vs most 72 (anewM vs most st)) else st
def emptyM : MSt := ⟨List.replicate 32 false, [], false, 0⟩
def firstM (vs : List SlotV) (most : Nat) (root : Int) : MSt := drainM vs most 72 (refM vs most emptyM root)
def runM (vs : List SlotV) (most : Nat) (root : Int) : MSt := loopM vs most 65 (firstM vs most root)

structure GoodM (most : Nat) (st : MSt) : Prop where
  len : st.met.length = 32
  room : st.stack.length ≤ most
  rng : ∀ x ∈ st.stack, 0 ≤ x ∧ x ≤ 31
def sizeM (st : MSt) : Nat := unseenM st.met + st.stack.length
def RngM (vs : List SlotV) : Prop := ∀ i, ∀ r ∈ refsM vs i, 0 ≤ r ∧ r ≤ 31
theorem GoodM.size {most : Nat} {st : MSt} (h : GoodM most st) (hm : most ≤ 40) : sizeM st ≤ 72 := by
  have := unseenM_le st.met
  have := h.len
  have := h.room
  unfold sizeM
  omega

theorem putM_met (most : Nat) (st : MSt) (x : Int) : (putM most st x).met = st.met := by unfold putM; split <;> rfl
theorem putM_anew (most : Nat) (st : MSt) (x : Int) : (putM most st x).anew = st.anew := by unfold putM; split <;> rfl
theorem putM_good {most : Nat} {st : MSt} (h : GoodM most st) {x : Int} (hx : 0 ≤ x ∧ x ≤ 31) : GoodM most (putM most st x) := by
  unfold putM
  split
  · rename_i hlt
    refine ⟨h.len, by simp; omega, fun y hy => ?_⟩
    rcases List.mem_append.1 hy with hy | hy
    · exact h.rng y hy
    · obtain rfl := List.mem_singleton.1 hy; exact hx
  · exact ⟨h.len, h.room, h.rng⟩
theorem putM_size (most : Nat) (st : MSt) (x : Int) : sizeM (putM most st x) ≤ sizeM st + 1 := by
  unfold putM sizeM
  split
  · simp; omega
  · simp
theorem missM_set {vs : List SlotV} {S : List Bool} {r : Int} (h : missM vs S r = true) : S.getD r.toNat false = false := by
  unfold missM metM at h
  simp only [Bool.and_eq_true, Bool.not_eq_true'] at h
  exact h.2
theorem refM_good {vs : List SlotV} {most : Nat} {st : MSt} (h : GoodM most st) {r : Int} (hr : 0 ≤ r ∧ r ≤ 31) : GoodM most (refM vs most st r) := by
  unfold refM
  split
  · refine putM_good (st := ⟨st.met.set r.toNat true, st.stack, st.left, st.anew⟩) ⟨?_, h.room, h.rng⟩ hr
    simp [h.len]
  · exact h
theorem refM_size {vs : List SlotV} {most : Nat} {st : MSt} (h : GoodM most st) {r : Int} (hr : 0 ≤ r ∧ r ≤ 31) : sizeM (refM vs most st r) ≤ sizeM st ∧ unseenM (refM vs most st r).met ≤ unseenM st.met ∧ (missM vs st.met r = true → unseenM (refM vs most st r).met < unseenM st.met) := by
  unfold refM
  split
  · rename_i hm
    have hs := unseenM_set st.met r.toNat (by rw [h.len]; omega) (missM_set hm)
    have hp := putM_size most ⟨st.met.set r.toNat true, st.stack, st.left, st.anew⟩ r
    unfold markM
    rw [putM_met]
    refine ⟨?_, by simp only; omega, fun _ => by simp only; omega⟩
    unfold sizeM at hp ⊢
    simp only at hp
    omega
  · rename_i hm
    exact ⟨Nat.le_refl _, Nat.le_refl _, fun h => absurd h hm⟩
theorem foldM_good {vs : List SlotV} {most : Nat} : ∀ (F : List Int) (st : MSt), GoodM most st → (∀ r ∈ F, 0 ≤ r ∧ r ≤ 31) → GoodM most (F.foldl (refM vs most) st) ∧ sizeM (F.foldl (refM vs most) st) ≤ sizeM st ∧ unseenM (F.foldl (refM vs most) st).met ≤ unseenM st.met ∧ (F.any (missM vs st.met) = true → unseenM (F.foldl (refM vs most) st).met < unseenM st.met) := by
  intro F
  induction F with
  | nil => intro st h _; exact ⟨h, Nat.le_refl _, Nat.le_refl _, fun h => by simp at h⟩
  | cons r F ih =>
    intro st h hr
    have h1 := refM_good (vs := vs) h (hr r (by simp))
    obtain ⟨h2, h3, h4⟩ := refM_size (vs := vs) h (hr r (by simp))
    obtain ⟨g, s, u, a⟩ := ih (refM vs most st r) h1 (fun x hx => hr x (by simp [hx]))
    refine ⟨g, Nat.le_trans s h2, Nat.le_trans u h3, fun hany => ?_⟩
    simp only [List.foldl_cons]
    by_cases hm : missM vs st.met r = true
    · exact Nat.lt_of_le_of_lt u (h4 hm)
    · have e : refM vs most st r = st := by unfold refM; rw [if_neg hm]
      rw [e] at a ⊢
      refine a ?_
      rw [List.any_cons] at hany
      simpa [hm] using hany
theorem topM_app (S : List Bool) (T : List Int) (x : Int) (l : Bool) (n : Int) : topM ⟨S, T ++ [x], l, n⟩ = x := by simp [topM]
theorem cutM_app (S : List Bool) (T : List Int) (x : Int) (l : Bool) (n : Int) : cutM ⟨S, T ++ [x], l, n⟩ = ⟨S, T, l, n⟩ := by simp [cutM]
theorem topM_mem {st : MSt} (h : st.stack ≠ []) : topM st ∈ st.stack := by
  unfold topM
  rw [List.getLastD_eq_getLast?, List.getLast?_eq_some_getLast h]
  exact List.getLast_mem h
theorem cutM_good {most : Nat} {st : MSt} (h : GoodM most st) : GoodM most (cutM st) := ⟨h.len, by have := h.room; simp [cutM]; omega, fun x hx => h.rng x (List.dropLast_subset _ hx)⟩
theorem cutM_size {st : MSt} (h : st.stack ≠ []) : sizeM (cutM st) + 1 = sizeM st := by
  have := List.length_pos_iff.2 h
  simp [sizeM, cutM]
  omega
theorem popM_good {vs : List SlotV} (hv : RngM vs) {most : Nat} {st : MSt} (h : GoodM most st) (hne : st.stack ≠ []) : GoodM most (popM vs most st) ∧ sizeM (popM vs most st) + 1 ≤ sizeM st ∧ unseenM (popM vs most st).met ≤ unseenM st.met ∧ (lackM vs st.met (topM st) = true → unseenM (popM vs most st).met < unseenM st.met) := by
  obtain ⟨g, s, u, a⟩ := foldM_good (vs := vs) (refsM vs (topM st)) (cutM st) (cutM_good h) (hv _)
  have := cutM_size hne
  exact ⟨g, by unfold popM; omega, u, a⟩
theorem drainM_good {vs : List SlotV} (hv : RngM vs) {most : Nat} : ∀ (n : Nat) (st : MSt), GoodM most st → sizeM st ≤ n → GoodM most (drainM vs most n st) ∧ (drainM vs most n st).stack = [] ∧ unseenM (drainM vs most n st).met ≤ unseenM st.met := by
  intro n
  induction n with
  | zero =>
    intro st h hs
    unfold sizeM at hs
    have e : st.stack = [] := List.length_eq_zero_iff.1 (by omega)
    exact ⟨h, e, Nat.le_refl _⟩
  | succ n ih =>
    intro st h hs
    unfold drainM
    split
    · rename_i e
      exact ⟨h, e, Nat.le_refl _⟩
    · rename_i e
      obtain ⟨g, s, u, _⟩ := popM_good hv h e
      obtain ⟨g2, e2, u2⟩ := ih _ g (by omega)
      exact ⟨g2, e2, Nat.le_trans u2 u⟩

/-- What looking through makes: marks are the same; who was put lacks something. -/
theorem lookM_fold {vs : List SlotV} {most : Nat} : ∀ (L : List Nat) (st : MSt), GoodM most st → (∀ i ∈ L, i < 32) → (L.foldl (lookM vs most) st).met = st.met ∧ (L.foldl (lookM vs most) st).anew = st.anew ∧ GoodM most (L.foldl (lookM vs most) st) := by
  intro L
  induction L with
  | nil => intro st h _; exact ⟨rfl, rfl, h⟩
  | cons i L ih =>
    intro st h hi
    have hi0 := hi i (by simp)
    have h1 : (lookM vs most st i).met = st.met ∧ (lookM vs most st i).anew = st.anew ∧ GoodM most (lookM vs most st i) := by
      unfold lookM
      split
      · exact ⟨putM_met _ _ _, putM_anew _ _ _, putM_good h (by omega)⟩
      · exact ⟨rfl, rfl, h⟩
    obtain ⟨a, b, c⟩ := ih (lookM vs most st i) h1.2.2 (fun j hj => hi j (by simp [hj]))
    exact ⟨a.trans h1.1, b.trans h1.2.1, c⟩
theorem anewM_good {vs : List SlotV} {most : Nat} {st : MSt} (h : GoodM most st) : (anewM vs most st).met = st.met ∧ (anewM vs most st).anew = st.anew + 1 ∧ GoodM most (anewM vs most st) := lookM_fold (List.range 32) (clearM st) ⟨h.len, h.room, h.rng⟩ (fun _ hi => List.mem_range.1 hi)
/-- Who stands on the stack lacks something; where somebody was left over, somebody stands there. -/
def LookI (vs : List SlotV) (st : MSt) : Prop := (∀ x ∈ st.stack, lackM vs st.met x = true) ∧ (st.left = true → st.stack ≠ [])
theorem lookM_inv {vs : List SlotV} {most : Nat} (hm : 1 ≤ most) : ∀ (L : List Nat) (st : MSt), LookI vs st → LookI vs (L.foldl (lookM vs most) st) := by
  intro L
  induction L with
  | nil => intro st h; exact h
  | cons i L ih =>
    intro st h
    refine ih _ ?_
    unfold lookM
    split
    · rename_i hl
      simp only [Bool.and_eq_true] at hl
      unfold putM
      split
      · refine ⟨fun x hx => ?_, fun _ => by simp⟩
        rcases List.mem_append.1 hx with hx | hx
        · exact h.1 x hx
        · obtain rfl := List.mem_singleton.1 hx; exact hl.2
      · rename_i hn
        exact ⟨h.1, fun _ e => by simp only at e; rw [e] at hn; simp at hn; omega⟩
    · exact h
def restM (st : MSt) : Nat := 2 * unseenM st.met + (if st.left = true then 1 else 0)
/-- Each time the view is looked through anew, less is to be done. -/
theorem loopM_less {vs : List SlotV} (hv : RngM vs) {most : Nat} (h1 : 1 ≤ most) (h40 : most ≤ 40) {st : MSt} (h : GoodM most st) (he : st.stack = []) (hl : st.left = true) : restM (drainM vs most 72 (anewM vs most st)) < restM st := by
  obtain ⟨hm, _, hg⟩ := anewM_good (vs := vs) h
  have hI : LookI vs (anewM vs most st) := lookM_inv h1 _ _ ⟨fun x hx => by simp only [clearM] at hx; rw [he] at hx; simp at hx, fun h => by simp [clearM] at h⟩
  have hs := hg.size h40
  have hst : restM st = 2 * unseenM st.met + 1 := by unfold restM; rw [if_pos hl]
  rw [hst]
  by_cases hne : (anewM vs most st).stack = []
  · have hl2 : (anewM vs most st).left = false := by
      cases hb : (anewM vs most st).left
      · rfl
      · exact absurd hne (hI.2 hb)
    have e : drainM vs most 72 (anewM vs most st) = anewM vs most st := by
      unfold drainM
      rw [if_pos hne]
    rw [e]
    unfold restM
    rw [hl2, hm]
    simp
  · have e : drainM vs most 72 (anewM vs most st) = drainM vs most 71 (popM vs most (anewM vs most st)) := by
      conv => lhs; unfold drainM
      rw [if_neg hne]
    obtain ⟨g, s, _, a⟩ := popM_good hv hg hne
    have ha := a (hI.1 _ (topM_mem hne))
    obtain ⟨_, _, u⟩ := drainM_good hv 71 _ g (by omega)
    rw [e]
    rw [hm] at ha
    unfold restM
    split <;> omega
theorem refM_anew (vs : List SlotV) (most : Nat) (st : MSt) (r : Int) : (refM vs most st r).anew = st.anew := by
  unfold refM markM
  split
  · rw [putM_anew]
  · rfl
theorem foldM_anew (vs : List SlotV) (most : Nat) : ∀ (F : List Int) (st : MSt), (F.foldl (refM vs most) st).anew = st.anew := by
  intro F
  induction F with
  | nil => intro st; rfl
  | cons r F ih => intro st; rw [List.foldl_cons, ih, refM_anew]
theorem drainM_anew (vs : List SlotV) (most : Nat) : ∀ (n : Nat) (st : MSt), (drainM vs most n st).anew = st.anew := by
  intro n
  induction n with
  | zero => intro st; rfl
  | succ n ih =>
    intro st
    unfold drainM
    split
    · rfl
    · rw [ih, popM, foldM_anew]; rfl
theorem emptyM_good (most : Nat) : GoodM most emptyM := ⟨by simp [emptyM], by simp [emptyM], fun x hx => by simp [emptyM] at hx⟩
theorem firstM_good {vs : List SlotV} (hv : RngM vs) {most : Nat} (h40 : most ≤ 40) {root : Int} (hr : 0 ≤ root ∧ root ≤ 31) : GoodM most (firstM vs most root) ∧ (firstM vs most root).stack = [] := by
  have h1 := refM_good (vs := vs) (emptyM_good most) hr
  obtain ⟨a, b, _⟩ := drainM_good hv 72 _ h1 (h1.size h40)
  exact ⟨a, b⟩
theorem restM_le {most : Nat} {st : MSt} (h : GoodM most st) : restM st ≤ 65 := by
  have h1 := unseenM_le st.met
  rw [h.len] at h1
  unfold restM
  split <;> omega
theorem viewB_slot {vs : List SlotV} (h : viewB vs = true) (i : Nat) : slotB (vs.getD i noS) = true := by
  unfold viewB at h
  simp only [Bool.and_eq_true, decide_eq_true_eq] at h
  by_cases hi : i < vs.length
  · exact List.all_eq_true.1 h.2.2 (vs.getD i noS) (by simp [List.getD, hi])
  · have e : vs.getD i noS = noS := by simp [List.getD, List.getElem?_eq_none (by omega : vs.length ≤ i)]
    rw [e]
    rfl
theorem slotB_refs {s : SlotV} (h : slotB s = true) : s.o.refs.length ≤ 5 ∧ ∀ z ∈ s.o.refs, 0 ≤ z ∧ z ≤ 31 := by
  unfold slotB at h
  split at h
  · obtain ⟨_, _, h3, _, h5⟩ := okB_bd h
    exact ⟨h3, h5⟩
  · simp only [Bool.and_eq_true, decide_eq_true_eq] at h
    rw [List.length_eq_zero_iff.1 h.2.2]
    simp
theorem viewB_rng {vs : List SlotV} (h : viewB vs = true) : RngM vs := fun i => (slotB_refs (viewB_slot h i.toNat)).2
theorem viewB_refs {vs : List SlotV} (h : viewB vs = true) (i : Int) : (refsM vs i).length ≤ 5 := (slotB_refs (viewB_slot h i.toNat)).1
theorem viewB_len32 {vs : List SlotV} (h : viewB vs = true) : vs.length = 32 := by
  unfold viewB at h
  simp only [Bool.and_eq_true, decide_eq_true_eq] at h
  exact h.1
theorem viewB_none {vs : List SlotV} (h : viewB vs = true) : (vs.getD 0 noS).has = false := by
  unfold viewB at h
  simp only [Bool.and_eq_true, Bool.not_eq_true'] at h
  exact h.2.1

end Go.Proofs.YtajcffchopcamaaGreatDoor

/- What is marked is what is reached. -/
namespace Go.Proofs.YtajcffchopcamaaGreatDoor

/-! ## What is reached -/
inductive ReachM (vs : List SlotV) (root : Int) : Int → Prop
  | root : hasM vs root = true → ReachM vs root root
  | step {i r : Int} : ReachM vs root i → r ∈ refsM vs i → hasM vs r = true → ReachM vs root r
theorem ReachM.has {vs : List SlotV} {root i : Int} (h : ReachM vs root i) : hasM vs i = true := by cases h <;> assumption
theorem ReachM.rng {vs : List SlotV} (hv : RngM vs) {root i : Int} (hr : 0 ≤ root ∧ root ≤ 31) (h : ReachM vs root i) : 0 ≤ i ∧ i ≤ 31 := by
  cases h with
  | root _ => exact hr
  | step _ h2 _ => exact hv _ _ h2
theorem metM_set {S : List Bool} {x i : Int} (hS : S.length = 32) (hx : 0 ≤ x ∧ x ≤ 31) (hi : 0 ≤ i) : metM (S.set x.toNat true) i = (metM S i || decide (i = x)) := by
  unfold metM
  by_cases e : i = x
  · subst e
    simp [List.getD, show i.toNat < S.length by omega]
  · have e2 : x.toNat ≠ i.toNat := by omega
    simp [List.getD, List.getElem?_set_ne e2, e]
/-- What stands of a state: marks are reached; who lacks something stands on the stack, or something was left over, or it is being looked at. -/
structure RchM (vs : List SlotV) (root : Int) (X : Int → Prop) (st : MSt) : Prop where
  base : hasM vs root = true → metM st.met root = true
  sound : ∀ i, 0 ≤ i → metM st.met i = true → ReachM vs root i
  stk : ∀ x ∈ st.stack, metM st.met x = true
  cover : ∀ i, 0 ≤ i → metM st.met i = true → lackM vs st.met i = true → i ∈ st.stack ∨ st.left = true ∨ X i
theorem lackM_mono {vs : List SlotV} {S S' : List Bool} {i : Int} (hS : ∀ r, 0 ≤ r → metM S r = true → metM S' r = true) (hv : RngM vs) (h : lackM vs S' i = true) : lackM vs S i = true := by
  unfold lackM at h ⊢
  rw [List.any_eq_true] at h ⊢
  obtain ⟨r, hr, hm⟩ := h
  refine ⟨r, hr, ?_⟩
  unfold missM at hm ⊢
  simp only [Bool.and_eq_true, Bool.not_eq_true'] at hm ⊢
  refine ⟨hm.1, ?_⟩
  cases e : metM S r
  · rfl
  · rw [hS r (hv _ _ hr).1 e] at hm
    exact absurd hm.2 (by decide)
theorem refM_rch {vs : List SlotV} (hv : RngM vs) {root : Int} (h0 : 0 ≤ root) {X : Int → Prop} {most : Nat} {st : MSt} (g : GoodM most st) (h : RchM vs root X st) {r : Int} (hr : 0 ≤ r ∧ r ≤ 31) (hre : hasM vs r = true → ReachM vs root r) : RchM vs root X (refM vs most st r) ∧ (∀ i, 0 ≤ i → metM st.met i = true → metM (refM vs most st r).met i = true) ∧ missM vs (refM vs most st r).met r = false := by
  unfold refM
  by_cases hm : missM vs st.met r = true
  · rw [if_pos hm]
    have hset : ∀ i, 0 ≤ i → metM (st.met.set r.toNat true) i = (metM st.met i || decide (i = r)) := fun i hi => metM_set g.len hr hi
    have hmono : ∀ i, 0 ≤ i → metM st.met i = true → metM (st.met.set r.toNat true) i = true := fun i hi h => by rw [hset i hi, h]; rfl
    have hrr : metM (st.met.set r.toNat true) r = true := by rw [hset r hr.1]; simp
    have hh : hasM vs r = true := by unfold missM at hm; simp only [Bool.and_eq_true] at hm; exact hm.1
    unfold markM
    refine ⟨⟨fun hh0 => by rw [putM_met]; exact hmono root h0 (h.base hh0), fun i hi hmi => ?_, fun x hx => ?_, fun i hi hmi hl => ?_⟩, fun i hi h => by rw [putM_met]; exact hmono i hi h, by rw [putM_met]; unfold missM; simp only; rw [hrr]; simp⟩
    · rw [putM_met] at hmi
      simp only at hmi
      rw [hset i hi] at hmi
      simp only [Bool.or_eq_true, decide_eq_true_eq] at hmi
      rcases hmi with h1 | rfl
      · exact h.sound i hi h1
      · exact hre hh
    · rw [putM_met]
      unfold putM at hx
      split at hx
      · rcases List.mem_append.1 hx with hx | hx
        · exact hmono x (g.rng x hx).1 (h.stk x hx)
        · obtain rfl := List.mem_singleton.1 hx; exact hrr
      · exact hmono x (g.rng x hx).1 (h.stk x hx)
    · rw [putM_met] at hmi hl
      simp only at hmi hl
      rw [hset i hi] at hmi
      simp only [Bool.or_eq_true, decide_eq_true_eq] at hmi
      unfold putM
      rcases hmi with h1 | rfl
      · rcases h.cover i hi h1 (lackM_mono hmono hv hl) with h2 | h2 | h2
        · split
          · exact .inl (List.mem_append.2 (.inl h2))
          · exact .inr (.inl rfl)
        · split
          · exact .inr (.inl h2)
          · exact .inr (.inl rfl)
        · exact .inr (.inr h2)
      · split
        · exact .inl (by simp)
        · exact .inr (.inl rfl)
  · rw [if_neg hm]
    exact ⟨h, fun _ _ h => h, by simpa using hm⟩
theorem foldM_rch {vs : List SlotV} (hv : RngM vs) {root : Int} (h0 : 0 ≤ root) {X : Int → Prop} {most : Nat} : ∀ (F : List Int) (st : MSt), GoodM most st → RchM vs root X st → (∀ r ∈ F, 0 ≤ r ∧ r ≤ 31) → (∀ r ∈ F, hasM vs r = true → ReachM vs root r) → RchM vs root X (F.foldl (refM vs most) st) ∧ (∀ i, 0 ≤ i → metM st.met i = true → metM (F.foldl (refM vs most) st).met i = true) ∧ ∀ r ∈ F, missM vs (F.foldl (refM vs most) st).met r = false := by
  intro F
  induction F with
  | nil => intro st _ h _ _; exact ⟨h, fun _ _ h => h, fun r hr => by simp at hr⟩
  | cons r F ih =>
    intro st g h hr hre
    obtain ⟨a, b, c⟩ := refM_rch hv h0 g h (hr r (by simp)) (hre r (by simp))
    obtain ⟨a2, b2, c2⟩ := ih _ (refM_good g (hr r (by simp))) a (fun x hx => hr x (by simp [hx])) (fun x hx => hre x (by simp [hx]))
    refine ⟨a2, fun i hi h => b2 i hi (b i hi h), fun x hx => ?_⟩
    rcases List.mem_cons.1 hx with rfl | hx
    · simp only [List.foldl_cons]
      unfold missM at c ⊢
      cases hh : hasM vs x
      · rfl
      · rw [hh] at c
        simp only [Bool.true_and, Bool.not_eq_false'] at c ⊢
        exact b2 x (hr x (by simp)).1 c
    · exact c2 x hx
theorem popM_rch {vs : List SlotV} (hv : RngM vs) {root : Int} (hp : 0 ≤ root) {most : Nat} {st : MSt} (g : GoodM most st) (h : RchM vs root (fun _ => False) st) (hne : st.stack ≠ []) : RchM vs root (fun _ => False) (popM vs most st) := by
  have hmem := topM_mem hne
  have hr0 := g.rng _ hmem
  have hreach := h.sound _ hr0.1 (h.stk _ hmem)
  have h0 : RchM vs root (fun i => i = topM st) (cutM st) := by
    refine ⟨h.base, h.sound, fun x hx => h.stk x (List.dropLast_subset _ hx), fun i hi hm hl => ?_⟩
    rcases h.cover i hi hm hl with h1 | h1 | h1
    · by_cases e : i = topM st
      · exact .inr (.inr e)
      · left
        have e2 : st.stack = st.stack.dropLast ++ [topM st] := by
          conv => lhs; rw [← List.dropLast_concat_getLast hne]
          rw [topM, List.getLastD_eq_getLast?, List.getLast?_eq_some_getLast hne]
          rfl
        rw [e2] at h1
        rcases List.mem_append.1 h1 with h1 | h1
        · exact h1
        · exact absurd (List.mem_singleton.1 h1) e
    · exact .inr (.inl h1)
    · exact absurd h1 id
  obtain ⟨a, _, c⟩ := foldM_rch hv hp (refsM vs (topM st)) (cutM st) (cutM_good g) h0 (hv _) (fun r hr hh => .step hreach hr hh)
  refine ⟨a.base, a.sound, a.stk, fun i hi hm hl => ?_⟩
  rcases a.cover i hi hm hl with h1 | h1 | h1
  · exact .inl h1
  · exact .inr (.inl h1)
  · exfalso
    rw [h1] at hl
    unfold lackM at hl
    rw [List.any_eq_true] at hl
    obtain ⟨r, hr, hx⟩ := hl
    have := c r hr
    unfold popM at hx
    rw [this] at hx
    cases hx
theorem drainM_rch {vs : List SlotV} (hv : RngM vs) {root : Int} (hp : 0 ≤ root) {most : Nat} : ∀ (n : Nat) (st : MSt), GoodM most st → RchM vs root (fun _ => False) st → RchM vs root (fun _ => False) (drainM vs most n st) := by
  intro n
  induction n with
  | zero => intro st _ h; exact h
  | succ n ih =>
    intro st g h
    unfold drainM
    split
    · exact h
    · rename_i e
      exact ih _ (popM_good hv g e).1 (popM_rch hv hp g h e)
theorem lookM_rch {vs : List SlotV} {most : Nat} (S : List Bool) : ∀ (L : List Nat) (st : MSt), st.met = S → (∀ x ∈ st.stack, metM S x = true) →
    (L.foldl (lookM vs most) st).met = S ∧ (∀ x ∈ (L.foldl (lookM vs most) st).stack, metM S x = true) ∧ (∀ x, x ∈ st.stack ∨ st.left = true → x ∈ (L.foldl (lookM vs most) st).stack ∨ (L.foldl (lookM vs most) st).left = true) ∧ ∀ i ∈ L, metM S (i : Int) = true → lackM vs S i = true → (i : Int) ∈ (L.foldl (lookM vs most) st).stack ∨ (L.foldl (lookM vs most) st).left = true := by
  intro L
  induction L with
  | nil => intro st h1 h2; exact ⟨h1, h2, fun x h => h, fun i hi => by simp at hi⟩
  | cons i L ih =>
    intro st h1 h2
    have key : (lookM vs most st i).met = S ∧ (∀ x ∈ (lookM vs most st i).stack, metM S x = true) ∧ (∀ x, x ∈ st.stack ∨ st.left = true → x ∈ (lookM vs most st i).stack ∨ (lookM vs most st i).left = true) ∧ (metM S (i : Int) = true → lackM vs S i = true → (i : Int) ∈ (lookM vs most st i).stack ∨ (lookM vs most st i).left = true) := by
      unfold lookM
      rw [h1]
      split
      · rename_i hc
        simp only [Bool.and_eq_true] at hc
        rw [putM_met]
        unfold putM
        split
        · refine ⟨h1, fun x hx => ?_, fun x hx => ?_, fun _ _ => .inl (by simp)⟩
          · rcases List.mem_append.1 hx with hx | hx
            · exact h2 x hx
            · obtain rfl := List.mem_singleton.1 hx; exact hc.1
          · rcases hx with hx | hx
            · exact .inl (List.mem_append.2 (.inl hx))
            · exact .inr hx
        · exact ⟨h1, h2, fun x hx => .inr rfl, fun _ _ => .inr rfl⟩
      · rename_i hc
        refine ⟨h1, h2, fun x hx => hx, fun ha hb => absurd ?_ hc⟩
        rw [ha, hb]
        rfl
    obtain ⟨k1, k2, k3, k4⟩ := key
    obtain ⟨a, b, c, d⟩ := ih (lookM vs most st i) k1 k2
    refine ⟨a, b, fun x hx => c x (k3 x hx), fun j hj hm hl => ?_⟩
    rcases List.mem_cons.1 hj with rfl | hj
    · exact c _ (k4 hm hl)
    · exact d j hj hm hl
theorem anewM_rch {vs : List SlotV} {root : Int} {most : Nat} {st : MSt} (g : GoodM most st) (h : RchM vs root (fun _ => False) st) : RchM vs root (fun _ => False) (anewM vs most st) := by
  obtain ⟨a, b, _, d⟩ := lookM_rch (vs := vs) (most := most) st.met (List.range 32) (clearM st) rfl h.stk
  refine ⟨fun hh => by rw [show (anewM vs most st).met = st.met from a]; exact h.base hh, fun i hi hm => h.sound i hi (by rw [← a]; exact hm), fun x hx => by rw [show (anewM vs most st).met = st.met from a]; exact b x hx, fun i hi hm hl => ?_⟩
  rw [show (anewM vs most st).met = st.met from a] at hm hl
  have hi32 : i.toNat < 32 := by
    unfold metM at hm
    rcases Nat.lt_or_ge i.toNat 32 with h0 | h0
    · exact h0
    · simp [List.getD, List.getElem?_eq_none (by rw [g.len]; exact h0 : st.met.length ≤ i.toNat)] at hm
  have e : ((i.toNat : Nat) : Int) = i := by omega
  have := d i.toNat (List.mem_range.2 hi32) (by rw [e]; exact hm) (by rw [e]; exact hl)
  rw [e] at this
  rcases this with h1 | h1
  · exact .inl h1
  · exact .inr (.inl h1)
theorem loopM_all {vs : List SlotV} (hv : RngM vs) {root : Int} (hp : 0 ≤ root) {most : Nat} (h1 : 1 ≤ most) (h40 : most ≤ 40) : ∀ (n : Nat) (st : MSt), GoodM most st → st.stack = [] → restM st ≤ n → RchM vs root (fun _ => False) st →
    GoodM most (loopM vs most n st) ∧ (loopM vs most n st).stack = [] ∧ (loopM vs most n st).left = false ∧ RchM vs root (fun _ => False) (loopM vs most n st) ∧ st.anew ≤ (loopM vs most n st).anew := by
  intro n
  induction n with
  | zero =>
    intro st g he hr h
    have hl : st.left = false := by
      cases e : st.left
      · rfl
      · unfold restM at hr; rw [if_pos e] at hr; omega
    exact ⟨g, he, hl, h, Int.le_refl _⟩
  | succ n ih =>
    intro st g he hr h
    unfold loopM
    split
    · rename_i hl
      have hless := loopM_less hv h1 h40 g he hl
      obtain ⟨_, ha, hg⟩ := anewM_good (vs := vs) g
      obtain ⟨g2, e2, _⟩ := drainM_good hv 72 _ hg (hg.size h40)
      have r2 := drainM_rch hv hp 72 _ hg (anewM_rch g h)
      obtain ⟨a, b, c, d, e⟩ := ih _ g2 e2 (by omega) r2
      rw [drainM_anew, ha] at e
      exact ⟨a, b, c, d, by omega⟩
    · rename_i hl
      exact ⟨g, he, by simpa using hl, h, Int.le_refl _⟩
theorem metM_empty (i : Int) : metM emptyM.met i = false := by
  unfold metM emptyM
  simp only [List.getD, List.getElem?_replicate]
  split <;> rfl
theorem start_rch {vs : List SlotV} {most : Nat} (h1 : 1 ≤ most) {root : Int} (hr : 0 ≤ root ∧ root ≤ 31) : RchM vs root (fun _ => False) (refM vs most emptyM root) := by
  unfold refM
  split
  · rename_i hm
    have hh : hasM vs root = true := by unfold missM at hm; simp only [Bool.and_eq_true] at hm; exact hm.1
    have e : markM most emptyM root = ⟨emptyM.met.set root.toNat true, [root], false, 0⟩ := by
      unfold markM putM
      rw [if_pos (by simp [emptyM]; omega)]
      rfl
    have hset : ∀ i, 0 ≤ i → metM (emptyM.met.set root.toNat true) i = decide (i = root) := fun i hi => by rw [metM_set (by simp [emptyM]) hr hi, metM_empty, Bool.false_or]
    rw [e]
    refine ⟨fun _ => by rw [hset root hr.1]; simp, fun i hi hmi => ?_, fun x hx => ?_, fun i hi hmi _ => ?_⟩
    · rw [hset i hi] at hmi
      rw [of_decide_eq_true hmi]
      exact .root hh
    · rw [List.mem_singleton.1 hx, hset root hr.1]
      simp
    · rw [hset i hi] at hmi
      exact .inl (List.mem_singleton.2 (of_decide_eq_true hmi))
  · rename_i hm
    refine ⟨fun hh => absurd ?_ hm, fun i _ h => ?_, fun x hx => by simp [emptyM] at hx, fun i _ h => ?_⟩
    · unfold missM
      rw [hh, metM_empty]
      rfl
    · rw [metM_empty] at h; cases h
    · rw [metM_empty] at h; cases h
theorem rch_end {vs : List SlotV} (hv : RngM vs) {root : Int} (hr : 0 ≤ root ∧ root ≤ 31) {st : MSt} (h : RchM vs root (fun _ => False) st) (he : st.stack = []) (hl : st.left = false) : ∀ i, 0 ≤ i → (metM st.met i = true ↔ ReachM vs root i) := by
  intro i hi
  refine ⟨h.sound i hi, fun hre => ?_⟩
  clear hi
  induction hre with
  | root hh => exact h.base hh
  | step h1 h2 h3 ih =>
    rename_i i r
    have hi := h1.rng hv hr
    cases hm : metM st.met r
    · exfalso
      have hlk : lackM vs st.met i = true := by
        unfold lackM
        rw [List.any_eq_true]
        exact ⟨r, h2, by unfold missM; rw [h3, hm]; rfl⟩
      rcases h.cover i hi.1 ih hlk with h4 | h4 | h4
      · rw [he] at h4; simp at h4
      · rw [hl] at h4; cases h4
      · exact h4
    · rfl
/-- What the marks are, whatever room the stack has. -/
theorem runM_reach {vs : List SlotV} (hv : RngM vs) {most : Nat} (h1 : 1 ≤ most) (h40 : most ≤ 40) {root : Int} (hr : 0 ≤ root ∧ root ≤ 31) : (runM vs most root).met.length = 32 ∧ 0 ≤ (runM vs most root).anew ∧ ∀ i, 0 ≤ i → (metM (runM vs most root).met i = true ↔ ReachM vs root i) := by
  obtain ⟨g, e⟩ := firstM_good hv h40 hr
  have g0 := refM_good (vs := vs) (emptyM_good most) hr
  have r := drainM_rch hv hr.1 72 _ g0 (start_rch h1 hr)
  obtain ⟨a, b, c, d, f⟩ := loopM_all hv hr.1 h1 h40 65 _ g e (restM_le g) r
  refine ⟨a.len, ?_, rch_end hv hr d b c⟩
  rw [firstM, drainM_anew, refM_anew] at f
  exact f
end Go.Proofs.YtajcffchopcamaaGreatDoor

/- A search in breadth: what stands of it; the list of what is marked. -/
namespace Go.Proofs.YtajcffchopcamaaGreatDoor

/-- What is marked, ascending. -/
def reachL (S : List Bool) : List Int := ((List.range 32).map (fun i : Nat => (i : Int))).filter (fun i => metM S i)
def reachTo (S : List Bool) (n : Nat) : List Int := ((List.range n).map (fun i : Nat => (i : Int))).filter (fun i => metM S i)
theorem reachTo_step (S : List Bool) (n : Nat) : reachTo S (n + 1) = if S.getD n false = true then reachTo S n ++ [(n : Int)] else reachTo S n := by
  unfold reachTo
  rw [List.range_succ, List.map_append, List.filter_append]
  have e : metM S (n : Int) = S.getD n false := by rw [metM, Int.toNat_natCast]
  simp only [List.map_cons, List.map_nil, List.filter_cons, List.filter_nil, e]
  split
  · rfl
  · simp
theorem reachTo_len (S : List Bool) (n : Nat) : (reachTo S n).length ≤ n := by
  unfold reachTo
  exact Nat.le_trans (List.length_filter_le _ _) (by simp)
theorem metM_out {S : List Bool} (hS : S.length = 32) {i : Int} (hi : 32 ≤ i) : metM S i = false := by
  unfold metM
  simp [List.getD, List.getElem?_eq_none (by omega : S.length ≤ i.toNat)]
theorem met_ext {S S' : List Bool} (h : S.length = 32) (h' : S'.length = 32) (he : ∀ i, 0 ≤ i → (metM S i = true ↔ metM S' i = true)) : S = S' := by
  apply List.ext_getElem (by rw [h, h'])
  intro i h1 h2
  have := he i (by omega)
  have a1 : metM S (i : Int) = S[i] := by simp [metM, List.getD, h1]
  have a2 : metM S' (i : Int) = S'[i] := by simp [metM, List.getD, h2]
  rw [a1, a2] at this
  exact Bool.eq_iff_iff.2 this

structure Bfs (vs : List SlotV) (root : Int) (S : List Bool) (Q : List Int) (k : Nat) : Prop where
  len : S.length = 32
  rng : ∀ x ∈ Q, 0 ≤ x ∧ x ≤ 31
  sum : Q.length + unseenM S = 32
  mem : ∀ i, 0 ≤ i → (metM S i = true ↔ i ∈ Q)
  sound : ∀ i ∈ Q, ReachM vs root i
  base : hasM vs root = true → metM S root = true
  cover : ∀ j, j < k → ∀ r ∈ refsM vs (Q.getD j 0), hasM vs r = true → metM S r = true
theorem bfs_none {vs : List SlotV} {root : Int} (h : hasM vs root = false) : Bfs vs root (List.replicate 32 false) [] 0 := by
  refine ⟨by simp, fun x hx => by simp at hx, by decide, fun i _ => ?_, fun i hi => by simp at hi, fun h2 => absurd (h.symm.trans h2) (by decide), fun j hj => by omega⟩
  rw [show metM (List.replicate 32 false) i = false from metM_empty i]
  simp
theorem bfs_one {vs : List SlotV} {root : Int} (hr : 0 ≤ root ∧ root ≤ 31) (h : hasM vs root = true) : Bfs vs root ((List.replicate 32 false).set root.toNat true) [root] 0 := by
  have hset : ∀ i, 0 ≤ i → metM ((List.replicate 32 false).set root.toNat true) i = decide (i = root) := fun i hi => by
    rw [metM_set (by simp) hr hi, show metM (List.replicate 32 false) i = false from metM_empty i, Bool.false_or]
  refine ⟨by simp, fun x hx => by rw [List.mem_singleton.1 hx]; exact hr, ?_, fun i hi => ?_, fun i hi => by rw [List.mem_singleton.1 hi]; exact .root h, fun _ => by rw [hset root hr.1]; simp, fun j hj => by omega⟩
  · have h1 := unseenM_set (List.replicate 32 false) root.toNat (by simp; omega) (metM_empty root)
    have h2 : unseenM (List.replicate 32 false) = 32 := by decide
    simp only [List.length_cons, List.length_nil]
    omega
  · rw [hset i hi]
    simp
theorem Bfs.push {vs : List SlotV} {root : Int} {S : List Bool} {Q : List Int} {k : Nat} (h : Bfs vs root S Q k) {r x : Int} (hx : x ∈ Q) (hrx : r ∈ refsM vs x) (hr : 0 ≤ r ∧ r ≤ 31) (hh : hasM vs r = true) (hm : metM S r = false) (hk : k ≤ Q.length) : Bfs vs root (S.set r.toNat true) (Q ++ [r]) k := by
  have hset : ∀ i, 0 ≤ i → metM (S.set r.toNat true) i = (metM S i || decide (i = r)) := fun i hi => metM_set h.len hr hi
  refine ⟨by simp [h.len], fun y hy => ?_, ?_, fun i hi => ?_, fun i hi => ?_, fun hb => ?_, fun j hj y hy hhy => ?_⟩
  · rcases List.mem_append.1 hy with hy | hy
    · exact h.rng y hy
    · rw [List.mem_singleton.1 hy]; exact hr
  · have h1 := unseenM_set S r.toNat (by rw [h.len]; omega) hm
    have h2 := h.sum
    simp only [List.length_append, List.length_cons, List.length_nil]
    omega
  · rw [hset i hi]
    simp only [Bool.or_eq_true, decide_eq_true_eq, List.mem_append, List.mem_singleton]
    rw [h.mem i hi]
  · rcases List.mem_append.1 hi with hi | hi
    · exact h.sound i hi
    · rw [List.mem_singleton.1 hi]; exact .step (h.sound x hx) hrx hh
  · have h1 := h.base hb
    by_cases h0 : 0 ≤ root
    · rw [hset root h0, h1]; rfl
    · unfold metM at h1 ⊢
      have e : root.toNat = 0 := by omega
      rw [e] at h1 ⊢
      by_cases e2 : r.toNat = 0
      · rw [e2]; simp [List.getD, h.len]
      · simp only [List.getD, List.getElem?_set_ne e2]
        exact h1
  · rw [show (Q ++ [r]).getD j 0 = Q.getD j 0 by simp [List.getD, List.getElem?_append_left (by omega : j < Q.length)]] at hy
    have h1 := h.cover j hj y hy hhy
    by_cases h0 : 0 ≤ y
    · rw [hset y h0, h1]; rfl
    · unfold metM at h1 ⊢
      have e : y.toNat = 0 := by omega
      rw [e] at h1 ⊢
      by_cases e2 : r.toNat = 0
      · rw [e2]; simp [List.getD, h.len]
      · simp only [List.getD, List.getElem?_set_ne e2]
        exact h1
theorem Bfs.next {vs : List SlotV} {root : Int} {S : List Bool} {Q : List Int} {k : Nat} (h : Bfs vs root S Q k) (hd : ∀ r ∈ refsM vs (Q.getD k 0), hasM vs r = true → metM S r = true) : Bfs vs root S Q (k + 1) :=
  ⟨h.len, h.rng, h.sum, h.mem, h.sound, h.base, fun j hj r hr hh => by
    by_cases e : j = k
    · subst e; exact hd r hr hh
    · exact h.cover j (by omega) r hr hh⟩
theorem Bfs.all {vs : List SlotV} (hv : RngM vs) {root : Int} (hr : 0 ≤ root ∧ root ≤ 31) {S : List Bool} {Q : List Int} {k : Nat} (h : Bfs vs root S Q k) (hk : ¬ k < Q.length) : ∀ i, 0 ≤ i → (metM S i = true ↔ ReachM vs root i) := by
  intro i hi
  refine ⟨fun hm => h.sound i ((h.mem i hi).1 hm), fun hre => ?_⟩
  clear hi
  induction hre with
  | root hh => exact h.base hh
  | step h1 h2 h3 ih =>
    rename_i i r
    have hi := h1.rng hv hr
    have hq := (h.mem i hi.1).1 ih
    obtain ⟨j, hj, e⟩ := List.mem_iff_getElem.1 hq
    refine h.cover j (by omega) r ?_ h3
    rw [show Q.getD j 0 = Q[j] by simp [List.getD, hj], e]
    exact h2
theorem bfs_run {vs : List SlotV} (hv : RngM vs) {root : Int} (hr : 0 ≤ root ∧ root ≤ 31) {S : List Bool} {Q : List Int} {k : Nat} (h : Bfs vs root S Q k) (hk : ¬ k < Q.length) : S = (runM vs 40 root).met := by
  obtain ⟨h1, _, h3⟩ := runM_reach hv (most := 40) (by decide) (by decide) hr
  exact met_ext h.len h1 (fun i hi => (h.all hv hr hk i hi).trans (h3 i hi).symm)
end Go.Proofs.YtajcffchopcamaaGreatDoor

/- A map from numbers to nothing, a set: what a block holds, and what storing, looking up and clearing do. -/
namespace Go.Proofs.YtajcffchopcamaaGreatDoor
open Go.RowKit Go.Maps Go.MapKept

def entK (k : Int) : Value × Value := (.int .i64 k, .agg #[])
/-- Block B is a map whose keys are ks. -/
def BornK (es : Array MapEntry) (clock : Nat) : Prop := (∀ x ∈ es.toList, x.born < clock) ∧ (es.toList.map (·.born)).Nodup
def KeysAt (w : World) (B : Nat) (ks : List Int) : Prop := ∃ es clock, w.heap[B]? = some (.map es clock) ∧ es.toList.map (fun e => (e.key, e.val)) = ks.map entK ∧ BornK es clock
theorem bornK_nil (clock : Nat) : BornK #[] clock := ⟨fun x hx => by simp at hx, by simp⟩
theorem bornK_push {es : Array MapEntry} {clock : Nat} (h : BornK es clock) (k v : Value) : BornK (es.push { key := k, val := v, born := clock }) (clock + 1) := by
  refine ⟨fun x hx => ?_, ?_⟩
  · simp only [Array.toList_push, List.mem_append, List.mem_singleton] at hx
    rcases hx with hx | rfl
    · have := h.1 x hx; omega
    · simp
  · simp only [Array.toList_push, List.map_append, List.map_cons, List.map_nil]
    rw [List.nodup_append]
    refine ⟨h.2, by simp, fun a ha b hb e => ?_⟩
    obtain ⟨x, hx, rfl⟩ := List.mem_map.1 ha
    have := h.1 x hx
    rw [List.mem_singleton.1 hb] at e
    omega
theorem bornK_modify {es : Array MapEntry} {clock j : Nat} (h : BornK es clock) (k v : Value) : BornK (es.modify j fun e => { e with key := k, val := v }) clock := by
  have e : ∀ (l : List MapEntry) (j : Nat), (l.modify j fun e => { e with key := k, val := v }).map (·.born) = l.map (·.born) := by
    intro l
    induction l with
    | nil => intro j; simp
    | cons a r ih =>
      intro j
      cases j with
      | zero => simp
      | succ j => simp [ih j]
  have e2 : (es.modify j fun e => { e with key := k, val := v }).toList.map (·.born) = es.toList.map (·.born) := by rw [Array.toList_modify, e]
  refine ⟨fun x hx => ?_, by rw [e2]; exact h.2⟩
  have : x.born ∈ (es.modify j fun e => { e with key := k, val := v }).toList.map (·.born) := List.mem_map.2 ⟨x, hx, rfl⟩
  rw [e2] at this
  obtain ⟨y, hy, hb⟩ := List.mem_map.1 this
  have := h.1 y hy
  omega
/-- Block B is a map whose keys are what is marked in S. -/
def SetAt (w : World) (B : Nat) (S : List Bool) : Prop := ∃ ks, KeysAt w B ks ∧ ks.Nodup ∧ ∀ k : Int, k ∈ ks ↔ (0 ≤ k ∧ metM S k = true)
def findK (k : Int) : List Int → Nat → Option (Nat × Value)
  | [], _ => none
  | m :: r, i => if k = m then some (i, .agg #[]) else findK k r (i + 1)
theorem KeysAt.lt {w : World} {B : Nat} {ks : List Int} (h : KeysAt w B ks) : B < w.heap.size := by
  obtain ⟨es, clock, hb, _⟩ := h
  rcases Nat.lt_or_ge B w.heap.size with h | h
  · exact h
  · rw [Array.getElem?_eq_none h] at hb; cases hb
theorem SetAt.lt {w : World} {B : Nat} {S : List Bool} (h : SetAt w B S) : B < w.heap.size := by
  obtain ⟨ks, h, _⟩ := h
  exact h.lt
theorem KeysAt.block {w w' : World} {B : Nat} {ks : List Int} (h : KeysAt w B ks) (hb : w'.heap[B]? = w.heap[B]?) : KeysAt w' B ks := by
  obtain ⟨es, clock, h1, h2⟩ := h
  exact ⟨es, clock, by rw [hb]; exact h1, h2⟩
theorem SetAt.block {w w' : World} {B : Nat} {S : List Bool} (h : SetAt w B S) (hb : w'.heap[B]? = w.heap[B]?) : SetAt w' B S := by
  obtain ⟨ks, h1, h2⟩ := h
  exact ⟨ks, h1.block hb, h2⟩
theorem SetAt.below {w w' : World} {B : Nat} {S : List Bool} (h : SetAt w B S) (hb : Below w.heap.size w w') : SetAt w' B S := h.block (hb.block B h.lt)
theorem findNow_k (k : Int) : ∀ (ks : List Int) (l : List MapEntry) (i : Nat), l.map (fun e => (e.key, e.val)) = ks.map entK → Instr.findNow (.int .i64) (.int .i64 k) l i = some (findK k ks i) := by
  intro ks
  induction ks with
  | nil => intro l i h; cases l with
    | nil => rfl
    | cons e r => simp at h
  | cons m r ih =>
    intro l i h
    cases l with
    | nil => simp at h
    | cons e q =>
      simp only [List.map_cons, List.cons.injEq, entK, Prod.mk.injEq] at h
      obtain ⟨⟨h1, h2⟩, h3⟩ := h
      have h4 := ih q (i + 1) (by simpa [entK] using h3)
      rw [Instr.findNow, h1, findK]
      by_cases hk : k = m
      · subst hk
        simp [Instr.sameNow, h2]
      · have hkb : (k == m) = false := by simpa using hk
        simp [Instr.sameNow, hk, h4, hkb]
theorem findK_cases (k : Int) : ∀ (ks : List Int) (i : Nat), (findK k ks i = none ∧ k ∉ ks) ∨ ∃ j : Nat, ks[j]? = some k ∧ findK k ks i = some (i + j, .agg #[]) := by
  intro ks
  induction ks with
  | nil => intro i; exact .inl ⟨rfl, by simp⟩
  | cons m r ih =>
    intro i
    by_cases hk : k = m
    · exact .inr ⟨0, by simp [hk], by rw [findK, if_pos hk]; rfl⟩
    · rcases ih (i + 1) with ⟨h1, h2⟩ | ⟨j, h1, h2⟩
      · exact .inl ⟨by rw [findK, if_neg hk]; exact h1, by simp [hk, h2]⟩
      · exact .inr ⟨j + 1, by simpa using h1, by rw [findK, if_neg hk, h2]; congr 2; omega⟩
theorem kv_modifyK (l : List MapEntry) (j : Nat) (f : MapEntry → MapEntry) (v : Value × Value) (hf : ∀ e, ((f e).key, (f e).val) = v) : (l.modify j f).map (fun e => (e.key, e.val)) = (l.map (fun e => (e.key, e.val))).set j v := by
  induction l generalizing j with
  | nil => simp
  | cons e r ih =>
    cases j with
    | zero => simp [hf]
    | succ j => simp [ih j]
theorem isKey_intK (k : Int) : IsKey (.int .i64) (.int .i64 k) := rfl
set_option maxHeartbeats 400000 in
/-- What a store does. -/
theorem run_update_k {w : World} {B : Nat} {ks : List Int} (h : KeysAt w B ks) (k : Int) :
    ∃ w', (Instr.mapUpdate 106 (.map (some B)) (.int .i64 k) (.agg #[])).run Tryz.prog w = .ok () w' ∧ KeysAt w' B (if k ∈ ks then ks else ks ++ [k]) ∧ w.grownBy w' (some B) := by
  obtain ⟨es, clock, hb, he, hbn⟩ := h
  have hck := run_checkKey (P := Tryz.prog) (w := w) Tryz.underlying3 (isKey_intK k) false 9999
  have hfd := run_findKey (P := Tryz.prog) (w := w) (kt := 3) Tryz.underlying3 (findNow_k k ks es.toList 0 he)
  have hgo : (getObj B).run Tryz.prog w = .ok (.map es clock) w := by simp [getObj, Sem.run, hb]
  have hgr : ∀ o : Obj, w.grownBy { w with heap := w.heap.setIfInBounds B o } (some B) := fun o => ⟨rfl, rfl, rfl, by simp, fun i _ hi => (heap_set hb).2 i (fun e => hi (by rw [e]))⟩
  rcases findK_cases k ks 0 with ⟨h1, h2⟩ | ⟨j, h1, h3⟩
  · rw [h1] at hfd
    refine ⟨{ w with heap := w.heap.setIfInBounds B (.map (es.push { key := .int .i64 k, val := .agg #[], born := clock }) (clock + 1)) }, ?_, ⟨_, _, (heap_set hb).1, ?_, bornK_push hbn _ _⟩, hgr _⟩
    · simp only [Instr.mapUpdate, Sem.run_bind, run_underlying Tryz.underlying106, Result.andThen, hgo, hck, hfd, run_setObj_map _ hb]
    · rw [if_neg h2, Array.toList_push, List.map_append, List.map_append, he]; rfl
  · rw [h3] at hfd
    have hmem : k ∈ ks := List.mem_of_getElem? h1
    have hold : ((es[0 + j]?).map (·.key)).getD (.int .i64 k) = .int .i64 k := by
      have e := congrArg (fun l => l[j]?) he
      simp only [List.getElem?_map, h1, Option.map_some, entK] at e
      rw [Nat.zero_add]
      rw [← Array.getElem?_toList]
      cases hq : es.toList[j]? with
      | none => rfl
      | some x =>
        rw [hq] at e
        simp only [Option.map_some, Option.some.injEq, Prod.mk.injEq] at e
        simp [e.1]
    have hst : (Instr.keyThatStays (.int .i64 k) (.int .i64 k)).run Tryz.prog w = .ok (.int .i64 k) w := by
      have : Instr.sameBits 10000 (.int .i64 k) (.int .i64 k) = true := by simp [Instr.sameBits]
      simp [Instr.keyThatStays, this]
    refine ⟨{ w with heap := w.heap.setIfInBounds B (.map (es.modify (0 + j) fun e => { e with key := .int .i64 k, val := .agg #[] }) clock) }, ?_, ⟨_, _, (heap_set hb).1, ?_, bornK_modify hbn _ _⟩, hgr _⟩
    · simp only [Instr.mapUpdate, Sem.run_bind, run_underlying Tryz.underlying106, Result.andThen, hgo, hck, hfd, hold, hst, run_setObj_map _ hb]
    · rw [if_pos hmem, Array.toList_modify, kv_modifyK _ _ _ (entK k) (fun e => rfl), he, Nat.zero_add]
      apply List.ext_getElem?
      intro i
      by_cases e : j = i
      · subst e
        rw [List.getElem?_set_self (by simpa using (List.getElem?_eq_some_iff.1 h1).1), List.getElem?_map, h1]
        rfl
      · rw [List.getElem?_set_ne e]
theorem zeroUnit (w : World) : (zeroValue 111).run Tryz.prog w = .ok (.agg #[]) w := by kernel_rfl
set_option maxHeartbeats 400000 in
/-- What a look-up gives. -/
theorem run_look_k {w : World} {B : Nat} {ks : List Int} (h : KeysAt w B ks) (k : Int) :
    (Instr.lookup 106 (.map (some B)) (.int .i64 k) true).run Tryz.prog w = .ok (.tuple #[.agg #[], .bool (decide (k ∈ ks))]) w := by
  obtain ⟨es, clock, hb, he, hbn⟩ := h
  have hck := run_checkKey (P := Tryz.prog) (w := w) Tryz.underlying3 (isKey_intK k) es.isEmpty 9999
  have hfd := run_findKey (P := Tryz.prog) (w := w) (kt := 3) Tryz.underlying3 (findNow_k k ks es.toList 0 he)
  have hgo : (getObj B).run Tryz.prog w = .ok (.map es clock) w := by simp [getObj, Sem.run, hb]
  rcases findK_cases k ks 0 with ⟨h1, h2⟩ | ⟨j, h1, h3⟩
  · rw [h1] at hfd
    simp only [Instr.lookup, Sem.run_bind, run_underlying Tryz.underlying106, Result.andThen, hgo, hck, hfd, zeroUnit, Sem.run_pure, decide_eq_false h2]
    rfl
  · rw [h3] at hfd
    simp only [Instr.lookup, Sem.run_bind, run_underlying Tryz.underlying106, Result.andThen, hgo, hck, hfd, Sem.run_pure, decide_eq_true (List.mem_of_getElem? h1)]
    rfl
set_option maxHeartbeats 400000 in
/-- What clear does. -/
theorem run_clear_k {w : World} {B : Nat} {ks : List Int} (h : KeysAt w B ks) (ty : TypeId) :
    ∃ w', (Builtin.clear_ #[106] ty #[.map (some B)]).run Tryz.prog w = .ok (.tuple #[]) w' ∧ KeysAt w' B [] ∧ w.grownBy w' (some B) := by
  obtain ⟨es, clock, hb, he, hbn⟩ := h
  have hgo : (getObj B).run Tryz.prog w = .ok (.map es clock) w := by simp [getObj, Sem.run, hb]
  have hgr : ∀ o : Obj, w.grownBy { w with heap := w.heap.setIfInBounds B o } (some B) := fun o => ⟨rfl, rfl, rfl, by simp, fun i _ hi => (heap_set hb).2 i (fun e => hi (by rw [e]))⟩
  refine ⟨{ w with heap := w.heap.setIfInBounds B (.map #[] clock) }, ?_, ⟨_, _, (heap_set hb).1, rfl, bornK_nil _⟩, hgr _⟩
  simp [Builtin.clear_, run_underlying Tryz.underlying106, Result.andThen, hgo, run_setObj_map _ hb]

theorem SetAt.add {w' : World} {B : Nat} {S : List Bool} {ks : List Int} (hn : ks.Nodup) (hm : ∀ k : Int, k ∈ ks ↔ (0 ≤ k ∧ metM S k = true)) {k : Int} (hk : 0 ≤ k ∧ k ≤ 31) (hS : S.length = 32) (h : KeysAt w' B (if k ∈ ks then ks else ks ++ [k])) : SetAt w' B (S.set k.toNat true) := by
  have hset : ∀ i : Int, 0 ≤ i → metM (S.set k.toNat true) i = (metM S i || decide (i = k)) := fun i hi => by
    unfold metM
    by_cases e : i = k
    · subst e
      simp [List.getD, show i.toNat < S.length by omega]
    · have e2 : k.toNat ≠ i.toNat := by omega
      simp [List.getD, List.getElem?_set_ne e2, e]
  refine ⟨_, h, ?_, fun i => ?_⟩
  · split
    · exact hn
    · rename_i hnm
      rw [List.nodup_append]
      exact ⟨hn, by simp, fun a ha b hb e => hnm (by rw [List.mem_singleton.1 hb] at e; rw [← e]; exact ha)⟩
  · have key : (i ∈ if k ∈ ks then ks else ks ++ [k]) ↔ (i ∈ ks ∨ i = k) := by
      split
      · rename_i hkm
        exact ⟨fun h => .inl h, fun h => h.elim id (fun e => by rw [e]; exact hkm)⟩
      · simp
    rw [key]
    constructor
    · rintro (h1 | rfl)
      · obtain ⟨a, b⟩ := (hm i).1 h1
        exact ⟨a, by rw [hset i a, b]; rfl⟩
      · exact ⟨hk.1, by rw [hset i hk.1]; simp⟩
    · rintro ⟨a, b⟩
      rw [hset i a] at b
      simp only [Bool.or_eq_true, decide_eq_true_eq] at b
      rcases b with b | b
      · exact .inl ((hm i).2 ⟨a, b⟩)
      · exact .inr b
theorem setAt_none {w : World} {B : Nat} (h : KeysAt w B []) : SetAt w B (List.replicate 32 false) := by
  refine ⟨[], h, by simp, fun k => ⟨fun h => by simp at h, fun h => ?_⟩⟩
  have e : metM (List.replicate 32 false) k = false := by
    unfold metM
    simp only [List.getD, List.getElem?_replicate]
    split <;> rfl
  rw [e] at h
  exact absurd h.2 (by decide)
theorem keysAt_made (w : World) : KeysAt (w.alloc (.map #[] 0)) w.heap.size [] := ⟨#[], 0, (heap_alloc w _).1, rfl, bornK_nil _⟩
theorem run_look_s {w : World} {B : Nat} {S : List Bool} (h : SetAt w B S) (k : Int) (hk : 0 ≤ k) :
    (Instr.lookup 106 (.map (some B)) (.int .i64 k) true).run Tryz.prog w = .ok (.tuple #[.agg #[], .bool (metM S k)]) w := by
  obtain ⟨ks, h1, _, h3⟩ := h
  rw [run_look_k h1 k]
  have e : decide (k ∈ ks) = metM S k := by
    cases hm : metM S k
    · exact decide_eq_false (fun h => by rw [((h3 k).1 h).2] at hm; cases hm)
    · exact decide_eq_true ((h3 k).2 ⟨hk, hm⟩)
  rw [e]
theorem wpList_update_s {w : World} {ops : Array Oper} {rest : List Oper} {o : Oper} {a : Act} {Q : Exit → Act → World → Prop} (hg : o.guard = none) (m x v : Operand) (hop : o.op = Op.mapUpdate 106 m x v)
    (B : Nat) (S : List Bool) (k : Int) (hk : 0 ≤ k ∧ k ≤ 31) (hS : S.length = 32) (hm : a.eval m = .map (some B)) (hx : a.eval x = .int .i64 k) (hv : a.eval v = .agg #[]) (h : SetAt w B S)
    (hK : ∀ w', SetAt w' B (S.set k.toNat true) → w.grownBy w' (some B) → wpList Tryz.prog ops Q rest (a.put o.dst undef) w') : wpList Tryz.prog ops Q (o :: rest) a w := by
  refine wpList_plain hg fun K' hK' => ?_
  obtain ⟨ks, h1, h2, h3⟩ := h
  obtain ⟨w', hrun, r1, r2⟩ := run_update_k h1 k
  unfold Oper.wp
  simp [execOp, hop, hm, hx, hv, hrun, Result.andThen]
  exact hK' _ _ (hK w' (SetAt.add h2 h3 hk hS r1) r2)
theorem wpList_clear_s {w : World} {ops : Array Oper} {rest : List Oper} {o : Oper} {a : Act} {Q : Exit → Act → World → Prop} (hg : o.guard = none) (m : Operand) (hop : o.op = Op.call { callee := .builtin .clear, args := #[m], argTypes := #[106] })
    (B : Nat) (S : List Bool) (hm : a.eval m = .map (some B)) (h : SetAt w B S)
    (hK : ∀ w', SetAt w' B (List.replicate 32 false) → w.grownBy w' (some B) → wpList Tryz.prog ops Q rest (a.put o.dst (.tuple #[])) w') : wpList Tryz.prog ops Q (o :: rest) a w := by
  refine wpList_plain hg fun K' hK' => ?_
  obtain ⟨ks, h1, _⟩ := h
  obtain ⟨w', hrun, r1, r2⟩ := run_clear_k h1 o.type
  unfold Oper.wp execOp
  simp only [hop, resolve, invoke, builtin, Sem.run_bind, Sem.run_pure, Result.andThen_ok, List.map_toArray, List.map_cons, List.map_nil, hm, hrun]
  exact hK' _ _ (hK w' (setAt_none r1) r2)
end Go.Proofs.YtajcffchopcamaaGreatDoor
