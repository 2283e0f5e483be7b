/- Several texts in one, in their order. -/
import Derived.Test.YtajcffchopcamaaGreatDoorPFnPathsx12
import Derived.Test.YtajcffchopcamaaGreatDoorPFnPathsx10
import Derived.Test.YtajcffchopcamaaGreatDoorPFnPathsx11
import Derived.Test.YtajcffchopcamaaGreatDoorPFnPathsx3
import Derived.Test.YtajcffchopcamaaGreatDoorPFnPathsx9
import Derived.Test.YtajcffchopcamaaGreatDoorPFnPathsx7
/- The walk of impl.scanInt. -/
namespace Go.Proofs.YtajcffchopcamaaGreatDoor
open Go.RowKit

end Go.Proofs.YtajcffchopcamaaGreatDoor

/- What Unframe answers, in plain mathematics; four bytes and the sum that they hold. -/
namespace Go.Proofs.YtajcffchopcamaaGreatDoor
open Go.RowKit

end Go.Proofs.YtajcffchopcamaaGreatDoor

/- Plain mathematics of pages: when they are right, what their bytes are, that they come back of them, and of them alone. -/
namespace Go.Proofs.YtajcffchopcamaaGreatDoor
open Go.RowKit

/-- The lists of these slots are not beyond any machine. -/
def Fit (ss : List SlotA) : Prop := ∀ s ∈ ss, s.v.o.ints.length ≤ 1099511627776 ∧ s.v.o.refs.length ≤ 1099511627776

def noS : SlotV := ⟨false, noO⟩
def slotB (s : SlotV) : Bool := if s.has then okB s.o else (decide (s.o.kind = 0) && (decide (s.o.ints.length = 0) && decide (s.o.refs.length = 0)))
theorem slotB_has {s : SlotV} (h : s.has = true) : slotB s = okB s.o := by unfold slotB; rw [if_pos h]
end Go.Proofs.YtajcffchopcamaaGreatDoor

/- Views: when one is right. -/
namespace Go.Proofs.YtajcffchopcamaaGreatDoor
open Go.RowKit

def viewB (vs : List SlotV) : Bool := decide (vs.length = 32) && (!(vs.getD 0 noS).has && vs.all slotB)
theorem viewB_len {vs : List SlotV} (h : vs.length ≠ 32) : viewB vs = false := by simp [viewB, h]
theorem viewB_zero {vs : List SlotV} (h : vs.length = 32) : viewB vs = (!(vs.getD 0 noS).has && vs.all slotB) := by simp [viewB, h]
def vsOf (ss : List SlotA) : List SlotV := ss.map SlotA.v
theorem vsOf_len (ss : List SlotA) : (vsOf ss).length = ss.length := by simp [vsOf]
theorem vsOf_at (ss : List SlotA) (k : Nat) : (vsOf ss).getD k noS = (ss.getD k zeroS).v := by
  by_cases h : k < ss.length
  · simp [vsOf, List.getD, h]
  · have h1 : ss[k]? = none := List.getElem?_eq_none (by omega)
    simp [vsOf, List.getD, h1, noS, zeroS, noO]
theorem Fit.one {ss : List SlotA} (h : Fit ss) {k : Nat} (hk : k < ss.length) : Fit [ss.getD k zeroS] := fun s hs => by
  rw [List.mem_singleton.1 hs]
  exact h _ (slotD_mem ss k hk)
end Go.Proofs.YtajcffchopcamaaGreatDoor

/- Marks by a stack of few places: the state, its steps, that they come to an end, and that what is marked is what is reached. -/
namespace Go.Proofs.YtajcffchopcamaaGreatDoor

def unseenM (S : List Bool) : Nat := S.count false
theorem unseenM_set : ∀ (S : List Bool) (n : Nat), n < S.length → S.getD n false = false → unseenM (S.set n true) + 1 = unseenM S := by
  intro S
  induction S with
  | nil => intro n h; simp at h
  | cons a r ih =>
    intro n h h0
    cases n with
    | zero =>
      have e : a = false := by simpa using h0
      subst e
      simp [unseenM]
    | succ n =>
      have h1 := ih n (by simpa using h) (by simpa using h0)
      simp only [unseenM, List.set_cons_succ, List.count_cons] at h1 ⊢
      omega
theorem unseenM_le (S : List Bool) : unseenM S ≤ S.length := List.count_le_length

structure MSt where
  met : List Bool
  stack : List Int
  left : Bool
  anew : Int

def hasM (vs : List SlotV) (r : Int) : Bool := (vs.getD r.toNat noS).has
def refsM (vs : List SlotV) (i : Int) : List Int := (vs.getD i.toNat noS).o.refs
def metM (S : List Bool) (r : Int) : Bool := S.getD r.toNat false
def missM (vs : List SlotV) (S : List Bool) (r : Int) : Bool := hasM vs r && !metM S r
def lackM (vs : List SlotV) (S : List Bool) (i : Int) : Bool := (refsM vs i).any (missM vs S)
def putM (most : Nat) (st : MSt) (x : Int) : MSt := if st.stack.length < most then ⟨st.met, st.stack ++ [x], st.left, st.anew⟩ else ⟨st.met, st.stack, true, st.anew⟩
def markM (most : Nat) (st : MSt) (x : Int) : MSt := putM most ⟨st.met.set x.toNat true, st.stack, st.left, st.anew⟩ x
def refM (vs : List SlotV) (most : Nat) (st : MSt) (r : Int) : MSt := if missM vs st.met r = true then markM most st r else st
def topM (st : MSt) : Int := st.stack.getLastD 0
def cutM (st : MSt) : MSt := ⟨st.met, st.stack.dropLast, st.left, st.anew⟩
def popM (vs : List SlotV) (most : Nat) (st : MSt) : MSt := (refsM vs (topM st)).foldl (refM vs most) (cutM st)
def drainM (vs : List SlotV) (most : Nat) : Nat → MSt → MSt
  | 0, st => st
  | n + 1, st => if st.stack = [] then st else drainM vs most n (popM vs most st)
def lookM (vs : List SlotV) (most : Nat) (st : MSt) (i : Nat) : MSt := if (metM st.met i && lackM vs st.met i) = true then putM most st i else st
def clearM (st : MSt) : MSt := ⟨st.met, st.stack, false, st.anew + 1⟩
def anewM (vs : List SlotV) (most : Nat) (st : MSt) : MSt := (List.range 32).foldl (lookM vs most) (clearM st)
def loopM (vs : List SlotV) (most : Nat) : Nat → MSt → MSt
  | 0, st => st
  | n + 1, st => if st.left = true then loopM vs most n (drainM vs most 72 (anewM vs most st)) else st
def emptyM : MSt := ⟨List.replicate 32 false, [], false, 0⟩
def firstM (vs : List SlotV) (most : Nat) (root : Int) : MSt := drainM vs most 72 (refM vs most emptyM root)
def runM (vs : List SlotV) (most : Nat) (root : Int) : MSt := loopM vs most 65 (firstM vs most root)

structure GoodM (most : Nat) (st : MSt) : Prop where
  len : st.met.length = 32
  room : st.stack.length ≤ most
  rng : ∀ x ∈ st.stack, 0 ≤ x ∧ x ≤ 31
def sizeM (st : MSt) : Nat := unseenM st.met + st.stack.length
def RngM (vs : List SlotV) : Prop := ∀ i, ∀ r ∈ refsM vs i, 0 ≤ r ∧ r ≤ 31
theorem GoodM.size {most : Nat} {st : MSt} (h : GoodM most st) (hm : most ≤ 40) : sizeM st ≤ 72 := by
  have := unseenM_le st.met
  have := h.len
  have := h.room
  unfold sizeM
  omega

theorem putM_met (most : Nat) (st : MSt) (x : Int) : (putM most st x).met = st.met := by unfold putM; split <;> rfl
theorem putM_anew (most : Nat) (st : MSt) (x : Int) : (putM most st x).anew = st.anew := by unfold putM; split <;> rfl
theorem putM_good {most : Nat} {st : MSt} (h : GoodM most st) {x : Int} (hx : 0 ≤ x ∧ x ≤ 31) : GoodM most (putM most st x) := by
  unfold putM
  split
  · rename_i hlt
    refine ⟨h.len, by simp; omega, fun y hy => ?_⟩
    rcases List.mem_append.1 hy with hy | hy
    · exact h.rng y hy
    · obtain rfl := List.mem_singleton.1 hy; exact hx
  · exact ⟨h.len, h.room, h.rng⟩
theorem putM_size (most : Nat) (st : MSt) (x : Int) : sizeM (putM most st x) ≤ sizeM st + 1 := by
  unfold putM sizeM
  split
  · simp; omega
  · simp
theorem missM_set {vs : List SlotV} {S : List Bool} {r : Int} (h : missM vs S r = true) : S.getD r.toNat false = false := by
  unfold missM metM at h
  simp only [Bool.and_eq_true, Bool.not_eq_true'] at h
  exact h.2
theorem refM_good {vs : List SlotV} {most : Nat} {st : MSt} (h : GoodM most st) {r : Int} (hr : 0 ≤ r ∧ r ≤ 31) : GoodM most (refM vs most st r) := by
  unfold refM
  split
  · refine putM_good (st := ⟨st.met.set r.toNat true, st.stack, st.left, st.anew⟩) ⟨?_, h.room, h.rng⟩ hr
    simp [h.len]
  · exact h
theorem refM_size {vs : List SlotV} {most : Nat} {st : MSt} (h : GoodM most st) {r : Int} (hr : 0 ≤ r ∧ r ≤ 31) : sizeM (refM vs most st r) ≤ sizeM st ∧ unseenM (refM vs most st r).met ≤ unseenM st.met ∧ (missM vs st.met r = true → unseenM (refM vs most st r).met < unseenM st.met) := by
  unfold refM
  split
  · rename_i hm
    have hs := unseenM_set st.met r.toNat (by rw [h.len]; omega) (missM_set hm)
    have hp := putM_size most ⟨st.met.set r.toNat true, st.stack, st.left, st.anew⟩ r
    unfold markM
    rw [putM_met]
    refine ⟨?_, by simp only; omega, fun _ => by simp only; omega⟩
    unfold sizeM at hp ⊢
    simp only at hp
    omega
  · rename_i hm
    exact ⟨Nat.le_refl _, Nat.le_refl _, fun h => absurd h hm⟩
theorem foldM_good {vs : List SlotV} {most : Nat} : ∀ (F : List Int) (st : MSt), GoodM most st → (∀ r ∈ F, 0 ≤ r ∧ r ≤ 31) → GoodM most (F.foldl (refM vs most) st) ∧ sizeM (F.foldl (refM vs most) st) ≤ sizeM st ∧ unseenM (F.foldl (refM vs most) st).met ≤ unseenM st.met ∧ (F.any (missM vs st.met) = true → unseenM (F.foldl (refM vs most) st).met < unseenM st.met) := by
  intro F
  induction F with
  | nil => intro st h _; exact ⟨h, Nat.le_refl _, Nat.le_refl _, fun h => by simp at h⟩
  | cons r F ih =>
    intro st h hr
    have h1 := refM_good (vs := vs) h (hr r (by simp))
    obtain ⟨h2, h3, h4⟩ := refM_size (vs := vs) h (hr r (by simp))
    obtain ⟨g, s, u, a⟩ := ih (refM vs most st r) h1 (fun x hx => hr x (by simp [hx]))
    refine ⟨g, Nat.le_trans s h2, Nat.le_trans u h3, fun hany => ?_⟩
    simp only [List.foldl_cons]
    by_cases hm : missM vs st.met r = true
    · exact Nat.lt_of_le_of_lt u (h4 hm)
    · have e : refM vs most st r = st := by unfold refM; rw [if_neg hm]
      rw [e] at a ⊢
      refine a ?_
      rw [List.any_cons] at hany
      simpa [hm] using hany
theorem topM_app (S : List Bool) (T : List Int) (x : Int) (l : Bool) (n : Int) : topM ⟨S, T ++ [x], l, n⟩ = x := by simp [topM]
theorem cutM_app (S : List Bool) (T : List Int) (x : Int) (l : Bool) (n : Int) : cutM ⟨S, T ++ [x], l, n⟩ = ⟨S, T, l, n⟩ := by simp [cutM]
theorem topM_mem {st : MSt} (h : st.stack ≠ []) : topM st ∈ st.stack := by
  unfold topM
  rw [List.getLastD_eq_getLast?, List.getLast?_eq_some_getLast h]
  exact List.getLast_mem h
theorem cutM_good {most : Nat} {st : MSt} (h : GoodM most st) : GoodM most (cutM st) := ⟨h.len, by have := h.room; simp [cutM]; omega, fun x hx => h.rng x (List.dropLast_subset _ hx)⟩
theorem cutM_size {st : MSt} (h : st.stack ≠ []) : sizeM (cutM st) + 1 = sizeM st := by
  have := List.length_pos_iff.2 h
  simp [sizeM, cutM]
  omega
theorem popM_good {vs : List SlotV} (hv : RngM vs) {most : Nat} {st : MSt} (h : GoodM most st) (hne : st.stack ≠ []) : GoodM most (popM vs most st) ∧ sizeM (popM vs most st) + 1 ≤ sizeM st ∧ unseenM (popM vs most st).met ≤ unseenM st.met ∧ (lackM vs st.met (topM st) = true → unseenM (popM vs most st).met < unseenM st.met) := by
  obtain ⟨g, s, u, a⟩ := foldM_good (vs := vs) (refsM vs (topM st)) (cutM st) (cutM_good h) (hv _)
  have := cutM_size hne
  exact ⟨g, by unfold popM; omega, u, a⟩
theorem drainM_good {vs : List SlotV} (hv : RngM vs) {most : Nat} : ∀ (n : Nat) (st : MSt), GoodM most st → sizeM st ≤ n → GoodM most (drainM vs most n st) ∧ (drainM vs most n st).stack = [] ∧ unseenM (drainM vs most n st).met ≤ unseenM st.met := by
  intro n
  induction n with
  | zero =>
    intro st h hs
    unfold sizeM at hs
    have e : st.stack = [] := List.length_eq_zero_iff.1 (by omega)
    exact ⟨h, e, Nat.le_refl _⟩
  | succ n ih =>
    intro st h hs
    unfold drainM
    split
    · rename_i e
      exact ⟨h, e, Nat.le_refl _⟩
    · rename_i e
      obtain ⟨g, s, u, _⟩ := popM_good hv h e
      obtain ⟨g2, e2, u2⟩ := ih _ g (by omega)
      exact ⟨g2, e2, Nat.le_trans u2 u⟩

/-- What looking through makes: marks are the same; who was put lacks something. -/
theorem lookM_fold {vs : List SlotV} {most : Nat} : ∀ (L : List Nat) (st : MSt), GoodM most st → (∀ i ∈ L, i < 32) → (L.foldl (lookM vs most) st).met = st.met ∧ (L.foldl (lookM vs most) st).anew = st.anew ∧ GoodM most (L.foldl (lookM vs most) st) := by
  intro L
  induction L with
  | nil => intro st h _; exact ⟨rfl, rfl, h⟩
  | cons i L ih =>
    intro st h hi
    have hi0 := hi i (by simp)
    have h1 : (lookM vs most st i).met = st.met ∧ (lookM vs most st i).anew = st.anew ∧ GoodM most (lookM vs most st i) := by
      unfold lookM
      split
      · exact ⟨putM_met _ _ _, putM_anew _ _ _, putM_good h (by omega)⟩
      · exact ⟨rfl, rfl, h⟩
    obtain ⟨a, b, c⟩ := ih (lookM vs most st i) h1.2.2 (fun j hj => hi j (by simp [hj]))
    exact ⟨a.trans h1.1, b.trans h1.2.1, c⟩
theorem anewM_good {vs : List SlotV} {most : Nat} {st : MSt} (h : GoodM most st) : (anewM vs most st).met = st.met ∧ (anewM vs most st).anew = st.anew + 1 ∧ GoodM most (anewM vs most st) := lookM_fold (List.range 32) (clearM st) ⟨h.len, h.room, h.rng⟩ (fun _ hi => List.mem_range.1 hi)
/-- Who stands on the stack lacks something; where somebody was left over, somebody stands there. -/
def LookI (vs : List SlotV) (st : MSt) : Prop := (∀ x ∈ st.stack, lackM vs st.met x = true) ∧ (st.left = true → st.stack ≠ [])
theorem lookM_inv {vs : List SlotV} {most : Nat} (hm : 1 ≤ most) : ∀ (L : List Nat) (st : MSt), LookI vs st → LookI vs (L.foldl (lookM vs most) st) := by
  intro L
  induction L with
  | nil => intro st h; exact h
  | cons i L ih =>
    intro st h
    refine ih _ ?_
    unfold lookM
    split
    · rename_i hl
      simp only [Bool.and_eq_true] at hl
      unfold putM
      split
      · refine ⟨fun x hx => ?_, fun _ => by simp⟩
        rcases List.mem_append.1 hx with hx | hx
        · exact h.1 x hx
        · obtain rfl := List.mem_singleton.1 hx; exact hl.2
      · rename_i hn
        exact ⟨h.1, fun _ e => by simp only at e; rw [e] at hn; simp at hn; omega⟩
    · exact h
def restM (st : MSt) : Nat := 2 * unseenM st.met + (if st.left = true then 1 else 0)
/-- Each time the view is looked through anew, less is to be done. -/
theorem loopM_less {vs : List SlotV} (hv : RngM vs) {most : Nat} (h1 : 1 ≤ most) (h40 : most ≤ 40) {st : MSt} (h : GoodM most st) (he : st.stack = []) (hl : st.left = true) : restM (drainM vs most 72 (anewM vs most st)) < restM st := by
  obtain ⟨hm, _, hg⟩ := anewM_good (vs := vs) h
  have hI : LookI vs (anewM vs most st) := lookM_inv h1 _ _ ⟨fun x hx => by simp only [clearM] at hx; rw [he] at hx; simp at hx, fun h => by simp [clearM] at h⟩
  have hs := hg.size h40
  have hst : restM st = 2 * unseenM st.met + 1 := by unfold restM; rw [if_pos hl]
  rw [hst]
  by_cases hne : (anewM vs most st).stack = []
  · have hl2 : (anewM vs most st).left = false := by
      cases hb : (anewM vs most st).left
      · rfl
      · exact absurd hne (hI.2 hb)
    have e : drainM vs most 72 (anewM vs most st) = anewM vs most st := by
      unfold drainM
      rw [if_pos hne]
    rw [e]
    unfold restM
    rw [hl2, hm]
    simp
  · have e : drainM vs most 72 (anewM vs most st) = drainM vs most 71 (popM vs most (anewM vs most st)) := by
      conv => lhs; unfold drainM
      rw [if_neg hne]
    obtain ⟨g, s, _, a⟩ := popM_good hv hg hne
    have ha := a (hI.1 _ (topM_mem hne))
    obtain ⟨_, _, u⟩ := drainM_good hv 71 _ g (by omega)
    rw [e]
    rw [hm] at ha
    unfold restM
    split <;> omega
theorem refM_anew (vs : List SlotV) (most : Nat) (st : MSt) (r : Int) : (refM vs most st r).anew = st.anew := by
  unfold refM markM
  split
  · rw [putM_anew]
  · rfl
theorem foldM_anew (vs : List SlotV) (most : Nat) : ∀ (F : List Int) (st : MSt), (F.foldl (refM vs most) st).anew = st.anew := by
  intro F
  induction F with
  | nil => intro st; rfl
  | cons r F ih => intro st; rw [List.foldl_cons, ih, refM_anew]
theorem drainM_anew (vs : List SlotV) (most : Nat) : ∀ (n : Nat) (st : MSt), (drainM vs most n st).anew = st.anew := by
  intro n
  induction n with
  | zero => intro st; rfl
  | succ n ih =>
    intro st
    unfold drainM
    split
    · rfl
    · rw [ih, popM, foldM_anew]; rfl
theorem emptyM_good (most : Nat) : GoodM most emptyM := ⟨by simp [emptyM], by simp [emptyM], fun x hx => by simp [emptyM] at hx⟩
theorem firstM_good {vs : List SlotV} (hv : RngM vs) {most : Nat} (h40 : most ≤ 40) {root : Int} (hr : 0 ≤ root ∧ root ≤ 31) : GoodM most (firstM vs most root) ∧ (firstM vs most root).stack = [] := by
  have h1 := refM_good (vs := vs) (emptyM_good most) hr
  obtain ⟨a, b, _⟩ := drainM_good hv 72 _ h1 (h1.size h40)
  exact ⟨a, b⟩
theorem restM_le {most : Nat} {st : MSt} (h : GoodM most st) : restM st ≤ 65 := by
  have h1 := unseenM_le st.met
  rw [h.len] at h1
  unfold restM
  split <;> omega
theorem viewB_slot {vs : List SlotV} (h : viewB vs = true) (i : Nat) : slotB (vs.getD i noS) = true := by
  unfold viewB at h
  simp only [Bool.and_eq_true, decide_eq_true_eq] at h
  by_cases hi : i < vs.length
  · exact List.all_eq_true.1 h.2.2 (vs.getD i noS) (by simp [List.getD, hi])
  · have e : vs.getD i noS = noS := by simp [List.getD, List.getElem?_eq_none (by omega : vs.length ≤ i)]
    rw [e]
    rfl
theorem slotB_refs {s : SlotV} (h : slotB s = true) : s.o.refs.length ≤ 5 ∧ ∀ z ∈ s.o.refs, 0 ≤ z ∧ z ≤ 31 := by
  unfold slotB at h
  split at h
  · obtain ⟨_, _, h3, _, h5⟩ := okB_bd h
    exact ⟨h3, h5⟩
  · simp only [Bool.and_eq_true, decide_eq_true_eq] at h
    rw [List.length_eq_zero_iff.1 h.2.2]
    simp
theorem viewB_rng {vs : List SlotV} (h : viewB vs = true) : RngM vs := fun i => (slotB_refs (viewB_slot h i.toNat)).2
theorem viewB_refs {vs : List SlotV} (h : viewB vs = true) (i : Int) : (refsM vs i).length ≤ 5 := (slotB_refs (viewB_slot h i.toNat)).1
theorem viewB_len32 {vs : List SlotV} (h : viewB vs = true) : vs.length = 32 := by
  unfold viewB at h
  simp only [Bool.and_eq_true, decide_eq_true_eq] at h
  exact h.1
theorem viewB_none {vs : List SlotV} (h : viewB vs = true) : (vs.getD 0 noS).has = false := by
  unfold viewB at h
  simp only [Bool.and_eq_true, Bool.not_eq_true'] at h
  exact h.2.1

end Go.Proofs.YtajcffchopcamaaGreatDoor
