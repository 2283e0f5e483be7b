/- Several texts in one, in their order. -/
import Derived.Test.YtgbpnepipknjnaaDoorPFnGarbagex7
import Derived.Test.YtgbpnepipknjnaaDoorPFnGarbagex6
import Derived.Test.YtgbpnepipknjnaaDoorPFnGarbagex2
import Derived.Test.YtgbpnepipknjnaaDoorPFnGarbagex4
/- The walk of impl.scanInt. -/
namespace Go.Proofs.YtgbpnepipknjnaaDoor
open Go.RowKit

end Go.Proofs.YtgbpnepipknjnaaDoor

/- What Unframe answers, in plain mathematics; four bytes and the sum that they hold. -/
namespace Go.Proofs.YtgbpnepipknjnaaDoor
open Go.RowKit

end Go.Proofs.YtgbpnepipknjnaaDoor

/- Plain mathematics of pages: when they are right, what their bytes are, that they come back of them, and of them alone. -/
namespace Go.Proofs.YtgbpnepipknjnaaDoor
open Go.RowKit

/-- The lists of these slots are not beyond any machine. -/
def Fit (ss : List SlotA) : Prop := ∀ s ∈ ss, s.v.o.ints.length ≤ 1099511627776 ∧ s.v.o.refs.length ≤ 1099511627776

def noS : SlotV := ⟨false, noO⟩
def slotB (s : SlotV) : Bool := if s.has then okB s.o else (decide (s.o.kind = 0) && (decide (s.o.ints.length = 0) && decide (s.o.refs.length = 0)))
theorem slotB_has {s : SlotV} (h : s.has = true) : slotB s = okB s.o := by unfold slotB; rw [if_pos h]
theorem slotB_not {s : SlotV} (h : s.has = false) (hb : slotB s = true) : s = noS := by
  obtain ⟨b, k, i, r⟩ := s
  simp only at h
  subst h
  simp [slotB] at hb
  obtain ⟨rfl, rfl, rfl⟩ := hb
  rfl
end Go.Proofs.YtgbpnepipknjnaaDoor

/- Lists looked through from the front. -/
namespace Go.Proofs.YtgbpnepipknjnaaDoor

theorem take_step {α : Type} (ls : List α) (z : α) (k : Nat) (h : k < ls.length) : ls.take (k + 1) = ls.take k ++ [ls.getD k z] := by
  rw [List.take_succ_eq_append_getElem h]
  simp [List.getD, h]
theorem any_step {α : Type} {p : α → Bool} {ls : List α} {z : α} {k : Nat} (h : k < ls.length) (h0 : (ls.take k).any p = false) (h1 : p (ls.getD k z) = false) : (ls.take (k + 1)).any p = false := by
  rw [take_step ls z k h, List.any_append, h0, List.any_cons, h1]
  rfl
theorem any_hit {α : Type} {p : α → Bool} {ls : List α} {z : α} {k : Nat} (h : k < ls.length) (h1 : p (ls.getD k z) = true) : ls.any p = true := by
  rw [List.any_eq_true]
  exact ⟨ls.getD k z, by simp [List.getD, h], h1⟩
theorem any_end {α : Type} {p : α → Bool} {ls : List α} {k : Nat} (h : ¬ k < ls.length) (h0 : (ls.take k).any p = false) : ls.any p = false := by
  rwa [List.take_of_length_le (by omega)] at h0
theorem all_step {α : Type} {p : α → Bool} {ls : List α} {z : α} {k : Nat} (h : k < ls.length) (h0 : (ls.take k).all p = true) (h1 : p (ls.getD k z) = true) : (ls.take (k + 1)).all p = true := by
  rw [take_step ls z k h, List.all_append, h0, List.all_cons, h1]
  rfl
theorem all_hit {α : Type} {p : α → Bool} {ls : List α} {z : α} {k : Nat} (h : k < ls.length) (h1 : p (ls.getD k z) = false) : ls.all p = false := by
  rw [List.all_eq_false]
  exact ⟨ls.getD k z, by simp [List.getD, h], by rw [h1]; decide⟩
theorem all_end {α : Type} {p : α → Bool} {ls : List α} {k : Nat} (h : ¬ k < ls.length) (h0 : (ls.take k).all p = true) : ls.all p = true := by
  rwa [List.take_of_length_le (by omega)] at h0

/-- The first place of one that is so; -1, where there is none. -/
def placeZ {α : Type} (p : α → Bool) (ls : List α) : Int := match ls.findIdx? p with | some i => i | none => -1
theorem placeZ_hit {α : Type} {p : α → Bool} {ls : List α} {z : α} {k : Nat} (h : k < ls.length) (h0 : (ls.take k).any p = false) (h1 : p (ls.getD k z) = true) : placeZ p ls = k := by
  have e : ls.findIdx? p = some k := by
    rw [List.findIdx?_eq_some_iff_getElem]
    refine ⟨h, by simpa [List.getD, h] using h1, fun j hj => ?_⟩
    have := List.any_eq_false.1 h0 ls[j] (by rw [List.mem_take_iff_getElem]; exact ⟨j, by omega, rfl⟩)
    simpa using this
  rw [placeZ, e]
theorem placeZ_none {α : Type} {p : α → Bool} {ls : List α} (h : ls.any p = false) : placeZ p ls = -1 := by
  have e : ls.findIdx? p = none := by
    rw [List.findIdx?_eq_none_iff]
    intro x hx
    have := List.any_eq_false.1 h x hx
    simpa using this
  rw [placeZ, e]
theorem placeZ_end {α : Type} {p : α → Bool} {ls : List α} {k : Nat} (h : ¬ k < ls.length) (h0 : (ls.take k).any p = false) : placeZ p ls = -1 := placeZ_none (any_end h h0)
theorem placeZ_neg {α : Type} (p : α → Bool) (ls : List α) : 0 ≤ placeZ p ls ↔ ls.any p = true := by
  constructor
  · intro h
    cases e : ls.any p
    · rw [placeZ_none e] at h; omega
    · rfl
  · intro h
    cases e : ls.findIdx? p with
    | none =>
      rw [List.findIdx?_eq_none_iff] at e
      obtain ⟨x, hx, hp⟩ := List.any_eq_true.1 h
      rw [e x hx] at hp; cases hp
    | some i => rw [placeZ, e]; simp
end Go.Proofs.YtgbpnepipknjnaaDoor

/- Views: when one is right. -/
namespace Go.Proofs.YtgbpnepipknjnaaDoor
open Go.RowKit

def viewB (vs : List SlotV) : Bool := decide (vs.length = 32) && (!(vs.getD 0 noS).has && vs.all slotB)
theorem viewB_len {vs : List SlotV} (h : vs.length ≠ 32) : viewB vs = false := by simp [viewB, h]
theorem viewB_zero {vs : List SlotV} (h : vs.length = 32) : viewB vs = (!(vs.getD 0 noS).has && vs.all slotB) := by simp [viewB, h]
def vsOf (ss : List SlotA) : List SlotV := ss.map SlotA.v
theorem vsOf_len (ss : List SlotA) : (vsOf ss).length = ss.length := by simp [vsOf]
theorem vsOf_at (ss : List SlotA) (k : Nat) : (vsOf ss).getD k noS = (ss.getD k zeroS).v := by
  by_cases h : k < ss.length
  · simp [vsOf, List.getD, h]
  · have h1 : ss[k]? = none := List.getElem?_eq_none (by omega)
    simp [vsOf, List.getD, h1, noS, zeroS, noO]
theorem Fit.one {ss : List SlotA} (h : Fit ss) {k : Nat} (hk : k < ss.length) : Fit [ss.getD k zeroS] := fun s hs => by
  rw [List.mem_singleton.1 hs]
  exact h _ (slotD_mem ss k hk)
end Go.Proofs.YtgbpnepipknjnaaDoor

/- Marks by a stack of few places: the state, its steps, that they come to an end, and that what is marked is what is reached. -/
namespace Go.Proofs.YtgbpnepipknjnaaDoor

def unseenM (S : List Bool) : Nat := S.count false
theorem unseenM_set : ∀ (S : List Bool) (n : Nat), n < S.length → S.getD n false = false → unseenM (S.set n true) + 1 = unseenM S := by
  intro S
  induction S with
  | nil => intro n h; simp at h
  | cons a r ih =>
    intro n h h0
    cases n with
    | zero =>
      have e : a = false := by simpa using h0
      subst e
      simp [unseenM]
    | succ n =>
      have h1 := ih n (by simpa using h) (by simpa using h0)
      simp only [unseenM, List.set_cons_succ, List.count_cons] at h1 ⊢
      omega
theorem unseenM_le (S : List Bool) : unseenM S ≤ S.length := List.count_le_length

structure MSt where
  met : List Bool
  stack : List Int
  left : Bool
  anew : Int

def hasM (vs : List SlotV) (r : Int) : Bool := (vs.getD r.toNat noS).has
def refsM (vs : List SlotV) (i : Int) : List Int := (vs.getD i.toNat noS).o.refs
def metM (S : List Bool) (r : Int) : Bool := S.getD r.toNat false
def missM (vs : List SlotV) (S : List Bool) (r : Int) : Bool := hasM vs r && !metM S r
def lackM (vs : List SlotV) (S : List Bool) (i : Int) : Bool := (refsM vs i).any (missM vs S)
def putM (most : Nat) (st : MSt) (x : Int) : MSt := if st.stack.length < most then ⟨st.met, st.stack ++ [x], st.left, st.anew⟩ else ⟨st.met, st.stack, true, st.anew⟩
def markM (most : Nat) (st : MSt) (x : Int) : MSt := putM most ⟨st.met.set x.toNat true, st.stack, st.left, st.anew⟩ x
def refM (vs : List SlotV) (most : Nat) (st : MSt) (r : Int) : MSt := if missM vs st.met r = true then markM most st r else st
def topM (st : MSt) : Int := st.stack.getLastD 0
def cutM (st : MSt) : MSt := ⟨st.met, st.stack.dropLast, st.left, st.anew⟩
def popM (vs : List SlotV) (most : Nat) (st : MSt) : MSt := (refsM vs (topM st)).foldl (refM vs most) (cutM st)
def drainM (vs : List SlotV) (most : Nat) : Nat → MSt → MSt
  | 0, st => st
  | n + 1, st => if st.stack = [] then st else drainM vs most n (popM vs most st)
def lookM (vs : List SlotV) (most : Nat) (st : MSt) (i : Nat) : MSt := if (metM st.met i && lackM vs st.met i) = true then putM most st i else st
def clearM (st : MSt) : MSt := ⟨st.met, st.stack, false, st.anew + 1⟩
def anewM (vs : List SlotV) (most : Nat) (st : MSt) : MSt := (List.range 32).foldl (lookM vs most) (clearM st)
def loopM (vs : List SlotV) (most : Nat) : Nat → MSt → MSt
  | 0, st => st
  | n + 1, st => if st.left = true then loopM vs most n (drainM vs most 72 (anewM vs most st)) else st
def emptyM : MSt := ⟨List.replicate 32 false, [], false, 0⟩
def firstM (vs : List SlotV) (most : Nat) (root : Int) : MSt := drainM vs most 72 (refM vs most emptyM root)
def runM (vs : List SlotV) (most : Nat) (root : Int) : MSt := loopM vs most 65 (firstM vs most root)

structure GoodM (most : Nat) (st : MSt) : Prop where
  len : st.met.length = 32
  room : st.stack.length ≤ most
  rng : ∀ x ∈ st.stack, 0 ≤ x ∧ x ≤ 31
def sizeM (st : MSt) : Nat := unseenM st.met + st.stack.length
def RngM (vs : List SlotV) : Prop := ∀ i, ∀ r ∈ refsM vs i, 0 ≤ r ∧ r ≤ 31
theorem GoodM.size {most : Nat} {st : MSt} (h : GoodM most st) (hm : most ≤ 40) : sizeM st ≤ 72 := by
  have := unseenM_le st.met
  have := h.len
  have := h.room
  unfold sizeM
  omega

theorem putM_met (most : Nat) (st : MSt) (x : Int) : (putM most st x).met = st.met := by unfold putM; split <;> rfl
theorem putM_anew (most : Nat) (st : MSt) (x : Int) : (putM most st x).anew = st.anew := by unfold putM; split <;> rfl
theorem putM_good {most : Nat} {st : MSt} (h : GoodM most st) {x : Int} (hx : 0 ≤ x ∧ x ≤ 31) : GoodM most (putM most st x) := by
  unfold putM
  split
  · rename_i hlt
    refine ⟨h.len, by simp; omega, fun y hy => ?_⟩
    rcases List.mem_append.1 hy with hy | hy
    · exact h.rng y hy
    · obtain rfl := List.mem_singleton.1 hy; exact hx
  · exact ⟨h.len, h.room, h.rng⟩
theorem putM_size (most : Nat) (st : MSt) (x : Int) : sizeM (putM most st x) ≤ sizeM st + 1 := by
  unfold putM sizeM
  split
  · simp; omega
  · simp
theorem missM_set {vs : List SlotV} {S : List Bool} {r : Int} (h : missM vs S r = true) : S.getD r.toNat false = false := by
  unfold missM metM at h
  simp only [Bool.and_eq_true, Bool.not_eq_true'] at h
  exact h.2
theorem refM_good {vs : List SlotV} {most : Nat} {st : MSt} (h : GoodM most st) {r : Int} (hr : 0 ≤ r ∧ r ≤ 31) : GoodM most (refM vs most st r) := by
  unfold refM
  split
  · refine putM_good (st := ⟨st.met.set r.toNat true, st.stack, st.left, st.anew⟩) ⟨?_, h.room, h.rng⟩ hr
    simp [h.len]
  · exact h
theorem refM_size {vs : List SlotV} {most : Nat} {st : MSt} (h : GoodM most st) {r : Int} (hr : 0 ≤ r ∧ r ≤ 31) : sizeM (refM vs most st r) ≤ sizeM st ∧ unseenM (refM vs most st r).met ≤ unseenM st.met ∧ (missM vs st.met r = true → unseenM (refM vs most st r).met < unseenM st.met) := by
  unfold refM
  split
  · rename_i hm
    have hs := unseenM_set st.met r.toNat (by rw [h.len]; omega) (missM_set hm)
    have hp := putM_size most ⟨st.met.set r.toNat true, st.stack, st.left, st.anew⟩ r
    unfold markM
    rw [putM_met]
    refine ⟨?_, by simp only; omega, fun _ => by simp only; omega⟩
    unfold sizeM at hp ⊢
    simp only at hp
    omega
  · rename_i hm
    exact ⟨Nat.le_refl _, Nat.le_refl _, fun h => absurd h hm⟩
theorem foldM_good {vs : List SlotV} {most : Nat} : ∀ (F : List Int) (st : MSt), GoodM most st → (∀ r ∈ F, 0 ≤ r ∧ r ≤ 31) → GoodM most (F.foldl (refM vs most) st) ∧ sizeM (F.foldl (refM vs most) st) ≤ sizeM st ∧ unseenM (F.foldl (refM vs most) st).met ≤ unseenM st.met ∧ (F.any (missM vs st.met) = true → unseenM (F.foldl (refM vs most) st).met < unseenM st.met) := by
  intro F
  induction F with
  | nil => intro st h _; exact ⟨h, Nat.le_refl _, Nat.le_refl _, fun h => by simp at h⟩
  | cons r F ih =>
    intro st h hr
    have h1 := refM_good (vs := vs) h (hr r (by simp))
    obtain ⟨h2, h3, h4⟩ := refM_size (vs := vs) h (hr r (by simp))
    obtain ⟨g, s, u, a⟩ := ih (refM vs most st r) h1 (fun x hx => hr x (by simp [hx]))
    refine ⟨g, Nat.le_trans s h2, Nat.le_trans u h3, fun hany => ?_⟩
    simp only [List.foldl_cons]
    by_cases hm : missM vs st.met r = true
    · exact Nat.lt_of_le_of_lt u (h4 hm)
    · have e : refM vs most st r = st := by unfold refM; rw [if_neg hm]
      rw [e] at a ⊢
      refine a ?_
      rw [List.any_cons] at hany
      simpa [hm] using hany
theorem topM_app (S : List Bool) (T : List Int) (x : Int) (l : Bool) (n : Int) : topM ⟨S, T ++ [x], l, n⟩ = x := by simp [topM]
theorem cutM_app (S : List Bool) (T : List Int) (x : Int) (l : Bool) (n : Int) : cutM ⟨S, T ++ [x], l, n⟩ = ⟨S, T, l, n⟩ := by simp [cutM]
theorem topM_mem {st : MSt} (h : st.stack ≠ []) : topM st ∈ st.stack := by
  unfold topM
  rw [List.getLastD_eq_getLast?, List.getLast?_eq_some_getLast h]
  exact List.getLast_mem h
theorem cutM_good {most : Nat} {st : MSt} (h : GoodM most st) : GoodM most (cutM st) := ⟨h.len, by have := h.room; simp [cutM]; omega, fun x hx => h.rng x (List.dropLast_subset _ hx)⟩
theorem cutM_size {st : MSt} (h : st.stack ≠ []) : sizeM (cutM st) + 1 = sizeM st := by
  have := List.length_pos_iff.2 h
  simp [sizeM, cutM]
  omega
theorem popM_good {vs : List SlotV} (hv : RngM vs) {most : Nat} {st : MSt} (h : GoodM most st) (hne : st.stack ≠ []) : GoodM most (popM vs most st) ∧ sizeM (popM vs most st) + 1 ≤ sizeM st ∧ unseenM (popM vs most st).met ≤ unseenM st.met ∧ (lackM vs st.met (topM st) = true → unseenM (popM vs most st).met < unseenM st.met) := by
  obtain ⟨g, s, u, a⟩ := foldM_good (vs := vs) (refsM vs (topM st)) (cutM st) (cutM_good h) (hv _)
  have := cutM_size hne
  exact ⟨g, by unfold popM; omega, u, a⟩
theorem drainM_good {vs : List SlotV} (hv : RngM vs) {most : Nat} : ∀ (n : Nat) (st : MSt), GoodM most st → sizeM st ≤ n → GoodM most (drainM vs most n st) ∧ (drainM vs most n st).stack = [] ∧ unseenM (drainM vs most n st).met ≤ unseenM st.met := by
  intro n
  induction n with
  | zero =>
    intro st h hs
    unfold sizeM at hs
    have e : st.stack = [] := List.length_eq_zero_iff.1 (by omega)
    exact ⟨h, e, Nat.le_refl _⟩
  | succ n ih =>
    intro st h hs
    unfold drainM
    split
    · rename_i e
      exact ⟨h, e, Nat.le_refl _⟩
    · rename_i e
      obtain ⟨g, s, u, _⟩ := popM_good hv h e
      obtain ⟨g2, e2, u2⟩ := ih _ g (by omega)
      exact ⟨g2, e2, Nat.le_trans u2 u⟩

/-- What looking through makes: marks are the same; who was put lacks something. -/
theorem lookM_fold {vs : List SlotV} {most : Nat} : ∀ (L : List Nat) (st : MSt), GoodM most st → (∀ i ∈ L, i < 32) → (L.foldl (lookM vs most) st).met = st.met ∧ (L.foldl (lookM vs most) st).anew = st.anew ∧ GoodM most (L.foldl (lookM vs most) st) := by
  intro L
  induction L with
  | nil => intro st h _; exact ⟨rfl, rfl, h⟩
  | cons i L ih =>
    intro st h hi
    have hi0 := hi i (by simp)
    have h1 : (lookM vs most st i).met = st.met ∧ (lookM vs most st i).anew = st.anew ∧ GoodM most (lookM vs most st i) := by
      unfold lookM
      split
      · exact ⟨putM_met _ _ _, putM_anew _ _ _, putM_good h (by omega)⟩
      · exact ⟨rfl, rfl, h⟩
    obtain ⟨a, b, c⟩ := ih (lookM vs most st i) h1.2.2 (fun j hj => hi j (by simp [hj]))
    exact ⟨a.trans h1.1, b.trans h1.2.1, c⟩
theorem anewM_good {vs : List SlotV} {most : Nat} {st : MSt} (h : GoodM most st) : (anewM vs most st).met = st.met ∧ (anewM vs most st).anew = st.anew + 1 ∧ GoodM most (anewM vs most st) := lookM_fold (List.range 32) (clearM st) ⟨h.len, h.room, h.rng⟩ (fun _ hi => List.mem_range.1 hi)
/-- Who stands on the stack lacks something; where somebody was left over, somebody stands there. -/
def LookI (vs : List SlotV) (st : MSt) : Prop := (∀ x ∈ st.stack, lackM vs st.met x = true) ∧ (st.left = true → st.stack ≠ [])
theorem lookM_inv {vs : List SlotV} {most : Nat} (hm : 1 ≤ most) : ∀ (L : List Nat) (st : MSt), LookI vs st → LookI vs (L.foldl (lookM vs most) st) := by
  intro L
  induction L with
  | nil => intro st h; exact h
  | cons i L ih =>
    intro st h
    refine ih _ ?_
    unfold lookM
    split
    · rename_i hl
      simp only [Bool.and_eq_true] at hl
      unfold putM
      split
      · refine ⟨fun x hx => ?_, fun _ => by simp⟩
        rcases List.mem_append.1 hx with hx | hx
        · exact h.1 x hx
        · obtain rfl := List.mem_singleton.1 hx; exact hl.2
      · rename_i hn
        exact ⟨h.1, fun _ e => by simp only at e; rw [e] at hn; simp at hn; omega⟩
    · exact h
def restM (st : MSt) : Nat := 2 * unseenM st.met + (if st.left = true then 1 else 0)
/-- Each time the view is looked through anew, less is to be done. -/
theorem loopM_less {vs : List SlotV} (hv : RngM vs) {most : Nat} (h1 : 1 ≤ most) (h40 : most ≤ 40) {st : MSt} (h : GoodM most st) (he : st.stack = []) (hl : st.left = true) : restM (drainM vs most 72 (anewM vs most st)) < restM st := by
  obtain ⟨hm, _, hg⟩ := anewM_good (vs := vs) h
  have hI : LookI vs (anewM vs most st) := lookM_inv h1 _ _ ⟨fun x hx => by simp only [clearM] at hx; rw [he] at hx; simp at hx, fun h => by simp [clearM] at h⟩
  have hs := hg.size h40
  have hst : restM st = 2 * unseenM st.met + 1 := by unfold restM; rw [if_pos hl]
  rw [hst]
  by_cases hne : (anewM vs most st).stack = []
  · have hl2 : (anewM vs most st).left = false := by
      cases hb : (anewM vs most st).left
      · rfl
      · exact absurd hne (hI.2 hb)
    have e : drainM vs most 72 (anewM vs most st) = anewM vs most st := by
      unfold drainM
      rw [if_pos hne]
    rw [e]
    unfold restM
    rw [hl2, hm]
    simp
  · have e : drainM vs most 72 (anewM vs most st) = drainM vs most 71 (popM vs most (anewM vs most st)) := by
      conv => lhs; unfold drainM
      rw [if_neg hne]
    obtain ⟨g, s, _, a⟩ := popM_good hv hg hne
    have ha := a (hI.1 _ (topM_mem hne))
    obtain ⟨_, _, u⟩ := drainM_good hv 71 _ g (by omega)
    rw [e]
    rw [hm] at ha
    unfold restM
    split <;> omega
theorem refM_anew (vs : List SlotV) (most : Nat) (st : MSt) (r : Int) : (refM vs most st r).anew = st.anew := by
  unfold refM markM
  split
  · rw [putM_anew]
  · rfl
theorem foldM_anew (vs : List SlotV) (most : Nat) : ∀ (F : List Int) (st : MSt), (F.foldl (refM vs most) st).anew = st.anew := by
  intro F
  induction F with
  | nil => intro st; rfl
  | cons r F ih => intro st; rw [List.foldl_cons, ih, refM_anew]
theorem drainM_anew (vs : List SlotV) (most : Nat) : ∀ (n : Nat) (st : MSt), (drainM vs most n st).anew = st.anew := by
  intro n
  induction n with
  | zero => intro st; rfl
  | succ n ih =>
    intro st
    unfold drainM
    split
    · rfl
    · rw [ih, popM, foldM_anew]; rfl
theorem emptyM_good (most : Nat) : GoodM most emptyM := ⟨by simp [emptyM], by simp [emptyM], fun x hx => by simp [emptyM] at hx⟩
theorem firstM_good {vs : List SlotV} (hv : RngM vs) {most : Nat} (h40 : most ≤ 40) {root : Int} (hr : 0 ≤ root ∧ root ≤ 31) : GoodM most (firstM vs most root) ∧ (firstM vs most root).stack = [] := by
  have h1 := refM_good (vs := vs) (emptyM_good most) hr
  obtain ⟨a, b, _⟩ := drainM_good hv 72 _ h1 (h1.size h40)
  exact ⟨a, b⟩
theorem restM_le {most : Nat} {st : MSt} (h : GoodM most st) : restM st ≤ 65 := by
  have h1 := unseenM_le st.met
  rw [h.len] at h1
  unfold restM
  split <;> omega
theorem viewB_slot {vs : List SlotV} (h : viewB vs = true) (i : Nat) : slotB (vs.getD i noS) = true := by
  unfold viewB at h
  simp only [Bool.and_eq_true, decide_eq_true_eq] at h
  by_cases hi : i < vs.length
  · exact List.all_eq_true.1 h.2.2 (vs.getD i noS) (by simp [List.getD, hi])
  · have e : vs.getD i noS = noS := by simp [List.getD, List.getElem?_eq_none (by omega : vs.length ≤ i)]
    rw [e]
    rfl
theorem slotB_refs {s : SlotV} (h : slotB s = true) : s.o.refs.length ≤ 5 ∧ ∀ z ∈ s.o.refs, 0 ≤ z ∧ z ≤ 31 := by
  unfold slotB at h
  split at h
  · obtain ⟨_, _, h3, _, h5⟩ := okB_bd h
    exact ⟨h3, h5⟩
  · simp only [Bool.and_eq_true, decide_eq_true_eq] at h
    rw [List.length_eq_zero_iff.1 h.2.2]
    simp
theorem viewB_rng {vs : List SlotV} (h : viewB vs = true) : RngM vs := fun i => (slotB_refs (viewB_slot h i.toNat)).2
theorem viewB_refs {vs : List SlotV} (h : viewB vs = true) (i : Int) : (refsM vs i).length ≤ 5 := (slotB_refs (viewB_slot h i.toNat)).1
theorem viewB_len32 {vs : List SlotV} (h : viewB vs = true) : vs.length = 32 := by
  unfold viewB at h
  simp only [Bool.and_eq_true, decide_eq_true_eq] at h
  exact h.1
theorem viewB_none {vs : List SlotV} (h : viewB vs = true) : (vs.getD 0 noS).has = false := by
  unfold viewB at h
  simp only [Bool.and_eq_true, Bool.not_eq_true'] at h
  exact h.2.1

end Go.Proofs.YtgbpnepipknjnaaDoor

/- What is marked is what is reached. -/
namespace Go.Proofs.YtgbpnepipknjnaaDoor

/-! ## What is reached -/
inductive ReachM (vs : List SlotV) (root : Int) : Int → Prop
  | root : hasM vs root = true → ReachM vs root root
  | step {i r : Int} : ReachM vs root i → r ∈ refsM vs i → hasM vs r = true → ReachM vs root r
theorem ReachM.has {vs : List SlotV} {root i : Int} (h : ReachM vs root i) : hasM vs i = true := by cases h <;> assumption
theorem ReachM.rng {vs : List SlotV} (hv : RngM vs) {root i : Int} (hr : 0 ≤ root ∧ root ≤ 31) (h : ReachM vs root i) : 0 ≤ i ∧ i ≤ 31 := by
  cases h with
  | root _ => exact hr
  | step _ h2 _ => exact hv _ _ h2
theorem metM_set {S : List Bool} {x i : Int} (hS : S.length = 32) (hx : 0 ≤ x ∧ x ≤ 31) (hi : 0 ≤ i) : metM (S.set x.toNat true) i = (metM S i || decide (i = x)) := by
  unfold metM
  by_cases e : i = x
  · subst e
    simp [List.getD, show i.toNat < S.length by omega]
  · have e2 : x.toNat ≠ i.toNat := by omega
    simp [List.getD, List.getElem?_set_ne e2, e]
/-- What stands of a state: marks are reached; who lacks something stands on the stack, or something was left over, or it is being looked at. -/
structure RchM (vs : List SlotV) (root : Int) (X : Int → Prop) (st : MSt) : Prop where
  base : hasM vs root = true → metM st.met root = true
  sound : ∀ i, 0 ≤ i → metM st.met i = true → ReachM vs root i
  stk : ∀ x ∈ st.stack, metM st.met x = true
  cover : ∀ i, 0 ≤ i → metM st.met i = true → lackM vs st.met i = true → i ∈ st.stack ∨ st.left = true ∨ X i
theorem lackM_mono {vs : List SlotV} {S S' : List Bool} {i : Int} (hS : ∀ r, 0 ≤ r → metM S r = true → metM S' r = true) (hv : RngM vs) (h : lackM vs S' i = true) : lackM vs S i = true := by
  unfold lackM at h ⊢
  rw [List.any_eq_true] at h ⊢
  obtain ⟨r, hr, hm⟩ := h
  refine ⟨r, hr, ?_⟩
  unfold missM at hm ⊢
  simp only [Bool.and_eq_true, Bool.not_eq_true'] at hm ⊢
  refine ⟨hm.1, ?_⟩
  cases e : metM S r
  · rfl
  · rw [hS r (hv _ _ hr).1 e] at hm
    exact absurd hm.2 (by decide)
theorem refM_rch {vs : List SlotV} (hv : RngM vs) {root : Int} (h0 : 0 ≤ root) {X : Int → Prop} {most : Nat} {st : MSt} (g : GoodM most st) (h : RchM vs root X st) {r : Int} (hr : 0 ≤ r ∧ r ≤ 31) (hre : hasM vs r = true → ReachM vs root r) : RchM vs root X (refM vs most st r) ∧ (∀ i, 0 ≤ i → metM st.met i = true → metM (refM vs most st r).met i = true) ∧ missM vs (refM vs most st r).met r = false := by
  unfold refM
  by_cases hm : missM vs st.met r = true
  · rw [if_pos hm]
    have hset : ∀ i, 0 ≤ i → metM (st.met.set r.toNat true) i = (metM st.met i || decide (i = r)) := fun i hi => metM_set g.len hr hi
    have hmono : ∀ i, 0 ≤ i → metM st.met i = true → metM (st.met.set r.toNat true) i = true := fun i hi h => by rw [hset i hi, h]; rfl
    have hrr : metM (st.met.set r.toNat true) r = true := by rw [hset r hr.1]; simp
    have hh : hasM vs r = true := by unfold missM at hm; simp only [Bool.and_eq_true] at hm; exact hm.1
    unfold markM
    refine ⟨⟨fun hh0 => by rw [putM_met]; exact hmono root h0 (h.base hh0), fun i hi hmi => ?_, fun x hx => ?_, fun i hi hmi hl => ?_⟩, fun i hi h => by rw [putM_met]; exact hmono i hi h, by rw [putM_met]; unfold missM; simp only; rw [hrr]; simp⟩
    · rw [putM_met] at hmi
      simp only at hmi
      rw [hset i hi] at hmi
      simp only [Bool.or_eq_true, decide_eq_true_eq] at hmi
      rcases hmi with h1 | rfl
      · exact h.sound i hi h1
      · exact hre hh
    · rw [putM_met]
      unfold putM at hx
      split at hx
      · rcases List.mem_append.1 hx with hx | hx
        · exact hmono x (g.rng x hx).1 (h.stk x hx)
        · obtain rfl := List.mem_singleton.1 hx; exact hrr
      · exact hmono x (g.rng x hx).1 (h.stk x hx)
    · rw [putM_met] at hmi hl
      simp only at hmi hl
      rw [hset i hi] at hmi
      simp only [Bool.or_eq_true, decide_eq_true_eq] at hmi
      unfold putM
      rcases hmi with h1 | rfl
      · rcases h.cover i hi h1 (lackM_mono hmono hv hl) with h2 | h2 | h2
        · split
          · exact .inl (List.mem_append.2 (.inl h2))
          · exact .inr (.inl rfl)
        · split
          · exact .inr (.inl h2)
          · exact .inr (.inl rfl)
        · exact .inr (.inr h2)
      · split
        · exact .inl (by simp)
        · exact .inr (.inl rfl)
  · rw [if_neg hm]
    exact ⟨h, fun _ _ h => h, by simpa using hm⟩
theorem foldM_rch {vs : List SlotV} (hv : RngM vs) {root : Int} (h0 : 0 ≤ root) {X : Int → Prop} {most : Nat} : ∀ (F : List Int) (st : MSt), GoodM most st → RchM vs root X st → (∀ r ∈ F, 0 ≤ r ∧ r ≤ 31) → (∀ r ∈ F, hasM vs r = true → ReachM vs root r) → RchM vs root X (F.foldl (refM vs most) st) ∧ (∀ i, 0 ≤ i → metM st.met i = true → metM (F.foldl (refM vs most) st).met i = true) ∧ ∀ r ∈ F, missM vs (F.foldl (refM vs most) st).met r = false := by
  intro F
  induction F with
  | nil => intro st _ h _ _; exact ⟨h, fun _ _ h => h, fun r hr => by simp at hr⟩
  | cons r F ih =>
    intro st g h hr hre
    obtain ⟨a, b, c⟩ := refM_rch hv h0 g h (hr r (by simp)) (hre r (by simp))
    obtain ⟨a2, b2, c2⟩ := ih _ (refM_good g (hr r (by simp))) a (fun x hx => hr x (by simp [hx])) (fun x hx => hre x (by simp [hx]))
    refine ⟨a2, fun i hi h => b2 i hi (b i hi h), fun x hx => ?_⟩
    rcases List.mem_cons.1 hx with rfl | hx
    · simp only [List.foldl_cons]
      unfold missM at c ⊢
      cases hh : hasM vs x
      · rfl
      · rw [hh] at c
        simp only [Bool.true_and, Bool.not_eq_false'] at c ⊢
        exact b2 x (hr x (by simp)).1 c
    · exact c2 x hx
theorem popM_rch {vs : List SlotV} (hv : RngM vs) {root : Int} (hp : 0 ≤ root) {most : Nat} {st : MSt} (g : GoodM most st) (h : RchM vs root (fun _ => False) st) (hne : st.stack ≠ []) : RchM vs root (fun _ => False) (popM vs most st) := by
  have hmem := topM_mem hne
  have hr0 := g.rng _ hmem
  have hreach := h.sound _ hr0.1 (h.stk _ hmem)
  have h0 : RchM vs root (fun i => i = topM st) (cutM st) := by
    refine ⟨h.base, h.sound, fun x hx => h.stk x (List.dropLast_subset _ hx), fun i hi hm hl => ?_⟩
    rcases h.cover i hi hm hl with h1 | h1 | h1
    · by_cases e : i = topM st
      · exact .inr (.inr e)
      · left
        have e2 : st.stack = st.stack.dropLast ++ [topM st] := by
          conv => lhs; rw [← List.dropLast_concat_getLast hne]
          rw [topM, List.getLastD_eq_getLast?, List.getLast?_eq_some_getLast hne]
          rfl
        rw [e2] at h1
        rcases List.mem_append.1 h1 with h1 | h1
        · exact h1
        · exact absurd (List.mem_singleton.1 h1) e
    · exact .inr (.inl h1)
    · exact absurd h1 id
  obtain ⟨a, _, c⟩ := foldM_rch hv hp (refsM vs (topM st)) (cutM st) (cutM_good g) h0 (hv _) (fun r hr hh => .step hreach hr hh)
  refine ⟨a.base, a.sound, a.stk, fun i hi hm hl => ?_⟩
  rcases a.cover i hi hm hl with h1 | h1 | h1
  · exact .inl h1
  · exact .inr (.inl h1)
  · exfalso
    rw [h1] at hl
    unfold lackM at hl
    rw [List.any_eq_true] at hl
    obtain ⟨r, hr, hx⟩ := hl
    have := c r hr
    unfold popM at hx
    rw [this] at hx
    cases hx
theorem drainM_rch {vs : List SlotV} (hv : RngM vs) {root : Int} (hp : 0 ≤ root) {most : Nat} : ∀ (n : Nat) (st : MSt), GoodM most st → RchM vs root (fun _ => False) st → RchM vs root (fun _ => False) (drainM vs most n st) := by
  intro n
  induction n with
  | zero => intro st _ h; exact h
  | succ n ih =>
    intro st g h
    unfold drainM
    split
    · exact h
    · rename_i e
      exact ih _ (popM_good hv g e).1 (popM_rch hv hp g h e)
theorem lookM_rch {vs : List SlotV} {most : Nat} (S : List Bool) : ∀ (L : List Nat) (st : MSt), st.met = S → (∀ x ∈ st.stack, metM S x = true) →
    (L.foldl (lookM vs most) st).met = S ∧ (∀ x ∈ (L.foldl (lookM vs most) st).stack, metM S x = true) ∧ (∀ x, x ∈ st.stack ∨ st.left = true → x ∈ (L.foldl (lookM vs most) st).stack ∨ (L.foldl (lookM vs most) st).left = true) ∧ ∀ i ∈ L, metM S (i : Int) = true → lackM vs S i = true → (i : Int) ∈ (L.foldl (lookM vs most) st).stack ∨ (L.foldl (lookM vs most) st).left = true := by
  intro L
  induction L with
  | nil => intro st h1 h2; exact ⟨h1, h2, fun x h => h, fun i hi => by simp at hi⟩
  | cons i L ih =>
    intro st h1 h2
    have key : (lookM vs most st i).met = S ∧ (∀ x ∈ (lookM vs most st i).stack, metM S x = true) ∧ (∀ x, x ∈ st.stack ∨ st.left = true → x ∈ (lookM vs most st i).stack ∨ (lookM vs most st i).left = true) ∧ (metM S (i : Int) = true → lackM vs S i = true → (i : Int) ∈ (lookM vs most st i).stack ∨ (lookM vs most st i).left = true) := by
      unfold lookM
      rw [h1]
      split
      · rename_i hc
        simp only [Bool.and_eq_true] at hc
        rw [putM_met]
        unfold putM
        split
        · refine ⟨h1, fun x hx => ?_, fun x hx => ?_, fun _ _ => .inl (by simp)⟩
          · rcases List.mem_append.1 hx with hx | hx
            · exact h2 x hx
            · obtain rfl := List.mem_singleton.1 hx; exact hc.1
          · rcases hx with hx | hx
            · exact .inl (List.mem_append.2 (.inl hx))
            · exact .inr hx
        · exact ⟨h1, h2, fun x hx => .inr rfl, fun _ _ => .inr rfl⟩
      · rename_i hc
        refine ⟨h1, h2, fun x hx => hx, fun ha hb => absurd ?_ hc⟩
        rw [ha, hb]
        rfl
    obtain ⟨k1, k2, k3, k4⟩ := key
    obtain ⟨a, b, c, d⟩ := ih (lookM vs most st i) k1 k2
    refine ⟨a, b, fun x hx => c x (k3 x hx), fun j hj hm hl => ?_⟩
    rcases List.mem_cons.1 hj with rfl | hj
    · exact c _ (k4 hm hl)
    · exact d j hj hm hl
theorem anewM_rch {vs : List SlotV} {root : Int} {most : Nat} {st : MSt} (g : GoodM most st) (h : RchM vs root (fun _ => False) st) : RchM vs root (fun _ => False) (anewM vs most st) := by
  obtain ⟨a, b, _, d⟩ := lookM_rch (vs := vs) (most := most) st.met (List.range 32) (clearM st) rfl h.stk
  refine ⟨fun hh => by rw [show (anewM vs most st).met = st.met from a]; exact h.base hh, fun i hi hm => h.sound i hi (by rw [← a]; exact hm), fun x hx => by rw [show (anewM vs most st).met = st.met from a]; exact b x hx, fun i hi hm hl => ?_⟩
  rw [show (anewM vs most st).met = st.met from a] at hm hl
  have hi32 : i.toNat < 32 := by
    unfold metM at hm
    rcases Nat.lt_or_ge i.toNat 32 with h0 | h0
    · exact h0
    · simp [List.getD, List.getElem?_eq_none (by rw [g.len]; exact h0 : st.met.length ≤ i.toNat)] at hm
  have e : ((i.toNat : Nat) : Int) = i := by omega
  have := d i.toNat (List.mem_range.2 hi32) (by rw [e]; exact hm) (by rw [e]; exact hl)
  rw [e] at this
  rcases this with h1 | h1
  · exact .inl h1
  · exact .inr (.inl h1)
theorem loopM_all {vs : List SlotV} (hv : RngM vs) {root : Int} (hp : 0 ≤ root) {most : Nat} (h1 : 1 ≤ most) (h40 : most ≤ 40) : ∀ (n : Nat) (st : MSt), GoodM most st → st.stack = [] → restM st ≤ n → RchM vs root (fun _ => False) st →
    GoodM most (loopM vs most n st) ∧ (loopM vs most n st).stack = [] ∧ (loopM vs most n st).left = false ∧ RchM vs root (fun _ => False) (loopM vs most n st) ∧ st.anew ≤ (loopM vs most n st).anew := by
  intro n
  induction n with
  | zero =>
    intro st g he hr h
    have hl : st.left = false := by
      cases e : st.left
      · rfl
      · unfold restM at hr; rw [if_pos e] at hr; omega
    exact ⟨g, he, hl, h, Int.le_refl _⟩
  | succ n ih =>
    intro st g he hr h
    unfold loopM
    split
    · rename_i hl
      have hless := loopM_less hv h1 h40 g he hl
      obtain ⟨_, ha, hg⟩ := anewM_good (vs := vs) g
      obtain ⟨g2, e2, _⟩ := drainM_good hv 72 _ hg (hg.size h40)
      have r2 := drainM_rch hv hp 72 _ hg (anewM_rch g h)
      obtain ⟨a, b, c, d, e⟩ := ih _ g2 e2 (by omega) r2
      rw [drainM_anew, ha] at e
      exact ⟨a, b, c, d, by omega⟩
    · rename_i hl
      exact ⟨g, he, by simpa using hl, h, Int.le_refl _⟩
theorem metM_empty (i : Int) : metM emptyM.met i = false := by
  unfold metM emptyM
  simp only [List.getD, List.getElem?_replicate]
  split <;> rfl
theorem start_rch {vs : List SlotV} {most : Nat} (h1 : 1 ≤ most) {root : Int} (hr : 0 ≤ root ∧ root ≤ 31) : RchM vs root (fun _ => False) (refM vs most emptyM root) := by
  unfold refM
  split
  · rename_i hm
    have hh : hasM vs root = true := by unfold missM at hm; simp only [Bool.and_eq_true] at hm; exact hm.1
    have e : markM most emptyM root = ⟨emptyM.met.set root.toNat true, [root], false, 0⟩ := by
      unfold markM putM
      rw [if_pos (by simp [emptyM]; omega)]
      rfl
    have hset : ∀ i, 0 ≤ i → metM (emptyM.met.set root.toNat true) i = decide (i = root) := fun i hi => by rw [metM_set (by simp [emptyM]) hr hi, metM_empty, Bool.false_or]
    rw [e]
    refine ⟨fun _ => by rw [hset root hr.1]; simp, fun i hi hmi => ?_, fun x hx => ?_, fun i hi hmi _ => ?_⟩
    · rw [hset i hi] at hmi
      rw [of_decide_eq_true hmi]
      exact .root hh
    · rw [List.mem_singleton.1 hx, hset root hr.1]
      simp
    · rw [hset i hi] at hmi
      exact .inl (List.mem_singleton.2 (of_decide_eq_true hmi))
  · rename_i hm
    refine ⟨fun hh => absurd ?_ hm, fun i _ h => ?_, fun x hx => by simp [emptyM] at hx, fun i _ h => ?_⟩
    · unfold missM
      rw [hh, metM_empty]
      rfl
    · rw [metM_empty] at h; cases h
    · rw [metM_empty] at h; cases h
theorem rch_end {vs : List SlotV} (hv : RngM vs) {root : Int} (hr : 0 ≤ root ∧ root ≤ 31) {st : MSt} (h : RchM vs root (fun _ => False) st) (he : st.stack = []) (hl : st.left = false) : ∀ i, 0 ≤ i → (metM st.met i = true ↔ ReachM vs root i) := by
  intro i hi
  refine ⟨h.sound i hi, fun hre => ?_⟩
  clear hi
  induction hre with
  | root hh => exact h.base hh
  | step h1 h2 h3 ih =>
    rename_i i r
    have hi := h1.rng hv hr
    cases hm : metM st.met r
    · exfalso
      have hlk : lackM vs st.met i = true := by
        unfold lackM
        rw [List.any_eq_true]
        exact ⟨r, h2, by unfold missM; rw [h3, hm]; rfl⟩
      rcases h.cover i hi.1 ih hlk with h4 | h4 | h4
      · rw [he] at h4; simp at h4
      · rw [hl] at h4; cases h4
      · exact h4
    · rfl
/-- What the marks are, whatever room the stack has. -/
theorem runM_reach {vs : List SlotV} (hv : RngM vs) {most : Nat} (h1 : 1 ≤ most) (h40 : most ≤ 40) {root : Int} (hr : 0 ≤ root ∧ root ≤ 31) : (runM vs most root).met.length = 32 ∧ 0 ≤ (runM vs most root).anew ∧ ∀ i, 0 ≤ i → (metM (runM vs most root).met i = true ↔ ReachM vs root i) := by
  obtain ⟨g, e⟩ := firstM_good hv h40 hr
  have g0 := refM_good (vs := vs) (emptyM_good most) hr
  have r := drainM_rch hv hr.1 72 _ g0 (start_rch h1 hr)
  obtain ⟨a, b, c, d, f⟩ := loopM_all hv hr.1 h1 h40 65 _ g e (restM_le g) r
  refine ⟨a.len, ?_, rch_end hv hr d b c⟩
  rw [firstM, drainM_anew, refM_anew] at f
  exact f
end Go.Proofs.YtgbpnepipknjnaaDoor
