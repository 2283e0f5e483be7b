/- Several texts in one, in their order. -/
import Derived.Test.YtickiokdcbeefabDoorPVictimx8
import Derived.Test.YtickiokdcbeefabDoorPVictimx9
import Derived.Test.YtickiokdcbeefabDoorPVictimx2
import Derived.Test.YtickiokdcbeefabDoorPVictimx5
import Derived.Test.YtickiokdcbeefabDoorPVictimx6
import Derived.Deep.QuietTactic
import Derived.BigQuiet
import Derived.Test.YtickiokdcbeefabDoorPVictimx4
/- Plain mathematics of pages: when they are right, what their bytes are, that they come back of them, and of them alone. -/
namespace Go.Proofs.YtickiokdcbeefabDoor
open Go.RowKit

/-- The lists of these slots are not beyond any machine. -/
def Fit (ss : List SlotA) : Prop := ∀ s ∈ ss, s.v.o.ints.length ≤ 1099511627776 ∧ s.v.o.refs.length ≤ 1099511627776

def noS : SlotV := ⟨false, noO⟩
def slotB (s : SlotV) : Bool := if s.has then okB s.o else (decide (s.o.kind = 0) && (decide (s.o.ints.length = 0) && decide (s.o.refs.length = 0)))
def okP (n : Int) (vs : List SlotV) : Bool := vs.all slotB && inB n 0 1000000
def putSlotOf (s : SlotV) : List Int := if s.has then putOf (putObjOf s.o).length ++ putObjOf s.o else putOf 0
def bodyOf (n : Int) (vs : List SlotV) : List Int := putOf n ++ vs.flatMap putSlotOf
def putPageOf (n : Int) (vs : List SlotV) : List Int := if okP n vs then frameOf (bodyOf n vs) else []

theorem slotB_has {s : SlotV} (h : s.has = true) : slotB s = okB s.o := by unfold slotB; rw [if_pos h]
theorem slotB_not {s : SlotV} (h : s.has = false) (hb : slotB s = true) : s = noS := by
  obtain ⟨b, k, i, r⟩ := s
  simp only at h
  subst h
  simp [slotB] at hb
  obtain ⟨rfl, rfl, rfl⟩ := hb
  rfl
theorem slotB_no : slotB noS = true := by rfl
theorem okB_no : okB noO = false := by rfl
theorem put_no : putObjOf noO = [] := by rfl
/-- One form for both: a slot that has nothing has no bytes, and that is told. -/
theorem putSlot_one {s : SlotV} (h : slotB s = true) : putSlotOf s = putOf (putObjOf s.o).length ++ putObjOf s.o := by
  unfold putSlotOf
  split
  · rfl
  · rename_i hh
    have e := slotB_not (by simpa using hh) h
    rw [e]
    simp [noS, put_no]

theorem putObj_len (o : ObjV) : (putObjOf o).length ≤ 1000 := by
  unfold putObjOf
  split
  · rename_i h
    obtain ⟨_, h5, h6, _, _⟩ := okB_bd h
    have h1 := putList_len o.ints
    have h2 := putList_len o.refs
    have h3 := (putOf_len o.kind).2
    rw [List.length_append, List.length_append]
    omega
  · simp
theorem putObj_byte (o : ObjV) : Bytes (putObjOf o) := by
  intro z hz
  unfold putObjOf at hz
  split at hz
  · simp only [putList, List.mem_append, List.mem_flatMap] at hz
    rcases hz with (h | h | ⟨x, _, h⟩) | h | ⟨x, _, h⟩ <;> exact putOf_byte _ z h
  · simp at hz
theorem putSlot_len (s : SlotV) : (putSlotOf s).length ≤ 1065 := by
  unfold putSlotOf
  have h1 := putObj_len s.o
  have h2 := (putOf_len ((putObjOf s.o).length : Int)).2
  have h3 := (putOf_len 0).2
  split
  · rw [List.length_append]; omega
  · omega
theorem putSlot_byte (s : SlotV) : Bytes (putSlotOf s) := by
  intro z hz
  unfold putSlotOf at hz
  split at hz
  · rcases List.mem_append.1 hz with h | h
    · exact putOf_byte _ z h
    · exact putObj_byte _ z h
  · exact putOf_byte _ z hz
theorem flatS_len (vs : List SlotV) : (vs.flatMap putSlotOf).length ≤ vs.length * 1065 := by
  induction vs with
  | nil => simp
  | cons s r ih => have := putSlot_len s; simp only [List.flatMap_cons, List.length_append, List.length_cons]; omega
theorem flatS_byte (vs : List SlotV) : Bytes (vs.flatMap putSlotOf) := by
  intro z hz
  obtain ⟨s, _, h⟩ := List.mem_flatMap.1 hz
  exact putSlot_byte s z h
theorem body_byte (n : Int) (vs : List SlotV) : Bytes (bodyOf n vs) := by
  intro z hz
  rcases List.mem_append.1 hz with h | h
  · exact putOf_byte _ z h
  · exact flatS_byte _ z h
theorem body_len (n : Int) (vs : List SlotV) : (bodyOf n vs).length ≤ 65 + vs.length * 1065 := by
  have h1 := (putOf_len n).2
  have h2 := flatS_len vs
  rw [bodyOf, List.length_append]; omega

/-- A frame comes back, alone. -/
theorem frame_back (y : List Int) (h : y.length ≤ 1000000) : unfOf (frameOf y) 0 = (y, ((frameOf y).length : Int), 0) := by
  have hc : clampI (y.length : Int) = y.length := by unfold clampI; rw [if_neg (by omega), if_neg (by omega)]
  have h4 : (four (crcOf y)).length = 4 := by simp [four, fourTo]
  have hg : getAt (frameOf y) 0 = some ((y.length : Int), (putOf y.length).length) := by
    have := back_int [] (y ++ four (crcOf y)) (y.length : Int)
    rw [hc] at this
    simpa [frameOf] using this
  have hl : (frameOf y).length = (putOf y.length).length + y.length + 4 := by simp only [frameOf, List.length_append, h4]
  have hd : (frameOf y).drop (putOf y.length).length = y ++ four (crcOf y) := by rw [frameOf, List.append_assoc, List.drop_left]
  have hd2 : (frameOf y).drop ((putOf y.length).length + y.length) = four (crcOf y) := by rw [frameOf, ← List.length_append, List.drop_left]
  rw [unf_good _ 0 y.length _ hg (by rw [hl]; omega) (by rw [hd, hd2, List.take_left, List.take_of_length_le (by omega)]), hd, List.take_left, hl]
  simp only [Prod.mk.injEq, true_and, and_true]
  omega
/-- What is a frame to its end is the frame of its body. -/
theorem frame_canon (zs : List Int) (hb : Bytes zs) (body : List Int) (h : unfOf zs 0 = (body, (zs.length : Int), 0)) : zs = frameOf body := by
  unfold unfOf at h
  cases hg : getAt zs 0 with
  | none =>
    rw [hg] at h
    simp only [Prod.mk.injEq] at h
    have h0 : zs = [] := List.length_eq_zero_iff.1 (by omega)
    subst h0
    exact absurd h.2.2 (by decide)
  | some r =>
    obtain ⟨n, q⟩ := r
    rw [hg] at h
    simp only at h
    obtain ⟨hd, h1, h2⟩ := getAt_canon zs hb 0 n q hg
    rw [List.drop_zero] at hd
    split at h
    · simp only [Prod.mk.injEq] at h; omega
    · split at h
      · simp only [Prod.mk.injEq] at h; omega
      · split at h
        · rename_i ha hb2 hc
          simp only [Prod.mk.injEq, and_true] at h
          obtain ⟨h3, h5⟩ := h
          obtain ⟨m, rfl⟩ : ∃ m : Nat, n = (m : Int) := ⟨n.toNat, by omega⟩
          rw [Int.toNat_natCast] at h3 hc
          have hbl : body.length = m := by rw [← h3, List.length_take, List.length_drop]; omega
          have hr : (zs.drop (q + m)).take 4 = zs.drop (q + m) := List.take_of_length_le (by rw [List.length_drop]; omega)
          rw [hr, h3] at hc
          unfold frameOf
          rw [hbl, ← hc, List.append_assoc]
          conv => lhs; rw [hd]
          congr 1
          rw [← h3, ← List.drop_drop, List.take_append_drop]
        · simp only [Prod.mk.injEq] at h; omega

/-- What a slot is at a place, and the place behind it. -/
def slotAt (zs : List Int) (p : Nat) : Option (SlotV × Nat) := match getAt zs (p : Int) with
  | none => none
  | some (n, q) => if n < 0 ∨ (zs.length : Int) - (q : Int) < n then none else
    if n = 0 then some (noS, q) else
    if (getPair ((zs.drop q).take n.toNat)).2 then some (⟨true, (getPair ((zs.drop q).take n.toNat)).1⟩, q + n.toNat) else none
def slotsAt (zs : List Int) : Nat → Nat → Option (List SlotV × Nat)
  | 0, p => some ([], p)
  | k + 1, p => match slotAt zs p with
    | none => none
    | some (s, q) => match slotsAt zs k q with
      | none => none
      | some (l, r) => some (s :: l, r)
def readP (zs : List Int) : Option (Int × List SlotV) := match getAt zs 0 with
  | none => none
  | some (n, p) => match slotsAt zs 4 p with
    | none => none
    | some (l, q) => if q = zs.length then some (n, l) else none

theorem getPair_true {zs : List Int} (h : (getPair zs).2 = true) : okB (getPair zs).1 = true ∧ putObjOf (getPair zs).1 = zs := by
  unfold getPair at h ⊢
  cases hg : getO zs with
  | none => rw [hg] at h; cases h
  | some o =>
    simp only
    refine ⟨getO_ok hg, ?_⟩
    unfold getO at hg
    split at hg
    · rename_i hh
      simp only [Option.some.injEq] at hg
      rw [← hg]; exact hh.2.2
    · cases hg
theorem getPair_put {o : ObjV} (h : okB o = true) : getPair (putObjOf o) = (o, true) := by unfold getPair; rw [getO_some h rfl]
theorem getPair_false {zs : List Int} (h : (getPair zs).2 = false) : (getPair zs).1 = noO := by
  unfold getPair at h ⊢
  cases hg : getO zs with
  | none => rfl
  | some o => rw [hg] at h; cases h

theorem slotAt_canon (zs : List Int) (hb : Bytes zs) (p : Nat) (s : SlotV) (q : Nat) (h : slotAt zs p = some (s, q)) : slotB s = true ∧ zs.drop p = putSlotOf s ++ zs.drop q ∧ q ≤ zs.length := by
  unfold slotAt at h
  cases hg : getAt zs (p : Int) with
  | none => rw [hg] at h; cases h
  | some r =>
    obtain ⟨n, q1⟩ := r
    rw [hg] at h
    simp only at h
    obtain ⟨hd, h1, h2⟩ := getAt_canon zs hb p n q1 hg
    split at h
    · cases h
    · split at h
      · rename_i hn
        simp only [Option.some.injEq, Prod.mk.injEq] at h
        obtain ⟨rfl, rfl⟩ := h
        subst hn
        exact ⟨slotB_no, by simpa [putSlotOf, noS] using hd, h2⟩
      · split at h
        · rename_i hn hz hp
          simp only [Option.some.injEq, Prod.mk.injEq] at h
          obtain ⟨rfl, rfl⟩ := h
          obtain ⟨g1, g2⟩ := getPair_true hp
          obtain ⟨m, rfl⟩ : ∃ m : Nat, n = (m : Int) := ⟨n.toNat, by omega⟩
          rw [Int.toNat_natCast] at *
          have hl : ((zs.drop q1).take m).length = m := by rw [List.length_take, List.length_drop]; omega
          refine ⟨by rw [slotB_has rfl]; exact g1, ?_, by omega⟩
          rw [hd]
          unfold putSlotOf
          rw [if_pos rfl]
          simp only
          rw [g2, hl, List.append_assoc]
          congr 1
          rw [← List.drop_drop, List.take_append_drop]
        · cases h
theorem slotsAt_canon (zs : List Int) (hb : Bytes zs) (k : Nat) : ∀ (p : Nat) (l : List SlotV) (q : Nat), slotsAt zs k p = some (l, q) → p ≤ zs.length → l.length = k ∧ zs.drop p = l.flatMap putSlotOf ++ zs.drop q ∧ q ≤ zs.length := by
  induction k with
  | zero =>
    intro p l q h hp
    simp only [slotsAt, Option.some.injEq, Prod.mk.injEq] at h
    obtain ⟨rfl, rfl⟩ := h
    exact ⟨rfl, by simp, hp⟩
  | succ k ih =>
    intro p l q h hp
    unfold slotsAt at h
    cases hg : slotAt zs p with
    | none => rw [hg] at h; cases h
    | some r =>
      obtain ⟨x, q1⟩ := r
      rw [hg] at h
      simp only at h
      obtain ⟨_, hd, h2⟩ := slotAt_canon zs hb p x q1 hg
      cases hn : slotsAt zs k q1 with
      | none => rw [hn] at h; cases h
      | some t =>
        obtain ⟨l1, q2⟩ := t
        rw [hn] at h
        simp only [Option.some.injEq, Prod.mk.injEq] at h
        obtain ⟨rfl, rfl⟩ := h
        obtain ⟨hl, hd2, h3⟩ := ih q1 l1 q2 hn h2
        exact ⟨by simp [hl], by rw [hd, hd2]; simp, h3⟩
theorem readP_canon (zs : List Int) (hb : Bytes zs) (n : Int) (l : List SlotV) (h : readP zs = some (n, l)) : zs = bodyOf n l ∧ l.length = 4 := by
  unfold readP at h
  cases hg : getAt zs 0 with
  | none => rw [hg] at h; cases h
  | some r =>
    obtain ⟨m, p⟩ := r
    rw [hg] at h
    simp only at h
    obtain ⟨hd, h1, h2⟩ := getAt_canon zs hb 0 m p hg
    rw [List.drop_zero] at hd
    cases hs : slotsAt zs 4 p with
    | none => rw [hs] at h; cases h
    | some t =>
      obtain ⟨l1, q⟩ := t
      rw [hs] at h
      simp only at h
      obtain ⟨hl, hd2, h3⟩ := slotsAt_canon zs hb 4 p l1 q hs h2
      split at h
      · rename_i hq
        simp only [Option.some.injEq, Prod.mk.injEq] at h
        obtain ⟨rfl, rfl⟩ := h
        refine ⟨?_, hl⟩
        conv => lhs; rw [hd, hd2, hq, List.drop_length]
        simp [bodyOf]
      · cases h

theorem slotAt_back (pre rest : List Int) (s : SlotV) (h : slotB s = true) : slotAt (pre ++ putSlotOf s ++ rest) pre.length = some (s, (pre ++ putSlotOf s).length) := by
  have hl := putObj_len s.o
  rw [putSlot_one h]
  have e : pre ++ (putOf (putObjOf s.o).length ++ putObjOf s.o) ++ rest = pre ++ putOf (putObjOf s.o).length ++ (putObjOf s.o ++ rest) := by simp
  have hn := getAt_back pre (putObjOf s.o ++ rest) ((putObjOf s.o).length : Int) (by omega)
  rw [← e] at hn
  unfold slotAt
  rw [hn]
  simp only
  have hd : (pre ++ (putOf (putObjOf s.o).length ++ putObjOf s.o) ++ rest).drop (pre ++ putOf (putObjOf s.o).length).length = putObjOf s.o ++ rest := by rw [e, List.drop_left]
  rw [if_neg (by simp only [List.length_append]; omega), hd, Int.toNat_natCast, List.take_left]
  cases hh : s.has with
  | false =>
    have es := slotB_not hh h
    have ep : putObjOf s.o = [] := by rw [es]; rfl
    rw [if_pos (by rw [ep]; rfl), ep, es]
    simp
  | true =>
    rw [slotB_has hh] at h
    have hp : 1 ≤ (putObjOf s.o).length := by
      have := (putOf_len s.o.kind).1
      rw [put_ok h, List.length_append, List.length_append]; omega
    rw [if_neg (by omega), getPair_put h]
    simp only [if_true]
    obtain ⟨b, o⟩ := s
    simp only at hh ⊢
    subst hh
    simp [Nat.add_assoc]
theorem slotsAt_back (l : List SlotV) : ∀ (pre rest : List Int), (∀ s ∈ l, slotB s = true) → slotsAt (pre ++ l.flatMap putSlotOf ++ rest) l.length pre.length = some (l, (pre ++ l.flatMap putSlotOf).length) := by
  induction l with
  | nil => intro pre rest _; simp [slotsAt]
  | cons z r ih =>
    intro pre rest h
    have hz := h z (by simp)
    have e : pre ++ (z :: r).flatMap putSlotOf ++ rest = (pre ++ putSlotOf z) ++ r.flatMap putSlotOf ++ rest := by simp
    have e2 : pre ++ (z :: r).flatMap putSlotOf ++ rest = pre ++ putSlotOf z ++ (r.flatMap putSlotOf ++ rest) := by simp
    rw [List.length_cons, slotsAt, e2, slotAt_back pre _ z hz]
    simp only
    rw [← e2, e, ih (pre ++ putSlotOf z) rest (fun y hy => h y (by simp [hy]))]
    simp
theorem okP_bd {n : Int} {l : List SlotV} (h : okP n l = true) : (∀ s ∈ l, slotB s = true) ∧ 0 ≤ n ∧ n ≤ 1000000 := by
  simp only [okP, Bool.and_eq_true, List.all_eq_true, inB, decide_eq_true_eq] at h
  exact ⟨h.1, h.2.1, h.2.2⟩
theorem readP_back (n : Int) (l : List SlotV) (h4 : l.length = 4) (h : okP n l = true) : readP (bodyOf n l) = some (n, l) := by
  obtain ⟨hs, h0, h1⟩ := okP_bd h
  have e0 : bodyOf n l = [] ++ putOf n ++ l.flatMap putSlotOf := by simp [bodyOf]
  have e1 : bodyOf n l = putOf n ++ l.flatMap putSlotOf ++ [] := by simp [bodyOf]
  have hg := getAt_back [] (l.flatMap putSlotOf) n (by omega)
  rw [← e0] at hg
  simp only [List.length_nil, List.nil_append, Int.natCast_zero] at hg
  have hsl := slotsAt_back l (putOf n) [] hs
  rw [← e1, h4] at hsl
  unfold readP
  rw [hg]
  simp only
  rw [hsl]
  simp only
  rw [if_pos (by simp [bodyOf])]

/-- What the model reads of a slot: the slot, and the reader behind it. -/
def nextSlotOf (zs : List Int) (s : Int × Bool) : SlotV × (Int × Bool) :=
  if (nextOf zs s).2.2 = true ∨ (nextOf zs s).1 = 0 then (noS, (nextOf zs s).2) else
  if (nextOf zs s).1 < 0 ∨ (zs.length : Int) - (nextOf zs s).2.1 < (nextOf zs s).1 then (noS, ((nextOf zs s).2.1, true)) else
  (⟨true, (getPair ((zs.drop (nextOf zs s).2.1.toNat).take (nextOf zs s).1.toNat)).1⟩, ((nextOf zs s).2.1 + (nextOf zs s).1, !(getPair ((zs.drop (nextOf zs s).2.1.toNat).take (nextOf zs s).1.toNat)).2))
def nextSlots (zs : List Int) : Nat → Int × Bool → List SlotV × (Int × Bool)
  | 0, s => ([], s)
  | k + 1, s => ((nextSlotOf zs s).1 :: (nextSlots zs k (nextSlotOf zs s).2).1, (nextSlots zs k (nextSlotOf zs s).2).2)
def readerP (zs : List Int) : (Int × List SlotV) × Bool :=
  (((nextOf zs (0, false)).1, (nextSlots zs 4 (nextOf zs (0, false)).2).1), (nextSlots zs 4 (nextOf zs (0, false)).2).2.2)

theorem nextSlot_back (pre rest : List Int) (s : SlotV) (h : slotB s = true) : nextSlotOf (pre ++ putSlotOf s ++ rest) ((pre.length : Int), false) = (s, (((pre ++ putSlotOf s).length : Int), false)) := by
  have hl := putObj_len s.o
  rw [putSlot_one h]
  have e : pre ++ (putOf (putObjOf s.o).length ++ putObjOf s.o) ++ rest = pre ++ putOf (putObjOf s.o).length ++ (putObjOf s.o ++ rest) := by simp
  have hn := next_back pre (putObjOf s.o ++ rest) ((putObjOf s.o).length : Int) (by omega)
  rw [← e] at hn
  have hd : (pre ++ (putOf (putObjOf s.o).length ++ putObjOf s.o) ++ rest).drop (pre ++ putOf (putObjOf s.o).length).length = putObjOf s.o ++ rest := by rw [e, List.drop_left]
  unfold nextSlotOf
  rw [hn]
  simp only [Int.toNat_natCast]
  rw [hd, List.take_left]
  cases hh : s.has with
  | false =>
    have es := slotB_not hh h
    have ep : putObjOf s.o = [] := by rw [es]; rfl
    rw [if_pos (by right; rw [ep]; rfl), ep, es]
    simp
  | true =>
    rw [slotB_has hh] at h
    have hp : 1 ≤ (putObjOf s.o).length := by
      have := (putOf_len s.o.kind).1
      rw [put_ok h, List.length_append, List.length_append]; omega
    rw [if_neg (fun hx => by rcases hx with hx | hx; exact absurd hx (by decide); omega), if_neg (by simp only [List.length_append]; omega), getPair_put h]
    obtain ⟨b, o⟩ := s
    simp only at hh ⊢
    subst hh
    simp
    omega
theorem nextSlots_back (l : List SlotV) : ∀ (pre rest : List Int), (∀ s ∈ l, slotB s = true) → nextSlots (pre ++ l.flatMap putSlotOf ++ rest) l.length ((pre.length : Int), false) = (l, (((pre ++ l.flatMap putSlotOf).length : Int), false)) := by
  induction l with
  | nil => intro pre rest _; simp [nextSlots]
  | cons z r ih =>
    intro pre rest h
    have hz := h z (by simp)
    have e : pre ++ (z :: r).flatMap putSlotOf ++ rest = (pre ++ putSlotOf z) ++ r.flatMap putSlotOf ++ rest := by simp
    have e2 : pre ++ (z :: r).flatMap putSlotOf ++ rest = pre ++ putSlotOf z ++ (r.flatMap putSlotOf ++ rest) := by simp
    rw [List.length_cons, nextSlots, e2, nextSlot_back pre _ z hz]
    simp only
    rw [← e2, e, ih (pre ++ putSlotOf z) rest (fun y hy => h y (by simp [hy]))]
    simp
theorem readerP_back (n : Int) (l : List SlotV) (h4 : l.length = 4) (h : okP n l = true) : readerP (bodyOf n l) = ((n, l), false) := by
  obtain ⟨hs, h0, h1⟩ := okP_bd h
  have e0 : bodyOf n l = [] ++ putOf n ++ l.flatMap putSlotOf := by simp [bodyOf]
  have e1 : bodyOf n l = putOf n ++ l.flatMap putSlotOf ++ [] := by simp [bodyOf]
  have hg := next_back [] (l.flatMap putSlotOf) n (by omega)
  rw [← e0] at hg
  simp only [List.length_nil, List.nil_append, Int.natCast_zero] at hg
  have hsl := nextSlots_back l (putOf n) [] hs
  rw [← e1, h4] at hsl
  unfold readerP
  rw [hg]
  simp only
  rw [hsl]
theorem nextSlots_len (zs : List Int) (k : Nat) : ∀ s, (nextSlots zs k s).1.length = k := by
  induction k with
  | zero => intro s; rfl
  | succ k ih => intro s; simp [nextSlots, ih]

/-- The page whose bytes these are, as the model finds it. -/
def getP (zs : List Int) : Option (Int × List SlotV) :=
  if (unfOf zs 0).2.2 = 0 ∧ (unfOf zs 0).2.1 = (zs.length : Int) ∧ (readerP (unfOf zs 0).1).2 = false ∧ okP (readerP (unfOf zs 0).1).1.1 (readerP (unfOf zs 0).1).1.2 = true ∧ putPageOf (readerP (unfOf zs 0).1).1.1 (readerP (unfOf zs 0).1).1.2 = zs
  then some (readerP (unfOf zs 0).1).1 else none
theorem putP_ok {n : Int} {l : List SlotV} (h : okP n l = true) : putPageOf n l = frameOf (bodyOf n l) := by unfold putPageOf; rw [if_pos h]
theorem unf_put {n : Int} {l : List SlotV} (h4 : l.length = 4) (h : okP n l = true) : unfOf (putPageOf n l) 0 = (bodyOf n l, ((putPageOf n l).length : Int), 0) := by
  rw [putP_ok h, frame_back _ (by have := body_len n l; omega)]
theorem getP_some {zs : List Int} {n : Int} {l : List SlotV} (h4 : l.length = 4) (h1 : okP n l = true) (h2 : putPageOf n l = zs) : getP zs = some (n, l) := by
  have hu := unf_put h4 h1
  rw [h2] at hu
  unfold getP
  rw [hu]
  simp only
  rw [readerP_back n l h4 h1]
  simp only
  rw [if_pos (by simp [h1, h2])]
theorem getP_none {zs : List Int} (h : ¬ ∃ n l, l.length = 4 ∧ okP n l = true ∧ putPageOf n l = zs) : getP zs = none := by
  unfold getP
  rw [if_neg]
  rintro ⟨_, _, _, h1, h2⟩
  exact h ⟨_, _, nextSlots_len _ 4 _, h1, h2⟩
theorem getP_ok {zs : List Int} {n : Int} {l : List SlotV} (h : getP zs = some (n, l)) : okP n l = true ∧ l.length = 4 ∧ putPageOf n l = zs := by
  unfold getP at h
  split at h
  · rename_i hh
    simp only [Option.some.injEq] at h
    have h1 : (readerP (unfOf zs 0).1).1.1 = n := by rw [h]
    have h2 : (readerP (unfOf zs 0).1).1.2 = l := by rw [h]
    rw [h1, h2] at hh
    exact ⟨hh.2.2.2.1, by rw [← h2]; exact nextSlots_len _ 4 _, hh.2.2.2.2⟩
  · cases h
def noP : Int × List SlotV := (0, [noS, noS, noS, noS])
def pairP (zs : List Int) : (Int × List SlotV) × Bool := match getP zs with
  | some x => (x, true)
  | none => (noP, false)
/-- The landed code finds the same. -/
theorem pairP_unf (zs : List Int) (h : ¬ ((unfOf zs 0).2.2 = 0 ∧ (unfOf zs 0).2.1 = (zs.length : Int))) : pairP zs = (noP, false) := by
  have : getP zs = none := by
    unfold getP
    rw [if_neg]
    rintro ⟨h1, h2, _⟩
    exact h ⟨h1, h2⟩
  unfold pairP; rw [this]
theorem pairP_none (zs : List Int) (h : readP (unfOf zs 0).1 = none) : pairP zs = (noP, false) := by
  have : getP zs = none := getP_none (by
    rintro ⟨n, l, h4, h1, h2⟩
    have hu := unf_put h4 h1
    rw [h2] at hu
    rw [hu] at h
    simp only at h
    rw [readP_back n l h4 h1] at h
    cases h)
  unfold pairP; rw [this]
theorem pairP_bad (zs : List Int) (n : Int) (l : List SlotV) (h : readP (unfOf zs 0).1 = some (n, l)) (hok : okP n l = false) : pairP zs = (noP, false) := by
  have : getP zs = none := getP_none (by
    rintro ⟨n', l', h4, h1, h2⟩
    have hu := unf_put h4 h1
    rw [h2] at hu
    rw [hu] at h
    simp only at h
    rw [readP_back n' l' h4 h1] at h
    simp only [Option.some.injEq, Prod.mk.injEq] at h
    obtain ⟨rfl, rfl⟩ := h
    rw [h1] at hok
    cases hok)
  unfold pairP; rw [this]
theorem pairP_some (zs : List Int) (hb : Bytes zs) (hu : (unfOf zs 0).2.2 = 0 ∧ (unfOf zs 0).2.1 = (zs.length : Int)) (n : Int) (l : List SlotV) (hbb : Bytes (unfOf zs 0).1) (h : readP (unfOf zs 0).1 = some (n, l)) (hok : okP n l = true) : pairP zs = ((n, l), true) := by
  obtain ⟨hc, h4⟩ := readP_canon _ hbb n l h
  have hz := frame_canon zs hb (unfOf zs 0).1 (by obtain ⟨e1, e2⟩ := hu; generalize unfOf zs 0 = U at *; obtain ⟨u1, u2, u3⟩ := U; simp only at *; rw [e1, e2])
  have : getP zs = some (n, l) := getP_some h4 hok (by rw [putP_ok hok, ← hc]; exact hz.symm)
  unfold pairP; rw [this]
theorem pairP_len (zs : List Int) (n : Int) (l : List SlotV) (ok : Bool) (h : pairP zs = ((n, l), ok)) : l.length = 4 ∧ ∀ s ∈ l, s.o.ints.length ≤ 5 ∧ s.o.refs.length ≤ 5 := by
  unfold pairP at h
  split at h
  · rename_i x hx
    have e : x = (n, l) := (Prod.mk.inj h).1
    subst e
    obtain ⟨h1, h4, _⟩ := getP_ok hx
    refine ⟨h4, fun s hs => ?_⟩
    have hb := (okP_bd h1).1 s hs
    cases hh : s.has with
    | true =>
      rw [slotB_has hh] at hb
      have := okB_bd hb
      exact ⟨this.2.1, this.2.2.1⟩
    | false =>
      rw [slotB_not hh hb]
      simp [noS, noO]
  · have e : noP = (n, l) := (Prod.mk.inj h).1
    have e2 : l = [noS, noS, noS, noS] := (Prod.mk.inj e).2.symm
    subst e2
    refine ⟨rfl, fun s hs => ?_⟩
    simp only [List.mem_cons, List.not_mem_nil, or_false] at hs
    rcases hs with rfl | rfl | rfl | rfl <;> simp [noS, noO]
end Go.Proofs.YtickiokdcbeefabDoor

/- The walks of spec.l3SameSlot (with no slot) and spec.l4Zero. -/
namespace Go.Proofs.YtickiokdcbeefabDoor
open Go.RowKit

/-- Is it no slot at all? -/
def isNo (v : SlotV) : Bool := if v.has then false else sameO v.o ⟨0, [], []⟩
theorem isNo_has {v : SlotV} (h : v.has = true) : isNo v = false := by unfold isNo; rw [if_pos h]
theorem isNo_not {v : SlotV} (h : v.has = false) : isNo v = sameO v.o ⟨0, [], []⟩ := by unfold isNo; rw [if_neg (by rw [h]; decide)]

/-- What a kind does not name is zero. -/
def zeroB (r : RecV) (tx oid bf next txs : Bool) : Bool := (tx || (decide (r.tx = 0) && decide (r.prev = 0))) && (oid || (decide (r.oid = 0) && isNo r.af)) && (bf || isNo r.bf) && (next || decide (r.next = 0)) && (txs || decide (r.txs.length = 0))

end Go.Proofs.YtickiokdcbeefabDoor

/- The walk of spec.l4Lives. -/
namespace Go.Proofs.YtickiokdcbeefabDoor
open Go.RowKit

/-- Is the one at k right, and above the one ahead of it? -/
def liveOk (lsn : Int) (ls : List LiveV) : Nat → Bool
  | 0 => inB (ls.getD 0 zeroL).tx 1 1000 && inB (ls.getD 0 zeroL).last 1 (lsn - 1)
  | k + 1 => inB (ls.getD (k + 1) zeroL).tx 1 1000 && inB (ls.getD (k + 1) zeroL).last 1 (lsn - 1) && decide ((ls.getD k zeroL).tx < (ls.getD (k + 1) zeroL).tx)
def livesB (lsn : Int) (ls : List LiveV) : Bool := (List.range ls.length).all (liveOk lsn ls) && decide (ls.length ≤ 20)
theorem livesB_no {lsn : Int} {ls : List LiveV} (k : Nat) (hk : k < ls.length) (h : liveOk lsn ls k = false) : livesB lsn ls = false := by
  have : (List.range ls.length).all (liveOk lsn ls) = false := by
    rw [List.all_eq_false]
    exact ⟨k, List.mem_range.2 hk, by rw [h]; decide⟩
  simp [livesB, this]
theorem livesB_all {lsn : Int} {ls : List LiveV} (h : ∀ k, k < ls.length → liveOk lsn ls k = true) : livesB lsn ls = decide (ls.length ≤ 20) := by
  have : (List.range ls.length).all (liveOk lsn ls) = true := by
    rw [List.all_eq_true]
    exact fun k hk => h k (List.mem_range.1 hk)
  simp [livesB, this]

end Go.Proofs.YtickiokdcbeefabDoor

/- The walk of spec.FreeSlot. -/
namespace Go.Proofs.YtickiokdcbeefabDoor
open Go.RowKit

/-- Where the first slot that has nothing is, from k on, among those that are left; -1 if there is none. -/
def freeFrom : List SlotV → Nat → Int
  | [], _ => -1
  | s :: r, k => if s.has then freeFrom r (k + 1) else (k : Int)
def freeOf (vs : List SlotV) : Int := freeFrom vs 0

theorem Box.pslot {w : World} {B : Nat} {v : Value} {ss : List SlotA} {t : TypeId} (b : Box w B (v :: cellsS ss) t) (k : Nat) (hk : k < ss.length) :
    w.cell? ⟨B, 1 + k * 4, none⟩ = some (.bool (ss.getD k zeroS).v.has) ∧ w.cell? ⟨B, 1 + k * 4 + 1, none⟩ = some (.int .i64 (ss.getD k zeroS).v.o.kind) ∧
    w.cell? ⟨B, 1 + k * 4 + 2, none⟩ = some (.slice (ss.getD k zeroS).aI (ss.getD k zeroS).v.o.ints.length (ss.getD k zeroS).cI) ∧ w.cell? ⟨B, 1 + k * 4 + 3, none⟩ = some (.slice (ss.getD k zeroS).aR (ss.getD k zeroS).v.o.refs.length (ss.getD k zeroS).cR) ∧
    (∀ i, w.frozen? ⟨B, i, none⟩ = false) := by
  have key : ∀ j, j < 4 → (v :: cellsS ss)[1 + k * 4 + j]? = (ss.getD k zeroS).cells[j]? := fun j hj => by
    rw [show 1 + k * 4 + j = (k * 4 + j) + 1 by omega, List.getElem?_cons_succ]
    exact cellsS_at ss k j hk hj
  exact ⟨b.cell _ _ (key 0 (by omega)), b.cell _ _ (key 1 (by omega)), b.cell _ _ (key 2 (by omega)), b.cell _ _ (key 3 (by omega)), fun i => b.frozen i⟩

theorem drop_at (ss : List SlotA) (k : Nat) (h : k < ss.length) : (ss.map (·.v)).drop k = (ss.getD k zeroS).v :: (ss.map (·.v)).drop (k + 1) := by
  rw [List.drop_eq_getElem_cons (by simpa using h)]
  simp [List.getD, h]

end Go.Proofs.YtickiokdcbeefabDoor

/- The walks of spec.l3Slot and spec.PageOk. -/
namespace Go.Proofs.YtickiokdcbeefabDoor
open Go.RowKit

theorem slotB_of (o : ObjV) (a b c : Bool) (h1 : decide (o.kind = 0) = a) (h2 : decide (o.ints.length = 0) = b) (h3 : decide (o.refs.length = 0) = c) : slotB ⟨false, o⟩ = (a && (b && c)) := by
  rw [← h1, ← h2, ← h3]; rfl

set_option maxHeartbeats 400000 in
set_option maxRecDepth 100000 in
theorem l3Slot_any (s : SlotA) (w : World) (hr : s.reads w) (hl : Fit [s]) :
    Calls Tryd.prog 53 #[.agg s.cells.toArray] w fun e w' => e = .returned (.bool (slotB s.v)) ∧ Below w.heap.size w w' := by
  obtain ⟨h1, h2⟩ := hl s (List.mem_singleton.2 rfl)
  obtain ⟨W, hW, b0, hbW, hsW⟩ := boxes1 w s.cells 46
  have hr' : s.reads W := ReadsO.below hr hbW
  obtain ⟨⟨h, o⟩, aI, cI, aR, cR⟩ := s
  simp only [SlotA.cells, SlotA.reads] at *
  cases h with
  | true =>
    have C1 := specObjOk_any o aI cI aR cR W hr' (by omega) (by omega)
    have HE : Hid (slotB ⟨true, o⟩ = okB o) := slotB_has rfl
    generalize slotB ⟨true, o⟩ = R at *
    go_enter Tryd.func53, Tryd.ntmps53
    go_wp2_with fail
    rw [hW.out]
    refine C1.mono ?_
    rintro e w1 ⟨rfl, hb1⟩
    go_wp2
    go_ret
    exact ⟨ret_bool HE.out.symm, hbW.trans (hb1.mono hbW.size)⟩
  | false =>
    have HE := slotB_of o
    generalize slotB ⟨false, o⟩ = R at *
    obtain ⟨k, ints, refs⟩ := o
    obtain ⟨x0, x1, x2, x3, _⟩ := b0.four
    simp only at *
    by_cases hk : k = 0
    case neg =>
      have HR : Hid (R = false) := HE false _ _ (decide_eq_false hk) rfl rfl
      have hkb : (k == 0) = false := by simpa using hk
      clear HE hk
      go_enter Tryd.func53, Tryd.ntmps53
      go_wp2
      go_ret
      exact ⟨ret_bool HR.out.symm, by rw [hW.out]; exact hbW⟩
    case pos =>
    subst hk
    by_cases hi : ints.length = 0
    case neg =>
      have HR : Hid (R = false) := HE true false _ (decide_eq_true rfl) (decide_eq_false hi) rfl
      have hib : ((ints.length : Int) == 0) = false := by simp; exact fun e => hi (by rw [e]; rfl)
      clear HE hi
      go_enter Tryd.func53, Tryd.ntmps53
      go_wp2
      go_ret
      exact ⟨ret_bool HR.out.symm, by rw [hW.out]; exact hbW⟩
    case pos =>
    by_cases hj : refs.length = 0
    case neg =>
      have HR : Hid (R = false) := HE true true false (decide_eq_true rfl) (decide_eq_true hi) (decide_eq_false hj)
      have hib : ((ints.length : Int) == 0) = true := by simp; exact List.length_eq_zero_iff.1 hi
      have hjb : ((refs.length : Int) == 0) = false := by simp; exact fun e => hj (by rw [e]; rfl)
      clear HE hi hj
      go_enter Tryd.func53, Tryd.ntmps53
      go_wp2
      go_ret
      exact ⟨ret_bool HR.out.symm, by rw [hW.out]; exact hbW⟩
    case pos =>
      have HR : Hid (R = true) := HE true true true (decide_eq_true rfl) (decide_eq_true hi) (decide_eq_true hj)
      have hib : ((ints.length : Int) == 0) = true := by simp; exact List.length_eq_zero_iff.1 hi
      have hjb : ((refs.length : Int) == 0) = true := by simp; exact List.length_eq_zero_iff.1 hj
      clear HE hi hj
      go_enter Tryd.func53, Tryd.ntmps53
      go_wp2
      go_ret
      exact ⟨ret_bool HR.out.symm, by rw [hW.out]; exact hbW⟩

theorem okP_no {n : Int} {ss : List SlotA} (k : Nat) (hk : k < ss.length) (h : slotB (ss.getD k zeroS).v = false) : okP n (ss.map (·.v)) = false := by
  have : (ss.map (·.v)).all slotB = false := by
    rw [List.all_eq_false]
    exact ⟨(ss.getD k zeroS).v, List.mem_map.2 ⟨_, getD_mem hk, rfl⟩, by rw [h]; decide⟩
  simp [okP, this]
theorem okP_all {n : Int} {ss : List SlotA} (h : ∀ j, j < ss.length → slotB (ss.getD j zeroS).v = true) : okP n (ss.map (·.v)) = inB n 0 1000000 := by
  have : (ss.map (·.v)).all slotB = true := by
    rw [List.all_eq_true]
    intro v hv
    obtain ⟨s, hs, rfl⟩ := List.mem_map.1 hv
    obtain ⟨j, hj, rfl⟩ := List.getElem_of_mem hs
    have := h j hj
    simpa [List.getD, hj] using this
  simp [okP, this]

set_option maxHeartbeats 1000000 in
set_option maxRecDepth 100000 in
theorem specPageOk_any (p : PageA) (h4 : p.ss.length = 4) (w : World) (hr : ReadsS w p.ss) (hl : Fit p.ss) :
    Calls Tryd.prog 37 #[.agg p.cells.toArray] w fun e w' => e = .returned (.bool (okP p.lsn (p.ss.map (·.v)))) ∧ Below w.heap.size w w' := by
  obtain ⟨n, ss⟩ := p
  simp only [PageA.cells] at *
  obtain ⟨W, hW, b0, hbW, hsW⟩ := boxes1 w (.int .i64 n :: cellsS ss) 49
  have H4 : Hid (ss.length = 4) := h4
  have HNO : Hid (∀ k, k < ss.length → slotB (ss.getD k zeroS).v = false → okP n (ss.map (·.v)) = false) := fun k hk h => okP_no k hk h
  have HAL : Hid ((∀ j, j < ss.length → slotB (ss.getD j zeroS).v = true) → okP n (ss.map (·.v)) = inB n 0 1000000) := fun h => okP_all h
  generalize okP n (ss.map (·.v)) = R at *
  clear hsW h4
  go_enter Tryd.func37, Tryd.ntmps37
  go_wp2_with fail
  rw [hW.out]
  clear hW
  go_loopw [3] (fun i wr => ∃ (k : Nat), i = .int .i64 k ∧ k ≤ 4 ∧ Hid (∀ j, j < k → slotB (ss.getD j zeroS).v = true) ∧ Below W.heap.size W wr)
    (fun i _ => 4 - (intOf i).toNat)
  case atStart => exact ⟨0, rfl, by omega, fun j hj => by omega, Below.refl _ _⟩
  case round =>
    obtain ⟨k, rfl, hk, hall, hbl⟩ := hrel
    have b0r := b0.below hbl b0.lt
    have hbT : Below w.heap.size w wr := hbW.trans (hbl.mono hbW.size)
    by_cases hlt : k < 4
    · have hkl : k < ss.length := by rw [H4.out]; exact hlt
      obtain ⟨c0, c1, c2, c3, _⟩ := b0r.pslot k hkl
      have hi0 : (0 : Int) ≤ (k : Int) := by omega
      have hi4 : (k : Int) < 4 := by omega
      have hrk := (hr _ (getD_mem hkl)).below hbT
      have hlk : Fit [ss.getD k zeroS] := fun s hs => by obtain rfl := List.mem_singleton.1 hs; exact hl _ (getD_mem hkl)
      have C := l3Slot_any (ss.getD k zeroS) wr hrk hlk
      simp only [SlotA.cells] at C
      cases hz : slotB (ss.getD k zeroS).v with
      | false =>
        have HR : Hid (R = false) := HNO.out k hkl hz
        rw [hz] at C
        clear hz
        generalize ss.getD k zeroS = s at *
        go_wp2_with fail
        refine C.mono ?_
        rintro e w1 ⟨rfl, hb1⟩
        go_wp2
        go_ret
        exact ⟨ret_bool HR.out.symm, hbT.trans (hb1.mono hbT.size)⟩
      | true =>
        have HN : Hid (∀ j, j < k + 1 → slotB (ss.getD j zeroS).v = true) := by
          intro j hj
          by_cases e : j = k
          · rw [e]; exact hz
          · exact hall.out j (by omega)
        rw [hz] at C
        clear hz hrk hlk
        generalize hs : ss.getD k zeroS = s at *
        clear hs
        go_wp2_with fail
        refine C.mono ?_
        rintro e w1 ⟨rfl, hb1⟩
        clear C
        go_wp2_with fail
        go_roundw
        case rel => exact ⟨k + 1, by go_num, by omega, HN, hbl.trans (hb1.mono hbl.size)⟩
        case measure => simp [intOf]; omega
    · have hkk : ¬ (k : Int) < 4 := by omega
      have HR : Hid (R = inB n 0 1000000) := HAL.out (fun j hj => hall.out j (by rw [H4.out] at hj; omega))
      have c0 := b0r.cell 0 _ rfl
      go_wp2_with fail
      refine (l1In_any _ _ _ _).mono ?_
      rintro e w' ⟨rfl, rfl⟩
      go_wp2
      go_ret
      exact ⟨ret_bool HR.out.symm, hbT⟩
end Go.Proofs.YtickiokdcbeefabDoor

/- The walk of spec.RecOk. -/
namespace Go.Proofs.YtickiokdcbeefabDoor
open Go.RowKit

/-- Is the record right? -/
def okR (r : RecV) : Bool :=
  inB r.lsn 1 1000000 && (slotB r.bf && (slotB r.af &&
    (if r.kind == 6 then zeroB r false false false false true && livesB r.lsn r.txs
     else inB r.tx 1 1000 && (inB r.prev 0 (r.lsn - 1) &&
      (if r.kind == 1 then zeroB r true true true false false && inB r.oid 1 31
       else if r.kind == 4 then zeroB r true true false true false && (inB r.oid 1 31 && inB r.next 0 (r.lsn - 1))
       else if r.kind == 2 then zeroB r true false false false false
       else if r.kind == 3 then zeroB r true false false false false
       else if r.kind == 5 then zeroB r true false false false false
       else false)))))

theorem inB_both {x l m : Int} (h : inB x l m = true) : l ≤ x ∧ x ≤ m := by simpa [inB] using h
theorem fifteen {w : World} {B : Nat} {x0 x1 x2 x3 x4 x5 x6 x7 x8 x9 x10 x11 x12 x13 x14 : Value} {t : TypeId} (b : Box w B [x0, x1, x2, x3, x4, x5, x6, x7, x8, x9, x10, x11, x12, x13, x14] t) :
    w.cell? ⟨B, 0, none⟩ = some x0 ∧ w.cell? ⟨B, 1, none⟩ = some x1 ∧ w.cell? ⟨B, 2, none⟩ = some x2 ∧ w.cell? ⟨B, 3, none⟩ = some x3 ∧ w.cell? ⟨B, 4, none⟩ = some x4 ∧ w.cell? ⟨B, 5, none⟩ = some x5 ∧ w.cell? ⟨B, 6, none⟩ = some x6 ∧ w.cell? ⟨B, 7, none⟩ = some x7 ∧ w.cell? ⟨B, 8, none⟩ = some x8 ∧ w.cell? ⟨B, 9, none⟩ = some x9 ∧ w.cell? ⟨B, 10, none⟩ = some x10 ∧ w.cell? ⟨B, 11, none⟩ = some x11 ∧ w.cell? ⟨B, 12, none⟩ = some x12 ∧ w.cell? ⟨B, 13, none⟩ = some x13 ∧ w.cell? ⟨B, 14, none⟩ = some x14 :=
  ⟨b.cell 0 _ rfl, b.cell 1 _ rfl, b.cell 2 _ rfl, b.cell 3 _ rfl, b.cell 4 _ rfl, b.cell 5 _ rfl, b.cell 6 _ rfl, b.cell 7 _ rfl, b.cell 8 _ rfl, b.cell 9 _ rfl, b.cell 10 _ rfl, b.cell 11 _ rfl, b.cell 12 _ rfl, b.cell 13 _ rfl, b.cell 14 _ rfl⟩

end Go.Proofs.YtickiokdcbeefabDoor
