/- Several texts in one, in their order. -/
import Derived.Test.YtickiokdcbeefabDoorPVictimx11
import Derived.Test.YtickiokdcbeefabDoorPVictimx8
import Derived.Test.YtickiokdcbeefabDoorPVictimx6
import Derived.Test.YtickiokdcbeefabDoorPVictimx4
import Derived.Test.YtickiokdcbeefabDoorPVictimx3
import Derived.Test.YtickiokdcbeefabDoorPVictimx7
import Derived.Deep.QuietTactic
import Derived.BigQuiet
/- Records: what the landed code asks of one, and reads of bytes; it is what the model does. -/
namespace Go.Proofs.YtickiokdcbeefabDoor
open Go.RowKit

theorem liveOk_bd {lsn : Int} {ls : List LiveV} {k : Nat} (h : liveOk lsn ls k = true) : (1 ≤ (ls.getD k zeroL).tx ∧ (ls.getD k zeroL).tx ≤ 1000) ∧ (1 ≤ (ls.getD k zeroL).last ∧ (ls.getD k zeroL).last < lsn) := by
  cases k with
  | zero => simp only [liveOk, inB, Bool.and_eq_true, decide_eq_true_eq] at h; omega
  | succ k => simp only [liveOk, inB, Bool.and_eq_true, decide_eq_true_eq] at h; omega
theorem livesB_bd {lsn : Int} {ls : List LiveV} (h : livesB lsn ls = true) : ls.length ≤ 20 ∧ ∀ t ∈ ls, (1 ≤ t.tx ∧ t.tx ≤ 1000) ∧ (1 ≤ t.last ∧ t.last < lsn) := by
  simp only [livesB, Bool.and_eq_true, List.all_eq_true, List.mem_range, decide_eq_true_eq] at h
  refine ⟨h.2, fun t ht => ?_⟩
  obtain ⟨k, hk, e⟩ := List.getElem_of_mem ht
  have := liveOk_bd (h.1 k hk)
  rw [show ls.getD k zeroL = t by simp [List.getD, hk, e]] at this
  exact this
structure Bd (r : RecV) : Prop where
  lsn : 1 ≤ r.lsn ∧ r.lsn ≤ 1000000
  bf : slotB r.bf = true
  af : slotB r.af = true
  tx : 0 ≤ r.tx ∧ r.tx ≤ 1000
  prev : 0 ≤ r.prev ∧ r.prev < r.lsn
  kind : 1 ≤ r.kind ∧ r.kind ≤ 6
  oid : 0 ≤ r.oid ∧ r.oid ≤ 31
  next : 0 ≤ r.next ∧ r.next < r.lsn
  txs : r.txs.length ≤ 20
  each : ∀ t ∈ r.txs, (1 ≤ t.tx ∧ t.tx ≤ 1000) ∧ (1 ≤ t.last ∧ t.last < r.lsn)
theorem okR_bd {r : RecV} (h : okR r = true) : Bd r := by
  have h20 := okR_txs h
  unfold okR at h
  simp only [Bool.and_eq_true] at h
  obtain ⟨h1, h2, h3, h4⟩ := h
  simp only [inB, decide_eq_true_eq] at h1
  have hno : ∀ a b c d, zeroB r a b c d false = true → ∀ t ∈ r.txs, (1 ≤ t.tx ∧ t.tx ≤ 1000) ∧ (1 ≤ t.last ∧ t.last < r.lsn) := by
    intro a b c d hz t ht
    simp only [zeroB, Bool.and_eq_true, Bool.false_or, decide_eq_true_eq] at hz
    have := List.length_eq_zero_iff.1 hz.2
    rw [this] at ht; cases ht
  split at h4
  · rename_i hk
    simp only [Bool.and_eq_true] at h4
    obtain ⟨hz, hl⟩ := h4
    obtain ⟨_, he⟩ := livesB_bd hl
    simp only [zeroB, Bool.and_eq_true, Bool.false_or, Bool.true_or, decide_eq_true_eq, beq_iff_eq] at hz hk
    exact ⟨h1, h2, h3, by omega, by omega, by omega, by omega, by omega, h20, he⟩
  · simp only [Bool.and_eq_true, inB, decide_eq_true_eq] at h4
    obtain ⟨h5, h6, h7⟩ := h4
    split at h7
    · rename_i hk
      simp only [Bool.and_eq_true, decide_eq_true_eq] at h7
      obtain ⟨hz, ho⟩ := h7
      have he := hno _ _ _ _ hz
      simp only [zeroB, Bool.and_eq_true, Bool.false_or, Bool.true_or, decide_eq_true_eq, beq_iff_eq] at hz hk
      exact ⟨h1, h2, h3, by omega, by omega, by omega, by omega, by omega, h20, he⟩
    · split at h7
      · rename_i hk
        simp only [Bool.and_eq_true, decide_eq_true_eq] at h7
        obtain ⟨hz, ho, hx⟩ := h7
        have he := hno _ _ _ _ hz
        simp only [beq_iff_eq] at hk
        exact ⟨h1, h2, h3, by omega, by omega, by omega, by omega, by omega, h20, he⟩
      · have fin : zeroB r true false false false false = true → (1 ≤ r.kind ∧ r.kind ≤ 6) → Bd r := fun hz hk => by
          have he := hno _ _ _ _ hz
          simp only [zeroB, Bool.and_eq_true, Bool.false_or, Bool.true_or, decide_eq_true_eq] at hz
          exact ⟨h1, h2, h3, by omega, by omega, by omega, by omega, by omega, h20, he⟩
        split at h7
        · rename_i hk; exact fin h7 (by simp only [beq_iff_eq] at hk; omega)
        · split at h7
          · rename_i hk; exact fin h7 (by simp only [beq_iff_eq] at hk; omega)
          · split at h7
            · rename_i hk; exact fin h7 (by simp only [beq_iff_eq] at hk; omega)
            · cases h7

/-- One that is under way, at a place, and the place behind it. -/
def liveAt (zs : List Int) (p : Nat) : Option (LiveV × Nat) := match numsAt zs 3 p with
  | some ([a, b, f], q) => if f = 0 then some (⟨a, b, false⟩, q) else if f = 1 then some (⟨a, b, true⟩, q) else none
  | _ => none
def livesAt (zs : List Int) : Nat → Nat → Option (List LiveV × Nat)
  | 0, p => some ([], p)
  | k + 1, p => match liveAt zs p with
    | none => none
    | some (t, q) => match livesAt zs k q with
      | none => none
      | some (l, r) => some (t :: l, r)
/-- A number that says how many, and so many. -/
def countAt (zs : List Int) (p : Nat) : Option (List LiveV × Nat) := match getAt zs (p : Int) with
  | none => none
  | some (n, q) => if 0 ≤ n ∧ n ≤ 20 then livesAt zs n.toNat q else none
/-- A record of bytes, as the landed code reads it. -/
def readR (zs : List Int) : Option RecV := match numsAt zs 6 0 with
  | some ([n, t, v, k, o, x], p) => match slotAt zs p with
    | none => none
    | some (b, q) => match slotAt zs q with
      | none => none
      | some (a, s) => match countAt zs s with
        | none => none
        | some (l, e) => if e = zs.length then some ⟨n, t, v, k, o, b, a, x, l⟩ else none
  | _ => none

theorem liveAt_canon (zs : List Int) (hb : Bytes zs) (p : Nat) (t : LiveV) (q : Nat) (h : liveAt zs p = some (t, q)) (hp : p ≤ zs.length) : zs.drop p = putLive t ++ zs.drop q ∧ q ≤ zs.length := by
  unfold liveAt at h
  split at h
  · rename_i a b f r hn
    obtain ⟨_, hd, hq⟩ := numsAt_canon zs hb 3 p _ _ hn hp
    split at h
    · simp only [Option.some.injEq, Prod.mk.injEq] at h
      rename_i hf
      obtain ⟨rfl, rfl⟩ := h
      refine ⟨?_, hq⟩
      rw [hd, hf]
      simp [putLive]
    · split at h
      · simp only [Option.some.injEq, Prod.mk.injEq] at h
        rename_i hf
        obtain ⟨rfl, rfl⟩ := h
        refine ⟨?_, hq⟩
        rw [hd, hf]
        simp [putLive]
      · cases h
  · cases h
theorem livesAt_canon (zs : List Int) (hb : Bytes zs) (k : Nat) : ∀ (p : Nat) (l : List LiveV) (q : Nat), livesAt zs k p = some (l, q) → p ≤ zs.length → l.length = k ∧ zs.drop p = l.flatMap putLive ++ zs.drop q ∧ q ≤ zs.length := by
  induction k with
  | zero =>
    intro p l q h hp
    simp only [livesAt, Option.some.injEq, Prod.mk.injEq] at h
    obtain ⟨rfl, rfl⟩ := h
    exact ⟨rfl, by simp, hp⟩
  | succ k ih =>
    intro p l q h hp
    simp only [livesAt] at h
    split at h
    · cases h
    · rename_i t q1 h1
      obtain ⟨hd, hn⟩ := liveAt_canon zs hb p t q1 h1 hp
      split at h
      · cases h
      · rename_i l1 q2 h2
        simp only [Option.some.injEq, Prod.mk.injEq] at h
        obtain ⟨rfl, rfl⟩ := h
        obtain ⟨hl, hd2, h3⟩ := ih q1 l1 q2 h2 hn
        exact ⟨by simp [hl], by rw [hd, hd2]; simp, h3⟩
theorem countAt_canon (zs : List Int) (hb : Bytes zs) (p : Nat) (l : List LiveV) (q : Nat) (h : countAt zs p = some (l, q)) : zs.drop p = putOf l.length ++ l.flatMap putLive ++ zs.drop q ∧ q ≤ zs.length := by
  unfold countAt at h
  split at h
  · cases h
  · rename_i n r hg
    obtain ⟨hd, h1, h2⟩ := getAt_canon zs hb p n r hg
    split at h
    · rename_i hn
      obtain ⟨hl, hd2, h3⟩ := livesAt_canon zs hb _ r l q h h2
      refine ⟨?_, h3⟩
      rw [hd, hd2, show (l.length : Int) = n by omega]
      simp
    · cases h
theorem readR_canon (zs : List Int) (hb : Bytes zs) (r : RecV) (h : readR zs = some r) : zs = bodyR r := by
  unfold readR at h
  split at h
  · rename_i n t v k o x p hn
    obtain ⟨_, hd, hp⟩ := numsAt_canon zs hb 6 0 _ _ hn (Nat.zero_le _)
    rw [List.drop_zero] at hd
    split at h
    · cases h
    · rename_i b q h1
      obtain ⟨_, hd1, hq⟩ := slotAt_canon zs hb p b q h1
      split at h
      · cases h
      · rename_i a s h2
        obtain ⟨_, hd2, hs⟩ := slotAt_canon zs hb q a s h2
        split at h
        · cases h
        · rename_i l e h3
          obtain ⟨hd3, he⟩ := countAt_canon zs hb s l e h3
          split at h
          · rename_i hee
            simp only [Option.some.injEq] at h
            subst h
            conv => lhs; rw [hd, hd1, hd2, hd3, hee, List.drop_length]
            simp [bodyR, headR]
          · cases h
  · cases h
theorem readR_slots (zs : List Int) (hb : Bytes zs) (r : RecV) (h : readR zs = some r) : slotB r.bf = true ∧ slotB r.af = true ∧ r.txs.length ≤ 20 := by
  unfold readR at h
  split at h
  · rename_i n t v k o x p hn
    split at h
    · cases h
    · rename_i b q h1
      obtain ⟨hb1, _, hq⟩ := slotAt_canon zs hb p b q h1
      split at h
      · cases h
      · rename_i a s h2
        obtain ⟨hb2, _, hs⟩ := slotAt_canon zs hb q a s h2
        split at h
        · cases h
        · rename_i l e h3
          split at h
          · simp only [Option.some.injEq] at h
            subst h
            refine ⟨hb1, hb2, ?_⟩
            unfold countAt at h3
            split at h3
            · cases h3
            · rename_i n r hg
              obtain ⟨_, _, h2⟩ := getAt_canon zs hb s n r hg
              split at h3
              · rename_i hn
                obtain ⟨hl, _⟩ := livesAt_canon zs hb _ r l e h3 h2
                simp only
                omega
              · cases h3
          · cases h
  · cases h

theorem liveAt_back (pre rest : List Int) (t : LiveV) (h : (1 ≤ t.tx ∧ t.tx ≤ 1000) ∧ (1 ≤ t.last ∧ t.last < 1000000)) : liveAt (pre ++ putLive t ++ rest) pre.length = some (t, (pre ++ putLive t).length) := by
  obtain ⟨a, b, f⟩ := t
  have e : putLive ⟨a, b, f⟩ = [a, b, if f then 1 else 0].flatMap putOf := by simp [putLive]
  simp only at h
  have := numsAt_back [a, b, if f then 1 else 0] pre rest (by
    intro z hz
    simp only [List.mem_cons, List.not_mem_nil, or_false] at hz
    rcases hz with rfl | rfl | rfl
    · omega
    · omega
    · split <;> omega)
  rw [e]
  unfold liveAt
  rw [show (3 : Nat) = [a, b, if f then (1 : Int) else 0].length from rfl, this]
  cases f <;> simp
theorem livesAt_back (l : List LiveV) : ∀ (pre rest : List Int), (∀ t ∈ l, (1 ≤ t.tx ∧ t.tx ≤ 1000) ∧ (1 ≤ t.last ∧ t.last < 1000000)) → livesAt (pre ++ l.flatMap putLive ++ rest) l.length pre.length = some (l, (pre ++ l.flatMap putLive).length) := by
  induction l with
  | nil => intro pre rest _; simp [livesAt]
  | cons z r ih =>
    intro pre rest h
    have hz := h z (by simp)
    have e : pre ++ (z :: r).flatMap putLive ++ rest = (pre ++ putLive z) ++ r.flatMap putLive ++ rest := by simp
    have e2 : pre ++ (z :: r).flatMap putLive ++ rest = pre ++ putLive z ++ (r.flatMap putLive ++ rest) := by simp
    rw [List.length_cons, livesAt, e2, liveAt_back pre _ z hz]
    simp only
    rw [← e2, e, ih (pre ++ putLive z) rest (fun y hy => h y (by simp [hy]))]
    simp
theorem readR_eq {zs : List Int} {n t v k o x : Int} {p q s : Nat} {b a : SlotV} {l : List LiveV} (h0 : numsAt zs 6 0 = some ([n, t, v, k, o, x], p)) (h1 : slotAt zs p = some (b, q)) (h2 : slotAt zs q = some (a, s)) (h3 : countAt zs s = some (l, zs.length)) : readR zs = some ⟨n, t, v, k, o, b, a, x, l⟩ := by
  unfold readR
  rw [h0]; simp only
  rw [h1]; simp only
  rw [h2]; simp only
  rw [h3]; simp only
  rw [if_pos trivial]
theorem readR_back (r : RecV) (h : okR r = true) : readR (bodyR r) = some r := by
  have d := okR_bd h
  have e0 : bodyR r = [] ++ (headR r).flatMap putOf ++ (putSlotOf r.bf ++ putSlotOf r.af ++ putOf r.txs.length ++ r.txs.flatMap putLive) := by simp [bodyR]
  have h0 := numsAt_back (headR r) [] (putSlotOf r.bf ++ putSlotOf r.af ++ putOf r.txs.length ++ r.txs.flatMap putLive) (by
    intro z hz
    simp only [headR, List.mem_cons, List.not_mem_nil, or_false] at hz
    have := d.lsn; have := d.tx; have := d.prev; have := d.kind; have := d.oid; have := d.next
    rcases hz with rfl | rfl | rfl | rfl | rfl | rfl <;> omega)
  rw [← e0] at h0
  have e1 : bodyR r = (headR r).flatMap putOf ++ putSlotOf r.bf ++ (putSlotOf r.af ++ putOf r.txs.length ++ r.txs.flatMap putLive) := by simp [bodyR]
  have h1 := slotAt_back ((headR r).flatMap putOf) (putSlotOf r.af ++ putOf r.txs.length ++ r.txs.flatMap putLive) r.bf d.bf
  rw [← e1] at h1
  have e2 : bodyR r = ((headR r).flatMap putOf ++ putSlotOf r.bf) ++ putSlotOf r.af ++ (putOf r.txs.length ++ r.txs.flatMap putLive) := by simp [bodyR]
  have h2 := slotAt_back ((headR r).flatMap putOf ++ putSlotOf r.bf) (putOf r.txs.length ++ r.txs.flatMap putLive) r.af d.af
  rw [← e2] at h2
  have e3 : bodyR r = ((headR r).flatMap putOf ++ putSlotOf r.bf ++ putSlotOf r.af) ++ putOf r.txs.length ++ r.txs.flatMap putLive := by simp [bodyR]
  have d20 := d.txs
  have h3 := getAt_back ((headR r).flatMap putOf ++ putSlotOf r.bf ++ putSlotOf r.af) (r.txs.flatMap putLive) (r.txs.length : Int) (by omega)
  rw [← e3] at h3
  have e4 : bodyR r = (((headR r).flatMap putOf ++ putSlotOf r.bf ++ putSlotOf r.af) ++ putOf r.txs.length) ++ r.txs.flatMap putLive ++ [] := by simp [bodyR]
  have h4 := livesAt_back r.txs (((headR r).flatMap putOf ++ putSlotOf r.bf ++ putSlotOf r.af) ++ putOf r.txs.length) [] (fun t ht => by have := d.each t ht; have := d.lsn; omega)
  rw [← e4] at h4
  have hc : countAt (bodyR r) ((headR r).flatMap putOf ++ putSlotOf r.bf ++ putSlotOf r.af).length = some (r.txs, (bodyR r).length) := by
    unfold countAt
    rw [h3]
    simp only
    rw [if_pos (by omega), Int.toNat_natCast, h4]
    conv => rhs; rw [e4]
    simp
  exact readR_eq (n := r.lsn) (t := r.tx) (v := r.prev) (k := r.kind) (o := r.oid) (x := r.next) h0 h1 h2 hc

/-- The model's reader: one that is under way. -/
def liveNext (zs : List Int) (s : Int × Bool) : LiveV × (Int × Bool) :=
  (⟨(nextOf zs s).1, (nextOf zs (nextOf zs s).2).1, (nextOf zs (nextOf zs (nextOf zs s).2).2).1 == 1⟩, (nextOf zs (nextOf zs (nextOf zs s).2).2).2)
def livesOf (zs : List Int) : Nat → List LiveV → Int × Bool → List LiveV × (Int × Bool)
  | 0, l, s => (l, s)
  | k + 1, l, s => if s.2 then (l, s) else livesOf zs k (l ++ [(liveNext zs s).1]) (liveNext zs s).2
/-- The reader behind so many numbers. -/
def stR (zs : List Int) : Nat → Int × Bool
  | 0 => (0, false)
  | k + 1 => (nextOf zs (stR zs k)).2
def valR (zs : List Int) (k : Nat) : Int := (nextOf zs (stR zs k)).1
def sB (zs : List Int) : SlotV × (Int × Bool) := nextSlotOf zs (stR zs 6)
def sA (zs : List Int) : SlotV × (Int × Bool) := nextSlotOf zs (sB zs).2
def sN (zs : List Int) : Int × (Int × Bool) := nextOf zs (sA zs).2
def sL (zs : List Int) : List LiveV × (Int × Bool) := livesOf zs (min (sN zs).1.toNat 30) [] (sN zs).2
def recR (zs : List Int) : RecV := ⟨valR zs 0, valR zs 1, valR zs 2, valR zs 3, valR zs 4, (sB zs).1, (sA zs).1, valR zs 5, (sL zs).1⟩

theorem liveNext_back (pre rest : List Int) (t : LiveV) (h : (1 ≤ t.tx ∧ t.tx ≤ 1000) ∧ (1 ≤ t.last ∧ t.last < 1000000)) : liveNext (pre ++ putLive t ++ rest) ((pre.length : Int), false) = (t, (((pre ++ putLive t).length : Int), false)) := by
  obtain ⟨a, b, f⟩ := t
  simp only at h
  have hf : -1000000 ≤ (if f then (1 : Int) else 0) ∧ (if f then (1 : Int) else 0) ≤ 1000000 := by split <;> omega
  have e1 : pre ++ putLive ⟨a, b, f⟩ ++ rest = pre ++ putOf a ++ (putOf b ++ putOf (if f then 1 else 0) ++ rest) := by simp [putLive]
  have e2 : pre ++ putLive ⟨a, b, f⟩ ++ rest = (pre ++ putOf a) ++ putOf b ++ (putOf (if f then 1 else 0) ++ rest) := by simp [putLive]
  have e3 : pre ++ putLive ⟨a, b, f⟩ ++ rest = (pre ++ putOf a ++ putOf b) ++ putOf (if f then 1 else 0) ++ rest := by simp [putLive]
  have n1 := next_back pre (putOf b ++ putOf (if f then 1 else 0) ++ rest) a (by omega)
  have n2 := next_back (pre ++ putOf a) (putOf (if f then 1 else 0) ++ rest) b (by omega)
  have n3 := next_back (pre ++ putOf a ++ putOf b) rest (if f then 1 else 0) hf
  rw [← e1] at n1
  rw [← e2] at n2
  rw [← e3] at n3
  unfold liveNext
  rw [n1]; simp only
  rw [n2]; simp only
  rw [n3]
  cases f <;> simp [putLive]
theorem livesOf_back (l : List LiveV) : ∀ (pre rest : List Int) (acc : List LiveV), (∀ t ∈ l, (1 ≤ t.tx ∧ t.tx ≤ 1000) ∧ (1 ≤ t.last ∧ t.last < 1000000)) → livesOf (pre ++ l.flatMap putLive ++ rest) l.length acc ((pre.length : Int), false) = (acc ++ l, (((pre ++ l.flatMap putLive).length : Int), false)) := by
  induction l with
  | nil => intro pre rest acc _; simp [livesOf]
  | cons z r ih =>
    intro pre rest acc h
    have hz := h z (by simp)
    have e : pre ++ (z :: r).flatMap putLive ++ rest = (pre ++ putLive z) ++ r.flatMap putLive ++ rest := by simp
    have e2 : pre ++ (z :: r).flatMap putLive ++ rest = pre ++ putLive z ++ (r.flatMap putLive ++ rest) := by simp
    rw [List.length_cons, livesOf, e2, liveNext_back pre _ z hz]
    simp only [Bool.false_eq_true, if_false]
    rw [← e2, e, ih (pre ++ putLive z) rest _ (fun y hy => h y (by simp [hy]))]
    simp
theorem stR_back (l : List Int) (rest : List Int) (h : ∀ z ∈ l, -1000000 ≤ z ∧ z ≤ 1000000) : ∀ k, k ≤ l.length → stR (l.flatMap putOf ++ rest) k = ((((l.take k).flatMap putOf).length : Int), false) := by
  intro k
  induction k with
  | zero => intro _; simp [stR]
  | succ k ih =>
    intro hk
    have hi := ih (by omega)
    have hz : l.getD k 0 ∈ l := by simp [List.getD, show k < l.length by omega]
    have e : l.flatMap putOf ++ rest = (l.take k).flatMap putOf ++ putOf (l.getD k 0) ++ ((l.drop (k + 1)).flatMap putOf ++ rest) := by
      conv => lhs; rw [← List.take_append_drop (k + 1) l]
      rw [List.flatMap_append, flatI_step l k (by omega)]
      simp
    have n := next_back ((l.take k).flatMap putOf) ((l.drop (k + 1)).flatMap putOf ++ rest) (l.getD k 0) (h _ hz)
    rw [← e] at n
    rw [stR, hi, n, flatI_step l k (by omega)]
theorem valR_back (l : List Int) (rest : List Int) (h : ∀ z ∈ l, -1000000 ≤ z ∧ z ≤ 1000000) (k : Nat) (hk : k < l.length) : valR (l.flatMap putOf ++ rest) k = l.getD k 0 := by
  have hi := stR_back l rest h k (by omega)
  have hz : l.getD k 0 ∈ l := by simp [List.getD, hk]
  have e : l.flatMap putOf ++ rest = (l.take k).flatMap putOf ++ putOf (l.getD k 0) ++ ((l.drop (k + 1)).flatMap putOf ++ rest) := by
    conv => lhs; rw [← List.take_append_drop (k + 1) l]
    rw [List.flatMap_append, flatI_step l k hk]
    simp
  have n := next_back ((l.take k).flatMap putOf) ((l.drop (k + 1)).flatMap putOf ++ rest) (l.getD k 0) (h _ hz)
  rw [← e] at n
  rw [valR, hi, n]
theorem recR_back (r : RecV) (h : okR r = true) : recR (bodyR r) = r ∧ (sL (bodyR r)).2.2 = false := by
  have d := okR_bd h
  have hz : ∀ z ∈ headR r, -1000000 ≤ z ∧ z ≤ 1000000 := by
    intro z hz
    simp only [headR, List.mem_cons, List.not_mem_nil, or_false] at hz
    have := d.lsn; have := d.tx; have := d.prev; have := d.kind; have := d.oid; have := d.next
    rcases hz with rfl | rfl | rfl | rfl | rfl | rfl <;> omega
  have e0 : bodyR r = (headR r).flatMap putOf ++ (putSlotOf r.bf ++ putSlotOf r.af ++ putOf r.txs.length ++ r.txs.flatMap putLive) := by simp [bodyR]
  have h6 := stR_back (headR r) (putSlotOf r.bf ++ putSlotOf r.af ++ putOf r.txs.length ++ r.txs.flatMap putLive) hz 6 (Nat.le_refl _)
  have hv := valR_back (headR r) (putSlotOf r.bf ++ putSlotOf r.af ++ putOf r.txs.length ++ r.txs.flatMap putLive) hz
  rw [← e0] at h6 hv
  rw [show (headR r).take 6 = headR r from rfl] at h6
  have e1 : bodyR r = (headR r).flatMap putOf ++ putSlotOf r.bf ++ (putSlotOf r.af ++ putOf r.txs.length ++ r.txs.flatMap putLive) := by simp [bodyR]
  have h1 := nextSlot_back ((headR r).flatMap putOf) (putSlotOf r.af ++ putOf r.txs.length ++ r.txs.flatMap putLive) r.bf d.bf
  rw [← e1] at h1
  have hB := (congrArg (nextSlotOf (bodyR r)) h6).trans h1
  change sB (bodyR r) = _ at hB
  have e2 : bodyR r = ((headR r).flatMap putOf ++ putSlotOf r.bf) ++ putSlotOf r.af ++ (putOf r.txs.length ++ r.txs.flatMap putLive) := by simp [bodyR]
  have h2 := nextSlot_back ((headR r).flatMap putOf ++ putSlotOf r.bf) (putOf r.txs.length ++ r.txs.flatMap putLive) r.af d.af
  rw [← e2] at h2
  have hA := (congrArg (fun z => nextSlotOf (bodyR r) z.2) hB).trans h2
  change sA (bodyR r) = _ at hA
  have e3 : bodyR r = ((headR r).flatMap putOf ++ putSlotOf r.bf ++ putSlotOf r.af) ++ putOf r.txs.length ++ r.txs.flatMap putLive := by simp [bodyR]
  have d20 := d.txs
  have h3 := next_back ((headR r).flatMap putOf ++ putSlotOf r.bf ++ putSlotOf r.af) (r.txs.flatMap putLive) (r.txs.length : Int) (by omega)
  rw [← e3] at h3
  have hN := (congrArg (fun z => nextOf (bodyR r) z.2) hA).trans h3
  change sN (bodyR r) = _ at hN
  have e4 : bodyR r = (((headR r).flatMap putOf ++ putSlotOf r.bf ++ putSlotOf r.af) ++ putOf r.txs.length) ++ r.txs.flatMap putLive ++ [] := by simp [bodyR]
  have h4 := livesOf_back r.txs (((headR r).flatMap putOf ++ putSlotOf r.bf ++ putSlotOf r.af) ++ putOf r.txs.length) [] [] (fun t ht => by have := d.each t ht; have := d.lsn; omega)
  rw [← e4] at h4
  have hm : min (r.txs.length : Int).toNat 30 = r.txs.length := by rw [Int.toNat_natCast]; exact Nat.min_eq_left (by omega)
  have hL : sL (bodyR r) = livesOf (bodyR r) r.txs.length [] ((((headR r).flatMap putOf ++ putSlotOf r.bf ++ putSlotOf r.af ++ putOf r.txs.length).length : Int), false) := by
    unfold sL
    rw [hN]
    simp only [hm]
  rw [h4] at hL
  constructor
  · unfold recR
    rw [hv 0 (show 0 < 6 by decide), hv 1 (show 1 < 6 by decide), hv 2 (show 2 < 6 by decide), hv 3 (show 3 < 6 by decide), hv 4 (show 4 < 6 by decide), hv 5 (show 5 < 6 by decide), hB, hA, hL]
    rfl
  · rw [hL]

/-- The record whose bytes these are, as the model finds it. -/
def getR (zs : List Int) : Option RecV := if (sL zs).2.2 = false ∧ okR (recR zs) = true ∧ putRecOf (recR zs) = zs then some (recR zs) else none
def noR : RecV := ⟨0, 0, 0, 0, 0, noS, noS, 0, []⟩
def pairR (zs : List Int) : RecV × Bool := match getR zs with
  | some x => (x, true)
  | none => (noR, false)
theorem getR_some {zs : List Int} {r : RecV} (h1 : okR r = true) (h2 : putRecOf r = zs) : getR zs = some r := by
  have e : bodyR r = zs := by rw [← h2, putRec_ok h1]
  obtain ⟨h3, h4⟩ := recR_back r h1
  rw [e] at h3 h4
  unfold getR
  rw [if_pos ⟨h4, by rw [h3]; exact h1, by rw [h3]; exact h2⟩, h3]
theorem getR_none {zs : List Int} (h : ¬ ∃ r, okR r = true ∧ putRecOf r = zs) : getR zs = none := by
  unfold getR
  rw [if_neg]
  rintro ⟨_, h1, h2⟩
  exact h ⟨_, h1, h2⟩
theorem getR_ok {zs : List Int} {r : RecV} (h : getR zs = some r) : okR r = true ∧ putRecOf r = zs := by
  unfold getR at h
  split at h
  · rename_i hh
    simp only [Option.some.injEq] at h
    rw [h] at hh
    exact ⟨hh.2.1, hh.2.2⟩
  · cases h
/-- The model's pair. -/
theorem pairR_bad {zs : List Int} (h : (sL zs).2.2 = true) : pairR zs = (noR, false) := by
  have : getR zs = none := by unfold getR; rw [if_neg]; rintro ⟨h1, _⟩; rw [h] at h1; cases h1
  unfold pairR; rw [this]
theorem pairR_no {zs : List Int} (h : okR (recR zs) = false) : pairR zs = (noR, false) := by
  have : getR zs = none := by unfold getR; rw [if_neg]; rintro ⟨_, h1, _⟩; rw [h] at h1; cases h1
  unfold pairR; rw [this]
theorem pairR_ne {zs : List Int} (h : putRecOf (recR zs) ≠ zs) : pairR zs = (noR, false) := by
  have : getR zs = none := by unfold getR; rw [if_neg]; rintro ⟨_, _, h1⟩; exact h h1
  unfold pairR; rw [this]
theorem pairR_yes {zs : List Int} (h : (sL zs).2.2 = false) (h1 : okR (recR zs) = true) (h2 : putRecOf (recR zs) = zs) : pairR zs = (recR zs, true) := by
  have : getR zs = some (recR zs) := by unfold getR; rw [if_pos ⟨h, h1, h2⟩]
  unfold pairR; rw [this]
/-- The landed code finds the same. -/
theorem pairR_none {zs : List Int} (h : readR zs = none) : pairR zs = (noR, false) := by
  have : getR zs = none := getR_none (by
    rintro ⟨r, h1, h2⟩
    rw [putRec_ok h1] at h2
    rw [← h2, readR_back r h1] at h
    cases h)
  unfold pairR; rw [this]
theorem pairR_wrong {zs : List Int} {r : RecV} (h : readR zs = some r) (hok : okR r = false) : pairR zs = (noR, false) := by
  have : getR zs = none := getR_none (by
    rintro ⟨r', h1, h2⟩
    rw [putRec_ok h1] at h2
    rw [← h2, readR_back r' h1] at h
    simp only [Option.some.injEq] at h
    subst h
    rw [h1] at hok
    cases hok)
  unfold pairR; rw [this]
theorem pairR_some {zs : List Int} (hb : Bytes zs) {r : RecV} (h : readR zs = some r) (hok : okR r = true) : pairR zs = (r, true) := by
  have hc := readR_canon zs hb r h
  have : getR zs = some r := getR_some hok (by rw [putRec_ok hok]; exact hc.symm)
  unfold pairR; rw [this]
theorem pairR_ok {zs : List Int} (h : (pairR zs).2 = true) : okR (pairR zs).1 = true ∧ putRecOf (pairR zs).1 = zs := by
  unfold pairR at *
  cases hg : getR zs with
  | none => rw [hg] at h; cases h
  | some r => simp only; exact getR_ok hg
end Go.Proofs.YtickiokdcbeefabDoor

/- The walk of impl.SameObj. -/
namespace Go.Proofs.YtickiokdcbeefabDoor
open Go.RowKit

set_option maxHeartbeats 400000 in
theorem equalInts_any (a b : Option Addr) (ca cb : Nat) (xs ys : List Int) (w : World) (ha : ReadsI w a xs) (hb : ReadsI w b ys) (hl : xs.length ≤ 1099511627776) (hl2 : ys.length ≤ 1099511627776) :
    Calls Tryd.prog 76 #[.slice a xs.length ca, .slice b ys.length cb] w fun e w' => e = .returned (.bool (decide (xs = ys))) ∧ ∃ n, w' = w.drewN n := by
  by_cases hle : xs.length = ys.length
  case neg =>
    have HE : Hid (_ = _) := ne_len hle
    have hle' : ((xs.length : Int) == (ys.length : Int)) = false := by simp; omega
    go_enter Tryd.func76, Tryd.ntmps76
    go_wp2
    go_ret
    exact ⟨ret_bool HE.out.symm, 0, rfl⟩
  case pos =>
  have HL : Hid (xs.length = ys.length) := hle
  have hle' : ((xs.length : Int) == (ys.length : Int)) = true := by simp; omega
  rcases ha.cases with rfl | ⟨b1, o1, rfl, hpos, hc1⟩
  · obtain rfl : ys = [] := List.length_eq_zero_iff.1 (by simpa using hle.symm)
    have HE : Hid (decide (([] : List Int) = []) = true) := by simp [Hid]
    clear hle hle' HL
    go_enter Tryd.func76, Tryd.ntmps76
    go_wp2
    refine wp_loop_rounds 1 ?_
    rw [rounds_succ]
    go_wp2
    go_ret
    exact ⟨ret_bool HE.out.symm, 0, rfl⟩
  · rcases hb.cases with rfl | ⟨b2, o2, rfl, _, hc2⟩
    · simp at hle; simp [hle] at hpos
    · clear hle
      go_enter Tryd.func76, Tryd.ntmps76
      go_wp2
      go_loopw [13] (fun i wr => ∃ k : Nat, k ≤ xs.length ∧ i = .int .i64 k ∧ Hid (∀ t, t < k → xs.getD t 0 = ys.getD t 0) ∧ ∃ n, wr = w.drewN n) (fun i _ => xs.length - (intOf i).toNat)
      case atStart => exact ⟨0, Nat.zero_le _, rfl, fun t ht => by omega, 0, rfl⟩
      case round =>
        obtain ⟨k, hk, rfl, hall, n, rfl⟩ := hrel
        by_cases hlt : k < xs.length
        · have h1 := hc1 k hlt
          have h2 := hc2 k (by have := HL.out; omega)
          have hlt2 : (k : Int) < (ys.length : Int) := by have := HL.out; omega
          clear hc1 hc2
          by_cases hz : xs.getD k 0 = ys.getD k 0
          · have HN : Hid (∀ t, t < k + 1 → xs.getD t 0 = ys.getD t 0) := by
              intro t ht
              by_cases e : t = k
              · rw [e]; exact hz
              · exact hall.out t (by omega)
            rw [← hz] at h2
            clear hz
            generalize xs.getD k 0 = z at *
            go_wp2
            go_quiet (fail)
            go_wp2
            go_roundw
            case rel => exact ⟨k + 1, by omega, by go_num, HN, _, rfl⟩
            case measure => simp [intOf]; omega
          · have HE : Hid (_ = _) := ne_at k hz
            have hzb : (xs.getD k 0 == ys.getD k 0) = false := by simpa using hz
            clear hz
            generalize xs.getD k 0 = z at *
            generalize ys.getD k 0 = y at *
            go_wp2
            go_quiet (fail)
            go_wp2
            go_ret
            exact ⟨ret_bool HE.out.symm, n + nq, by first | rfl | simp⟩
        · have HE : Hid (_ = _) := eq_all HL.out (fun t ht => hall.out t (by omega))
          go_wp2
          go_ret
          exact ⟨ret_bool HE.out.symm, n, rfl⟩

set_option maxHeartbeats 1000000 in
set_option maxRecDepth 100000 in
theorem implSameObj_any (o p : ObjV) (aI : Option Addr) (cI : Nat) (aR : Option Addr) (cR : Nat) (bI : Option Addr) (dI : Nat) (bR : Option Addr) (dR : Nat) (w : World) (ha : ReadsO w aI cI aR cR o) (hb : ReadsO w bI dI bR dR p) (h1 : o.ints.length ≤ 1099511627776) (h2 : o.refs.length ≤ 1099511627776) (h3 : p.ints.length ≤ 1099511627776) (h4 : p.refs.length ≤ 1099511627776) :
    Calls Tryd.prog 66 #[.agg #[.int .i64 o.kind, .slice aI o.ints.length cI, .slice aR o.refs.length cR], .agg #[.int .i64 p.kind, .slice bI p.ints.length dI, .slice bR p.refs.length dR]] w fun e w' => e = .returned (.bool (sameO o p)) ∧ Below w.heap.size w w' := by
  obtain ⟨k, ints, refs⟩ := o
  obtain ⟨k', ints', refs'⟩ := p
  obtain ⟨haI, haR, _, _⟩ := ha
  obtain ⟨hbI, hbR, _, _⟩ := hb
  simp only at *
  obtain ⟨W, hW, b0, b1, hbW, hsW⟩ := boxes2 w [.int .i64 k, .slice aI ints.length cI, .slice aR refs.length cR] [.int .i64 k', .slice bI ints'.length dI, .slice bR refs'.length dR] 44 44
  by_cases hk : k = k'
  case neg =>
    have HE : Hid (sameO ⟨k, ints, refs⟩ ⟨k', ints', refs'⟩ = false) := by simp [Hid, sameO, hk]
    have hkb : (k == k') = false := by simpa using hk
    clear hk
    go_enter Tryd.func66, Tryd.ntmps66
    go_wp2
    go_ret
    exact ⟨ret_bool HE.out.symm, by rw [hW.out]; exact hbW⟩
  case pos =>
  subst hk
  have HE : Hid (sameO ⟨k, ints, refs⟩ ⟨k, ints', refs'⟩ = (decide (ints = ints') && decide (refs = refs'))) := by simp [Hid, sameO]
  go_enter Tryd.func66, Tryd.ntmps66
  go_wp2_with fail
  rw [hW.out]
  refine (equalInts_any aI bI cI dI ints ints' W (haI.below hbW) (hbI.below hbW) h1 h3).mono ?_
  rintro e w1 ⟨rfl, n1, rfl⟩
  have c0 := (b0.drewN n1).cell 2 _ rfl
  have c1 := (b1.drewN n1).cell 2 _ rfl
  have hb1 : Below w.heap.size w (W.drewN n1) := below_drewN hbW n1
  cases hd : decide (ints = ints') with
  | false =>
    rw [hd] at HE
    clear hd
    go_wp2
    go_ret
    exact ⟨ret_bool (by rw [HE.out]; rfl), hb1⟩
  | true =>
    rw [hd] at HE
    clear hd
    go_wp2_with fail
    refine (equalInts_any aR bR cR dR refs refs' (W.drewN n1) (haR.below hb1) (hbR.below hb1) h2 h4).mono ?_
    rintro e w2 ⟨rfl, n2, rfl⟩
    generalize decide (refs = refs') = D at *
    go_wp2
    go_ret
    exact ⟨ret_bool (by rw [HE.out]; rfl), below_drewN hbW (n1 + n2)⟩
end Go.Proofs.YtickiokdcbeefabDoor

/- Appending Lives that are read to a row that the call owns. -/
namespace Go.Proofs.YtickiokdcbeefabDoor
open Go.RowKit

theorem lives_oneCell (zs : List LiveV) : ∀ v ∈ cellsL zs, v.oneCell' = true := by
  intro v hv
  obtain ⟨s, _, hs⟩ := List.mem_flatMap.1 hv
  simp only [LiveV.cells, List.mem_cons, List.not_mem_nil, or_false] at hs
  rcases hs with rfl | rfl | rfl <;> rfl

theorem readsL_one (w : World) (z : LiveV) (t : TypeId) : ReadsL (w.alloc (.cells #[.int .i64 z.tx, .int .i64 z.last, .bool z.aborts] t)) (some ⟨w.heap.size, 0, none⟩) [z] := by
  intro _
  refine ⟨w.heap.size, 0, rfl, fun k hk => ?_⟩
  obtain rfl : k = 0 := by simpa using hk
  have b : Box (w.alloc (.cells #[.int .i64 z.tx, .int .i64 z.last, .bool z.aborts] t)) w.heap.size [.int .i64 z.tx, .int .i64 z.last, .bool z.aborts] t := box_new _ _ _
  exact ⟨b.cell 0 _ rfl, b.cell 1 _ rfl, b.cell 2 _ rfl⟩
end Go.Proofs.YtickiokdcbeefabDoor

/- Rows of Holds: what they are, what a walk reads and owns of them. -/
namespace Go.Proofs.YtickiokdcbeefabDoor
open Go.RowKit

structure HoldV where
  tx : Int
  oid : Int
def HoldV.cells (l : HoldV) : List Value := [.int .i64 l.tx, .int .i64 l.oid]
def zeroH : HoldV := ⟨0, 0⟩
def cellsH (ls : List HoldV) : List Value := ls.flatMap HoldV.cells
theorem cellsH_len (ls : List HoldV) : (cellsH ls).length = ls.length * 2 := by
  induction ls with
  | nil => rfl
  | cons s r ih => simp only [cellsH, List.flatMap_cons, List.length_append, HoldV.cells, List.length_cons, List.length_nil] at *; omega
theorem cellsH_app (a b : List HoldV) : cellsH (a ++ b) = cellsH a ++ cellsH b := by simp [cellsH]
theorem cellsH_at (ls : List HoldV) (k j : Nat) (hk : k < ls.length) (hj : j < 2) : (cellsH ls)[k * 2 + j]? = (ls.getD k zeroH).cells[j]? := by
  induction ls generalizing k with
  | nil => simp at hk
  | cons s r ih =>
    have e : cellsH (s :: r) = s.cells ++ cellsH r := by simp [cellsH]
    have l3 : s.cells.length = 2 := rfl
    rw [e]
    cases k with
    | zero => rw [List.getElem?_append_left (by rw [l3]; omega)]; simp
    | succ k =>
      rw [List.getElem?_append_right (by rw [l3]; omega), l3]
      have := ih k (by simpa using hk)
      rw [show (k + 1) * 2 + j - 2 = k * 2 + j by omega, this]
      simp
theorem cellsH_set (ls : List HoldV) (k : Nat) (hk : k < ls.length) (t : HoldV) :
    ((cellsH ls).set (k * 2) (.int .i64 t.tx)).set (k * 2 + 1) (.int .i64 t.oid) = cellsH (ls.set k t) := by
  induction ls generalizing k with
  | nil => simp at hk
  | cons s r ih =>
    cases k with
    | zero => simp [cellsH, HoldV.cells]
    | succ k =>
      have := ih k (by simpa using hk)
      have e2 : ∀ x, cellsH (s :: x) = s.cells ++ cellsH x := fun x => by simp [cellsH]
      have l3 : s.cells.length = 2 := rfl
      rw [e2, List.set_append_right _ _ (by rw [l3]; omega), List.set_append_right _ _ (by rw [l3]; omega), l3, show (k + 1) * 2 - 2 = k * 2 by omega, show (k + 1) * 2 + 1 - 2 = k * 2 + 1 by omega, this, List.set_cons_succ, e2]

/-- The slice at a reads these. -/
def ReadsH (w : World) (a : Option Addr) (ls : List HoldV) : Prop := ls ≠ [] → ∃ b off, a = some ⟨b, off, none⟩ ∧ ∀ k, k < ls.length → w.cell? ⟨b, off + k * 2, none⟩ = some (.int .i64 (ls.getD k zeroH).tx) ∧ w.cell? ⟨b, off + k * 2 + 1, none⟩ = some (.int .i64 (ls.getD k zeroH).oid)
theorem ReadsH.nil (w : World) (a : Option Addr) : ReadsH w a [] := fun h => absurd rfl h
theorem ReadsH.below {w w' : World} {a : Option Addr} {ls : List HoldV} (h : ReadsH w a ls) (hb : Below w.heap.size w w') : ReadsH w' a ls := by
  intro hne
  obtain ⟨b, off, ha, hc⟩ := h hne
  refine ⟨b, off, ha, fun k hk => ?_⟩
  obtain ⟨h0, h1⟩ := hc k hk
  have hlt := block_lt h0
  exact ⟨by rw [hb.cell (p := ⟨b, off + k * 2, none⟩) hlt]; exact h0, by rw [hb.cell (p := ⟨b, off + k * 2 + 1, none⟩) hlt]; exact h1⟩
theorem ReadsH.cases {w : World} {a : Option Addr} {ls : List HoldV} (h : ReadsH w a ls) : ls = [] ∨ ∃ b off, a = some ⟨b, off, none⟩ ∧ 0 < ls.length ∧ ∀ k, k < ls.length → w.cell? ⟨b, off + k * 2, none⟩ = some (.int .i64 (ls.getD k zeroH).tx) ∧ w.cell? ⟨b, off + k * 2 + 1, none⟩ = some (.int .i64 (ls.getD k zeroH).oid) := by
  by_cases e : ls = []
  · exact .inl e
  · obtain ⟨b, off, ha, hc⟩ := h e
    exact .inr ⟨b, off, ha, List.length_pos_iff.2 e, hc⟩

theorem holds_oneCell (zs : List HoldV) : ∀ v ∈ cellsH zs, v.oneCell' = true := by
  intro v hv
  obtain ⟨s, _, hs⟩ := List.mem_flatMap.1 hv
  simp only [HoldV.cells, List.mem_cons, List.not_mem_nil, or_false] at hs
  rcases hs with rfl | rfl <;> rfl

theorem readsH_one (w : World) (z : HoldV) (t : TypeId) : ReadsH (w.alloc (.cells #[.int .i64 z.tx, .int .i64 z.oid] t)) (some ⟨w.heap.size, 0, none⟩) [z] := by
  intro _
  refine ⟨w.heap.size, 0, rfl, fun k hk => ?_⟩
  obtain rfl : k = 0 := by simpa using hk
  have b : Box (w.alloc (.cells #[.int .i64 z.tx, .int .i64 z.oid] t)) w.heap.size [.int .i64 z.tx, .int .i64 z.oid] t := box_new _ _ _
  exact ⟨b.cell 0 _ rfl, b.cell 1 _ rfl⟩
end Go.Proofs.YtickiokdcbeefabDoor

/- The cursor of a draw: what spec.l1Byte and spec.l1Below answer and leave. -/
namespace Go.Proofs.YtickiokdcbeefabDoor
open Go.RowKit

theorem cell_of3 {w : World} {B : Nat} {v0 v1 v2 : Value} {t : TypeId} (h : w.heap[B]? = some (.cells #[v0, v1, v2] t (0, 0))) :
    w.cell? ⟨B, 0, none⟩ = some v0 ∧ w.cell? ⟨B, 1, none⟩ = some v1 ∧ w.cell? ⟨B, 2, none⟩ = some v2 ∧ (∀ o, w.frozen? ⟨B, o, none⟩ = false) := by
  refine ⟨?_, ?_, ?_, fun o => ?_⟩
  · simp [World.cell?, h]
  · simp [World.cell?, h]
  · simp [World.cell?, h]
  · simp [World.frozen?, h]

theorem set_of3 {w : World} {B : Nat} {v0 v1 v2 u : Value} {t : TypeId} (h : w.heap[B]? = some (.cells #[v0, v1, v2] t (0, 0))) :
    (w.setCell ⟨B, 1, none⟩ u).heap[B]? = some (.cells #[v0, u, v2] t (0, 0)) ∧ (w.setCell ⟨B, 2, none⟩ u).heap[B]? = some (.cells #[v0, v1, u] t (0, 0)) := by
  constructor
  · rw [heap_setCell_same w B 1 _ t u h]; simp
  · rw [heap_setCell_same w B 2 _ t u h]; simp

theorem grown_set (w : World) (B o : Nat) (u : Value) : w.grownBy (w.setCell ⟨B, o, none⟩ u) (some B) :=
  ⟨rfl, rfl, rfl, by simp, fun k _ hk => heap_setCell_other w ⟨B, o, none⟩ k u (fun e => hk (by simp [e]))⟩

theorem grown_drew_set (w : World) (n B o : Nat) (u : Value) : w.grownBy ((w.drewN n).setCell ⟨B, o, none⟩ u) (some B) :=
  ⟨rfl, rfl, rfl, by simp, fun k _ hk => heap_setCell_other (w.drewN n) ⟨B, o, none⟩ k u (fun e => hk (by simp [e]))⟩

theorem Reads.grown {w w' : World} {a : Option Addr} {zs : List Int} {B : Nat} (h : Reads w a zs) (hg : w.grownBy w' (some B)) (hne : zs ≠ [] → ∀ b off, a = some ⟨b, off, none⟩ → b ≠ B) : Reads w' a zs := by
  refine ⟨h.1, fun e => ?_⟩
  obtain ⟨b, off, ha, hc⟩ := h.2 e
  refine ⟨b, off, ha, fun i hi => hg.cell (hc i hi) ?_⟩
  intro he
  exact hne e b off ha (Option.some.inj he)

theorem grownBy_new {w w1 w2 : World} {r row : Option Nat} (h : w.grownBy w1 r) (hg : w1.grownBy w2 row) (hrow : ∀ k, row = some k → w.heap.size ≤ k) : w.grownBy w2 r :=
  ⟨hg.os.trans h.os, hg.tape.trans h.tape, hg.output.trans h.output, Nat.le_trans h.size hg.size, fun k hk hr => (hg.block k (Nat.lt_of_lt_of_le hk h.size) (fun e => by have := hrow k e.symm; omega)).trans (h.block k hk hr)⟩

theorem i64_and255 (n : Int) : bits .and .i64 n 255 = n % 256 := by
  have h1 : (BitVec.ofInt 64 255).toNat = 2 ^ 8 - 1 := by decide
  have key : (BitVec.ofInt 64 n &&& BitVec.ofInt 64 255).toNat = (n % ((2 ^ 64 : Nat) : Int)).toNat % 2 ^ 8 := by
    rw [BitVec.toNat_and, BitVec.toNat_ofInt, h1, Nat.and_two_pow_sub_one_eq_mod]
  show IntKind.i64.wrap ((BitVec.ofInt 64 n &&& BitVec.ofInt 64 255).toNat : Nat) = n % 256
  rw [key, IntKind.wrap_i64]
  omega

theorem ret_nat {a : Int} (h0 : 0 ≤ a) : Ending.returned (.int .i64 a) = .returned (.int .i64 ((a.toNat : Nat) : Int)) := by rw [Int.toNat_of_nonneg h0]

end Go.Proofs.YtickiokdcbeefabDoor

/- The walks of spec.l1Int, l1Bytes and l1New. -/
namespace Go.Proofs.YtickiokdcbeefabDoor
open Go.RowKit

end Go.Proofs.YtickiokdcbeefabDoor
