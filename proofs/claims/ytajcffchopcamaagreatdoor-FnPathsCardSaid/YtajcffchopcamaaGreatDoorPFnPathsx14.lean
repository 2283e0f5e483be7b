/- Several texts in one, in their order. -/
import Derived.Test.YtajcffchopcamaaGreatDoorPFnPathsx13
import Derived.MapKept
import Derived.Maps.Own
import Derived.Test.YtajcffchopcamaaGreatDoorPFnPathsx3
import Derived.Deep.RegionHeld3
/- What is marked is what is reached. -/
namespace Go.Proofs.YtajcffchopcamaaGreatDoor

/-! ## What is reached -/
inductive ReachM (vs : List SlotV) (root : Int) : Int → Prop
  | root : hasM vs root = true → ReachM vs root root
  | step {i r : Int} : ReachM vs root i → r ∈ refsM vs i → hasM vs r = true → ReachM vs root r
theorem ReachM.has {vs : List SlotV} {root i : Int} (h : ReachM vs root i) : hasM vs i = true := by cases h <;> assumption
theorem ReachM.rng {vs : List SlotV} (hv : RngM vs) {root i : Int} (hr : 0 ≤ root ∧ root ≤ 31) (h : ReachM vs root i) : 0 ≤ i ∧ i ≤ 31 := by
  cases h with
  | root _ => exact hr
  | step _ h2 _ => exact hv _ _ h2
theorem metM_set {S : List Bool} {x i : Int} (hS : S.length = 32) (hx : 0 ≤ x ∧ x ≤ 31) (hi : 0 ≤ i) : metM (S.set x.toNat true) i = (metM S i || decide (i = x)) := by
  unfold metM
  by_cases e : i = x
  · subst e
    simp [List.getD, show i.toNat < S.length by omega]
  · have e2 : x.toNat ≠ i.toNat := by omega
    simp [List.getD, List.getElem?_set_ne e2, e]
/-- What stands of a state: marks are reached; who lacks something stands on the stack, or something was left over, or it is being looked at. -/
structure RchM (vs : List SlotV) (root : Int) (X : Int → Prop) (st : MSt) : Prop where
  base : hasM vs root = true → metM st.met root = true
  sound : ∀ i, 0 ≤ i → metM st.met i = true → ReachM vs root i
  stk : ∀ x ∈ st.stack, metM st.met x = true
  cover : ∀ i, 0 ≤ i → metM st.met i = true → lackM vs st.met i = true → i ∈ st.stack ∨ st.left = true ∨ X i
theorem lackM_mono {vs : List SlotV} {S S' : List Bool} {i : Int} (hS : ∀ r, 0 ≤ r → metM S r = true → metM S' r = true) (hv : RngM vs) (h : lackM vs S' i = true) : lackM vs S i = true := by
  unfold lackM at h ⊢
  rw [List.any_eq_true] at h ⊢
  obtain ⟨r, hr, hm⟩ := h
  refine ⟨r, hr, ?_⟩
  unfold missM at hm ⊢
  simp only [Bool.and_eq_true, Bool.not_eq_true'] at hm ⊢
  refine ⟨hm.1, ?_⟩
  cases e : metM S r
  · rfl
  · rw [hS r (hv _ _ hr).1 e] at hm
    exact absurd hm.2 (by decide)
theorem refM_rch {vs : List SlotV} (hv : RngM vs) {root : Int} (h0 : 0 ≤ root) {X : Int → Prop} {most : Nat} {st : MSt} (g : GoodM most st) (h : RchM vs root X st) {r : Int} (hr : 0 ≤ r ∧ r ≤ 31) (hre : hasM vs r = true → ReachM vs root r) : RchM vs root X (refM vs most st r) ∧ (∀ i, 0 ≤ i → metM st.met i = true → metM (refM vs most st r).met i = true) ∧ missM vs (refM vs most st r).met r = false := by
  unfold refM
  by_cases hm : missM vs st.met r = true
  · rw [if_pos hm]
    have hset : ∀ i, 0 ≤ i → metM (st.met.set r.toNat true) i = (metM st.met i || decide (i = r)) := fun i hi => metM_set g.len hr hi
    have hmono : ∀ i, 0 ≤ i → metM st.met i = true → metM (st.met.set r.toNat true) i = true := fun i hi h => by rw [hset i hi, h]; rfl
    have hrr : metM (st.met.set r.toNat true) r = true := by rw [hset r hr.1]; simp
    have hh : hasM vs r = true := by unfold missM at hm; simp only [Bool.and_eq_true] at hm; exact hm.1
    unfold markM
    refine ⟨⟨fun hh0 => by rw [putM_met]; exact hmono root h0 (h.base hh0), fun i hi hmi => ?_, fun x hx => ?_, fun i hi hmi hl => ?_⟩, fun i hi h => by rw [putM_met]; exact hmono i hi h, by rw [putM_met]; unfold missM; simp only; rw [hrr]; simp⟩
    · rw [putM_met] at hmi
      simp only at hmi
      rw [hset i hi] at hmi
      simp only [Bool.or_eq_true, decide_eq_true_eq] at hmi
      rcases hmi with h1 | rfl
      · exact h.sound i hi h1
      · exact hre hh
    · rw [putM_met]
      unfold putM at hx
      split at hx
      · rcases List.mem_append.1 hx with hx | hx
        · exact hmono x (g.rng x hx).1 (h.stk x hx)
        · obtain rfl := List.mem_singleton.1 hx; exact hrr
      · exact hmono x (g.rng x hx).1 (h.stk x hx)
    · rw [putM_met] at hmi hl
      simp only at hmi hl
      rw [hset i hi] at hmi
      simp only [Bool.or_eq_true, decide_eq_true_eq] at hmi
      unfold putM
      rcases hmi with h1 | rfl
      · rcases h.cover i hi h1 (lackM_mono hmono hv hl) with h2 | h2 | h2
        · split
          · exact .inl (List.mem_append.2 (.inl h2))
          · exact .inr (.inl rfl)
        · split
          · exact .inr (.inl h2)
          · exact .inr (.inl rfl)
        · exact .inr (.inr h2)
      · split
        · exact .inl (by simp)
        · exact .inr (.inl rfl)
  · rw [if_neg hm]
    exact ⟨h, fun _ _ h => h, by simpa using hm⟩
theorem foldM_rch {vs : List SlotV} (hv : RngM vs) {root : Int} (h0 : 0 ≤ root) {X : Int → Prop} {most : Nat} : ∀ (F : List Int) (st : MSt), GoodM most st → RchM vs root X st → (∀ r ∈ F, 0 ≤ r ∧ r ≤ 31) → (∀ r ∈ F, hasM vs r = true → ReachM vs root r) → RchM vs root X (F.foldl (refM vs most) st) ∧ (∀ i, 0 ≤ i → metM st.met i = true → metM (F.foldl (refM vs most) st).met i = true) ∧ ∀ r ∈ F, missM vs (F.foldl (refM vs most) st).met r = false := by
  intro F
  induction F with
  | nil => intro st _ h _ _; exact ⟨h, fun _ _ h => h, fun r hr => by simp at hr⟩
  | cons r F ih =>
    intro st g h hr hre
    obtain ⟨a, b, c⟩ := refM_rch hv h0 g h (hr r (by simp)) (hre r (by simp))
    obtain ⟨a2, b2, c2⟩ := ih _ (refM_good g (hr r (by simp))) a (fun x hx => hr x (by simp [hx])) (fun x hx => hre x (by simp [hx]))
    refine ⟨a2, fun i hi h => b2 i hi (b i hi h), fun x hx => ?_⟩
    rcases List.mem_cons.1 hx with rfl | hx
    · simp only [List.foldl_cons]
      unfold missM at c ⊢
      cases hh : hasM vs x
      · rfl
      · rw [hh] at c
        simp only [Bool.true_and, Bool.not_eq_false'] at c ⊢
        exact b2 x (hr x (by simp)).1 c
    · exact c2 x hx
theorem popM_rch {vs : List SlotV} (hv : RngM vs) {root : Int} (hp : 0 ≤ root) {most : Nat} {st : MSt} (g : GoodM most st) (h : RchM vs root (fun _ => False) st) (hne : st.stack ≠ []) : RchM vs root (fun _ => False) (popM vs most st) := by
  have hmem := topM_mem hne
  have hr0 := g.rng _ hmem
  have hreach := h.sound _ hr0.1 (h.stk _ hmem)
  have h0 : RchM vs root (fun i => i = topM st) (cutM st) := by
    refine ⟨h.base, h.sound, fun x hx => h.stk x (List.dropLast_subset _ hx), fun i hi hm hl => ?_⟩
    rcases h.cover i hi hm hl with h1 | h1 | h1
    · by_cases e : i = topM st
      · exact .inr (.inr e)
      · left
        have e2 : st.stack = st.stack.dropLast ++ [topM st] := by
          conv => lhs; rw [← List.dropLast_concat_getLast hne]
          rw [topM, List.getLastD_eq_getLast?, List.getLast?_eq_some_getLast hne]
          rfl
        rw [e2] at h1
        rcases List.mem_append.1 h1 with h1 | h1
        · exact h1
        · exact absurd (List.mem_singleton.1 h1) e
    · exact .inr (.inl h1)
    · exact absurd h1 id
  obtain ⟨a, _, c⟩ := foldM_rch hv hp (refsM vs (topM st)) (cutM st) (cutM_good g) h0 (hv _) (fun r hr hh => .step hreach hr hh)
  refine ⟨a.base, a.sound, a.stk, fun i hi hm hl => ?_⟩
  rcases a.cover i hi hm hl with h1 | h1 | h1
  · exact .inl h1
  · exact .inr (.inl h1)
  · exfalso
    rw [h1] at hl
    unfold lackM at hl
    rw [List.any_eq_true] at hl
    obtain ⟨r, hr, hx⟩ := hl
    have := c r hr
    unfold popM at hx
    rw [this] at hx
    cases hx
theorem drainM_rch {vs : List SlotV} (hv : RngM vs) {root : Int} (hp : 0 ≤ root) {most : Nat} : ∀ (n : Nat) (st : MSt), GoodM most st → RchM vs root (fun _ => False) st → RchM vs root (fun _ => False) (drainM vs most n st) := by
  intro n
  induction n with
  | zero => intro st _ h; exact h
  | succ n ih =>
    intro st g h
    unfold drainM
    split
    · exact h
    · rename_i e
      exact ih _ (popM_good hv g e).1 (popM_rch hv hp g h e)
theorem lookM_rch {vs : List SlotV} {most : Nat} (S : List Bool) : ∀ (L : List Nat) (st : MSt), st.met = S → (∀ x ∈ st.stack, metM S x = true) →
    (L.foldl (lookM vs most) st).met = S ∧ (∀ x ∈ (L.foldl (lookM vs most) st).stack, metM S x = true) ∧ (∀ x, x ∈ st.stack ∨ st.left = true → x ∈ (L.foldl (lookM vs most) st).stack ∨ (L.foldl (lookM vs most) st).left = true) ∧ ∀ i ∈ L, metM S (i : Int) = true → lackM vs S i = true → (i : Int) ∈ (L.foldl (lookM vs most) st).stack ∨ (L.foldl (lookM vs most) st).left = true := by
  intro L
  induction L with
  | nil => intro st h1 h2; exact ⟨h1, h2, fun x h => h, fun i hi => by simp at hi⟩
  | cons i L ih =>
    intro st h1 h2
    have key : (lookM vs most st i).met = S ∧ (∀ x ∈ (lookM vs most st i).stack, metM S x = true) ∧ (∀ x, x ∈ st.stack ∨ st.left = true → x ∈ (lookM vs most st i).stack ∨ (lookM vs most st i).left = true) ∧ (metM S (i : Int) = true → lackM vs S i = true → (i : Int) ∈ (lookM vs most st i).stack ∨ (lookM vs most st i).left = true) := by
      unfold lookM
      rw [h1]
      split
      · rename_i hc
        simp only [Bool.and_eq_true] at hc
        rw [putM_met]
        unfold putM
        split
        · refine ⟨h1, fun x hx => ?_, fun x hx => ?_, fun _ _ => .inl (by simp)⟩
          · rcases List.mem_append.1 hx with hx | hx
            · exact h2 x hx
            · obtain rfl := List.mem_singleton.1 hx; exact hc.1
          · rcases hx with hx | hx
            · exact .inl (List.mem_append.2 (.inl hx))
            · exact .inr hx
        · exact ⟨h1, h2, fun x hx => .inr rfl, fun _ _ => .inr rfl⟩
      · rename_i hc
        refine ⟨h1, h2, fun x hx => hx, fun ha hb => absurd ?_ hc⟩
        rw [ha, hb]
        rfl
    obtain ⟨k1, k2, k3, k4⟩ := key
    obtain ⟨a, b, c, d⟩ := ih (lookM vs most st i) k1 k2
    refine ⟨a, b, fun x hx => c x (k3 x hx), fun j hj hm hl => ?_⟩
    rcases List.mem_cons.1 hj with rfl | hj
    · exact c _ (k4 hm hl)
    · exact d j hj hm hl
theorem anewM_rch {vs : List SlotV} {root : Int} {most : Nat} {st : MSt} (g : GoodM most st) (h : RchM vs root (fun _ => False) st) : RchM vs root (fun _ => False) (anewM vs most st) := by
  obtain ⟨a, b, _, d⟩ := lookM_rch (vs := vs) (most := most) st.met (List.range 32) (clearM st) rfl h.stk
  refine ⟨fun hh => by rw [show (anewM vs most st).met = st.met from a]; exact h.base hh, fun i hi hm => h.sound i hi (by rw [← a]; exact hm), fun x hx => by rw [show (anewM vs most st).met = st.met from a]; exact b x hx, fun i hi hm hl => ?_⟩
  rw [show (anewM vs most st).met = st.met from a] at hm hl
  have hi32 : i.toNat < 32 := by
    unfold metM at hm
    rcases Nat.lt_or_ge i.toNat 32 with h0 | h0
    · exact h0
    · simp [List.getD, List.getElem?_eq_none (by rw [g.len]; exact h0 : st.met.length ≤ i.toNat)] at hm
  have e : ((i.toNat : Nat) : Int) = i := by omega
  have := d i.toNat (List.mem_range.2 hi32) (by rw [e]; exact hm) (by rw [e]; exact hl)
  rw [e] at this
  rcases this with h1 | h1
  · exact .inl h1
  · exact .inr (.inl h1)
theorem loopM_all {vs : List SlotV} (hv : RngM vs) {root : Int} (hp : 0 ≤ root) {most : Nat} (h1 : 1 ≤ most) (h40 : most ≤ 40) : ∀ (n : Nat) (st : MSt), GoodM most st → st.stack = [] → restM st ≤ n → RchM vs root (fun _ => False) st →
    GoodM most (loopM vs most n st) ∧ (loopM vs most n st).stack = [] ∧ (loopM vs most n st).left = false ∧ RchM vs root (fun _ => False) (loopM vs most n st) ∧ st.anew ≤ (loopM vs most n st).anew := by
  intro n
  induction n with
  | zero =>
    intro st g he hr h
    have hl : st.left = false := by
      cases e : st.left
      · rfl
      · unfold restM at hr; rw [if_pos e] at hr; omega
    exact ⟨g, he, hl, h, Int.le_refl _⟩
  | succ n ih =>
    intro st g he hr h
    unfold loopM
    split
    · rename_i hl
      have hless := loopM_less hv h1 h40 g he hl
      obtain ⟨_, ha, hg⟩ := anewM_good (vs := vs) g
      obtain ⟨g2, e2, _⟩ := drainM_good hv 72 _ hg (hg.size h40)
      have r2 := drainM_rch hv hp 72 _ hg (anewM_rch g h)
      obtain ⟨a, b, c, d, e⟩ := ih _ g2 e2 (by omega) r2
      rw [drainM_anew, ha] at e
      exact ⟨a, b, c, d, by omega⟩
    · rename_i hl
      exact ⟨g, he, by simpa using hl, h, Int.le_refl _⟩
theorem metM_empty (i : Int) : metM emptyM.met i = false := by
  unfold metM emptyM
  simp only [List.getD, List.getElem?_replicate]
  split <;> rfl
theorem start_rch {vs : List SlotV} {most : Nat} (h1 : 1 ≤ most) {root : Int} (hr : 0 ≤ root ∧ root ≤ 31) : RchM vs root (fun _ => False) (refM vs most emptyM root) := by
  unfold refM
  split
  · rename_i hm
    have hh : hasM vs root = true := by unfold missM at hm; simp only [Bool.and_eq_true] at hm; exact hm.1
    have e : markM most emptyM root = ⟨emptyM.met.set root.toNat true, [root], false, 0⟩ := by
      unfold markM putM
      rw [if_pos (by simp [emptyM]; omega)]
      rfl
    have hset : ∀ i, 0 ≤ i → metM (emptyM.met.set root.toNat true) i = decide (i = root) := fun i hi => by rw [metM_set (by simp [emptyM]) hr hi, metM_empty, Bool.false_or]
    rw [e]
    refine ⟨fun _ => by rw [hset root hr.1]; simp, fun i hi hmi => ?_, fun x hx => ?_, fun i hi hmi _ => ?_⟩
    · rw [hset i hi] at hmi
      rw [of_decide_eq_true hmi]
      exact .root hh
    · rw [List.mem_singleton.1 hx, hset root hr.1]
      simp
    · rw [hset i hi] at hmi
      exact .inl (List.mem_singleton.2 (of_decide_eq_true hmi))
  · rename_i hm
    refine ⟨fun hh => absurd ?_ hm, fun i _ h => ?_, fun x hx => by simp [emptyM] at hx, fun i _ h => ?_⟩
    · unfold missM
      rw [hh, metM_empty]
      rfl
    · rw [metM_empty] at h; cases h
    · rw [metM_empty] at h; cases h
theorem rch_end {vs : List SlotV} (hv : RngM vs) {root : Int} (hr : 0 ≤ root ∧ root ≤ 31) {st : MSt} (h : RchM vs root (fun _ => False) st) (he : st.stack = []) (hl : st.left = false) : ∀ i, 0 ≤ i → (metM st.met i = true ↔ ReachM vs root i) := by
  intro i hi
  refine ⟨h.sound i hi, fun hre => ?_⟩
  clear hi
  induction hre with
  | root hh => exact h.base hh
  | step h1 h2 h3 ih =>
    rename_i i r
    have hi := h1.rng hv hr
    cases hm : metM st.met r
    · exfalso
      have hlk : lackM vs st.met i = true := by
        unfold lackM
        rw [List.any_eq_true]
        exact ⟨r, h2, by unfold missM; rw [h3, hm]; rfl⟩
      rcases h.cover i hi.1 ih hlk with h4 | h4 | h4
      · rw [he] at h4; simp at h4
      · rw [hl] at h4; cases h4
      · exact h4
    · rfl
/-- What the marks are, whatever room the stack has. -/
theorem runM_reach {vs : List SlotV} (hv : RngM vs) {most : Nat} (h1 : 1 ≤ most) (h40 : most ≤ 40) {root : Int} (hr : 0 ≤ root ∧ root ≤ 31) : (runM vs most root).met.length = 32 ∧ 0 ≤ (runM vs most root).anew ∧ ∀ i, 0 ≤ i → (metM (runM vs most root).met i = true ↔ ReachM vs root i) := by
  obtain ⟨g, e⟩ := firstM_good hv h40 hr
  have g0 := refM_good (vs := vs) (emptyM_good most) hr
  have r := drainM_rch hv hr.1 72 _ g0 (start_rch h1 hr)
  obtain ⟨a, b, c, d, f⟩ := loopM_all hv hr.1 h1 h40 65 _ g e (restM_le g) r
  refine ⟨a.len, ?_, rch_end hv hr d b c⟩
  rw [firstM, drainM_anew, refM_anew] at f
  exact f
end Go.Proofs.YtajcffchopcamaaGreatDoor

/- A search in breadth: what stands of it; the list of what is marked. -/
namespace Go.Proofs.YtajcffchopcamaaGreatDoor

/-- What is marked, ascending. -/
def reachL (S : List Bool) : List Int := ((List.range 32).map (fun i : Nat => (i : Int))).filter (fun i => metM S i)
def reachTo (S : List Bool) (n : Nat) : List Int := ((List.range n).map (fun i : Nat => (i : Int))).filter (fun i => metM S i)
theorem reachTo_step (S : List Bool) (n : Nat) : reachTo S (n + 1) = if S.getD n false = true then reachTo S n ++ [(n : Int)] else reachTo S n := by
  unfold reachTo
  rw [List.range_succ, List.map_append, List.filter_append]
  have e : metM S (n : Int) = S.getD n false := by rw [metM, Int.toNat_natCast]
  simp only [List.map_cons, List.map_nil, List.filter_cons, List.filter_nil, e]
  split
  · rfl
  · simp
theorem reachTo_len (S : List Bool) (n : Nat) : (reachTo S n).length ≤ n := by
  unfold reachTo
  exact Nat.le_trans (List.length_filter_le _ _) (by simp)
theorem metM_out {S : List Bool} (hS : S.length = 32) {i : Int} (hi : 32 ≤ i) : metM S i = false := by
  unfold metM
  simp [List.getD, List.getElem?_eq_none (by omega : S.length ≤ i.toNat)]
theorem met_ext {S S' : List Bool} (h : S.length = 32) (h' : S'.length = 32) (he : ∀ i, 0 ≤ i → (metM S i = true ↔ metM S' i = true)) : S = S' := by
  apply List.ext_getElem (by rw [h, h'])
  intro i h1 h2
  have := he i (by omega)
  have a1 : metM S (i : Int) = S[i] := by simp [metM, List.getD, h1]
  have a2 : metM S' (i : Int) = S'[i] := by simp [metM, List.getD, h2]
  rw [a1, a2] at this
  exact Bool.eq_iff_iff.2 this

structure Bfs (vs : List SlotV) (root : Int) (S : List Bool) (Q : List Int) (k : Nat) : Prop where
  len : S.length = 32
  rng : ∀ x ∈ Q, 0 ≤ x ∧ x ≤ 31
  sum : Q.length + unseenM S = 32
  mem : ∀ i, 0 ≤ i → (metM S i = true ↔ i ∈ Q)
  sound : ∀ i ∈ Q, ReachM vs root i
  base : hasM vs root = true → metM S root = true
  cover : ∀ j, j < k → ∀ r ∈ refsM vs (Q.getD j 0), hasM vs r = true → metM S r = true
theorem bfs_none {vs : List SlotV} {root : Int} (h : hasM vs root = false) : Bfs vs root (List.replicate 32 false) [] 0 := by
  refine ⟨by simp, fun x hx => by simp at hx, by decide, fun i _ => ?_, fun i hi => by simp at hi, fun h2 => absurd (h.symm.trans h2) (by decide), fun j hj => by omega⟩
  rw [show metM (List.replicate 32 false) i = false from metM_empty i]
  simp
theorem bfs_one {vs : List SlotV} {root : Int} (hr : 0 ≤ root ∧ root ≤ 31) (h : hasM vs root = true) : Bfs vs root ((List.replicate 32 false).set root.toNat true) [root] 0 := by
  have hset : ∀ i, 0 ≤ i → metM ((List.replicate 32 false).set root.toNat true) i = decide (i = root) := fun i hi => by
    rw [metM_set (by simp) hr hi, show metM (List.replicate 32 false) i = false from metM_empty i, Bool.false_or]
  refine ⟨by simp, fun x hx => by rw [List.mem_singleton.1 hx]; exact hr, ?_, fun i hi => ?_, fun i hi => by rw [List.mem_singleton.1 hi]; exact .root h, fun _ => by rw [hset root hr.1]; simp, fun j hj => by omega⟩
  · have h1 := unseenM_set (List.replicate 32 false) root.toNat (by simp; omega) (metM_empty root)
    have h2 : unseenM (List.replicate 32 false) = 32 := by decide
    simp only [List.length_cons, List.length_nil]
    omega
  · rw [hset i hi]
    simp
theorem Bfs.push {vs : List SlotV} {root : Int} {S : List Bool} {Q : List Int} {k : Nat} (h : Bfs vs root S Q k) {r x : Int} (hx : x ∈ Q) (hrx : r ∈ refsM vs x) (hr : 0 ≤ r ∧ r ≤ 31) (hh : hasM vs r = true) (hm : metM S r = false) (hk : k ≤ Q.length) : Bfs vs root (S.set r.toNat true) (Q ++ [r]) k := by
  have hset : ∀ i, 0 ≤ i → metM (S.set r.toNat true) i = (metM S i || decide (i = r)) := fun i hi => metM_set h.len hr hi
  refine ⟨by simp [h.len], fun y hy => ?_, ?_, fun i hi => ?_, fun i hi => ?_, fun hb => ?_, fun j hj y hy hhy => ?_⟩
  · rcases List.mem_append.1 hy with hy | hy
    · exact h.rng y hy
    · rw [List.mem_singleton.1 hy]; exact hr
  · have h1 := unseenM_set S r.toNat (by rw [h.len]; omega) hm
    have h2 := h.sum
    simp only [List.length_append, List.length_cons, List.length_nil]
    omega
  · rw [hset i hi]
    simp only [Bool.or_eq_true, decide_eq_true_eq, List.mem_append, List.mem_singleton]
    rw [h.mem i hi]
  · rcases List.mem_append.1 hi with hi | hi
    · exact h.sound i hi
    · rw [List.mem_singleton.1 hi]; exact .step (h.sound x hx) hrx hh
  · have h1 := h.base hb
    by_cases h0 : 0 ≤ root
    · rw [hset root h0, h1]; rfl
    · unfold metM at h1 ⊢
      have e : root.toNat = 0 := by omega
      rw [e] at h1 ⊢
      by_cases e2 : r.toNat = 0
      · rw [e2]; simp [List.getD, h.len]
      · simp only [List.getD, List.getElem?_set_ne e2]
        exact h1
  · rw [show (Q ++ [r]).getD j 0 = Q.getD j 0 by simp [List.getD, List.getElem?_append_left (by omega : j < Q.length)]] at hy
    have h1 := h.cover j hj y hy hhy
    by_cases h0 : 0 ≤ y
    · rw [hset y h0, h1]; rfl
    · unfold metM at h1 ⊢
      have e : y.toNat = 0 := by omega
      rw [e] at h1 ⊢
      by_cases e2 : r.toNat = 0
      · rw [e2]; simp [List.getD, h.len]
      · simp only [List.getD, List.getElem?_set_ne e2]
        exact h1
theorem Bfs.next {vs : List SlotV} {root : Int} {S : List Bool} {Q : List Int} {k : Nat} (h : Bfs vs root S Q k) (hd : ∀ r ∈ refsM vs (Q.getD k 0), hasM vs r = true → metM S r = true) : Bfs vs root S Q (k + 1) :=
  ⟨h.len, h.rng, h.sum, h.mem, h.sound, h.base, fun j hj r hr hh => by
    by_cases e : j = k
    · subst e; exact hd r hr hh
    · exact h.cover j (by omega) r hr hh⟩
theorem Bfs.all {vs : List SlotV} (hv : RngM vs) {root : Int} (hr : 0 ≤ root ∧ root ≤ 31) {S : List Bool} {Q : List Int} {k : Nat} (h : Bfs vs root S Q k) (hk : ¬ k < Q.length) : ∀ i, 0 ≤ i → (metM S i = true ↔ ReachM vs root i) := by
  intro i hi
  refine ⟨fun hm => h.sound i ((h.mem i hi).1 hm), fun hre => ?_⟩
  clear hi
  induction hre with
  | root hh => exact h.base hh
  | step h1 h2 h3 ih =>
    rename_i i r
    have hi := h1.rng hv hr
    have hq := (h.mem i hi.1).1 ih
    obtain ⟨j, hj, e⟩ := List.mem_iff_getElem.1 hq
    refine h.cover j (by omega) r ?_ h3
    rw [show Q.getD j 0 = Q[j] by simp [List.getD, hj], e]
    exact h2
theorem bfs_run {vs : List SlotV} (hv : RngM vs) {root : Int} (hr : 0 ≤ root ∧ root ≤ 31) {S : List Bool} {Q : List Int} {k : Nat} (h : Bfs vs root S Q k) (hk : ¬ k < Q.length) : S = (runM vs 40 root).met := by
  obtain ⟨h1, _, h3⟩ := runM_reach hv (most := 40) (by decide) (by decide) hr
  exact met_ext h.len h1 (fun i hi => (h.all hv hr hk i hi).trans (h3 i hi).symm)
end Go.Proofs.YtajcffchopcamaaGreatDoor

/- A map from numbers to nothing, a set: what a block holds, and what storing, looking up and clearing do. -/
namespace Go.Proofs.YtajcffchopcamaaGreatDoor
open Go.RowKit Go.Maps Go.MapKept

def entK (k : Int) : Value × Value := (.int .i64 k, .agg #[])
/-- Block B is a map whose keys are ks. -/
def BornK (es : Array MapEntry) (clock : Nat) : Prop := (∀ x ∈ es.toList, x.born < clock) ∧ (es.toList.map (·.born)).Nodup
def KeysAt (w : World) (B : Nat) (ks : List Int) : Prop := ∃ es clock, w.heap[B]? = some (.map es clock) ∧ es.toList.map (fun e => (e.key, e.val)) = ks.map entK ∧ BornK es clock
theorem bornK_nil (clock : Nat) : BornK #[] clock := ⟨fun x hx => by simp at hx, by simp⟩
theorem bornK_push {es : Array MapEntry} {clock : Nat} (h : BornK es clock) (k v : Value) : BornK (es.push { key := k, val := v, born := clock }) (clock + 1) := by
  refine ⟨fun x hx => ?_, ?_⟩
  · simp only [Array.toList_push, List.mem_append, List.mem_singleton] at hx
    rcases hx with hx | rfl
    · have := h.1 x hx; omega
    · simp
  · simp only [Array.toList_push, List.map_append, List.map_cons, List.map_nil]
    rw [List.nodup_append]
    refine ⟨h.2, by simp, fun a ha b hb e => ?_⟩
    obtain ⟨x, hx, rfl⟩ := List.mem_map.1 ha
    have := h.1 x hx
    rw [List.mem_singleton.1 hb] at e
    omega
theorem bornK_modify {es : Array MapEntry} {clock j : Nat} (h : BornK es clock) (k v : Value) : BornK (es.modify j fun e => { e with key := k, val := v }) clock := by
  have e : ∀ (l : List MapEntry) (j : Nat), (l.modify j fun e => { e with key := k, val := v }).map (·.born) = l.map (·.born) := by
    intro l
    induction l with
    | nil => intro j; simp
    | cons a r ih =>
      intro j
      cases j with
      | zero => simp
      | succ j => simp [ih j]
  have e2 : (es.modify j fun e => { e with key := k, val := v }).toList.map (·.born) = es.toList.map (·.born) := by rw [Array.toList_modify, e]
  refine ⟨fun x hx => ?_, by rw [e2]; exact h.2⟩
  have : x.born ∈ (es.modify j fun e => { e with key := k, val := v }).toList.map (·.born) := List.mem_map.2 ⟨x, hx, rfl⟩
  rw [e2] at this
  obtain ⟨y, hy, hb⟩ := List.mem_map.1 this
  have := h.1 y hy
  omega
/-- Block B is a map whose keys are what is marked in S. -/
def SetAt (w : World) (B : Nat) (S : List Bool) : Prop := ∃ ks, KeysAt w B ks ∧ ks.Nodup ∧ ∀ k : Int, k ∈ ks ↔ (0 ≤ k ∧ metM S k = true)
def findK (k : Int) : List Int → Nat → Option (Nat × Value)
  | [], _ => none
  | m :: r, i => if k = m then some (i, .agg #[]) else findK k r (i + 1)
theorem KeysAt.lt {w : World} {B : Nat} {ks : List Int} (h : KeysAt w B ks) : B < w.heap.size := by
  obtain ⟨es, clock, hb, _⟩ := h
  rcases Nat.lt_or_ge B w.heap.size with h | h
  · exact h
  · rw [Array.getElem?_eq_none h] at hb; cases hb
theorem SetAt.lt {w : World} {B : Nat} {S : List Bool} (h : SetAt w B S) : B < w.heap.size := by
  obtain ⟨ks, h, _⟩ := h
  exact h.lt
theorem KeysAt.block {w w' : World} {B : Nat} {ks : List Int} (h : KeysAt w B ks) (hb : w'.heap[B]? = w.heap[B]?) : KeysAt w' B ks := by
  obtain ⟨es, clock, h1, h2⟩ := h
  exact ⟨es, clock, by rw [hb]; exact h1, h2⟩
theorem SetAt.block {w w' : World} {B : Nat} {S : List Bool} (h : SetAt w B S) (hb : w'.heap[B]? = w.heap[B]?) : SetAt w' B S := by
  obtain ⟨ks, h1, h2⟩ := h
  exact ⟨ks, h1.block hb, h2⟩
theorem SetAt.below {w w' : World} {B : Nat} {S : List Bool} (h : SetAt w B S) (hb : Below w.heap.size w w') : SetAt w' B S := h.block (hb.block B h.lt)
theorem findNow_k (k : Int) : ∀ (ks : List Int) (l : List MapEntry) (i : Nat), l.map (fun e => (e.key, e.val)) = ks.map entK → Instr.findNow (.int .i64) (.int .i64 k) l i = some (findK k ks i) := by
  intro ks
  induction ks with
  | nil => intro l i h; cases l with
    | nil => rfl
    | cons e r => simp at h
  | cons m r ih =>
    intro l i h
    cases l with
    | nil => simp at h
    | cons e q =>
      simp only [List.map_cons, List.cons.injEq, entK, Prod.mk.injEq] at h
      obtain ⟨⟨h1, h2⟩, h3⟩ := h
      have h4 := ih q (i + 1) (by simpa [entK] using h3)
      rw [Instr.findNow, h1, findK]
      by_cases hk : k = m
      · subst hk
        simp [Instr.sameNow, h2]
      · have hkb : (k == m) = false := by simpa using hk
        simp [Instr.sameNow, hk, h4, hkb]
theorem findK_cases (k : Int) : ∀ (ks : List Int) (i : Nat), (findK k ks i = none ∧ k ∉ ks) ∨ ∃ j : Nat, ks[j]? = some k ∧ findK k ks i = some (i + j, .agg #[]) := by
  intro ks
  induction ks with
  | nil => intro i; exact .inl ⟨rfl, by simp⟩
  | cons m r ih =>
    intro i
    by_cases hk : k = m
    · exact .inr ⟨0, by simp [hk], by rw [findK, if_pos hk]; rfl⟩
    · rcases ih (i + 1) with ⟨h1, h2⟩ | ⟨j, h1, h2⟩
      · exact .inl ⟨by rw [findK, if_neg hk]; exact h1, by simp [hk, h2]⟩
      · exact .inr ⟨j + 1, by simpa using h1, by rw [findK, if_neg hk, h2]; congr 2; omega⟩
theorem kv_modifyK (l : List MapEntry) (j : Nat) (f : MapEntry → MapEntry) (v : Value × Value) (hf : ∀ e, ((f e).key, (f e).val) = v) : (l.modify j f).map (fun e => (e.key, e.val)) = (l.map (fun e => (e.key, e.val))).set j v := by
  induction l generalizing j with
  | nil => simp
  | cons e r ih =>
    cases j with
    | zero => simp [hf]
    | succ j => simp [ih j]
theorem isKey_intK (k : Int) : IsKey (.int .i64) (.int .i64 k) := rfl
set_option maxHeartbeats 400000 in
/-- What a store does. -/
theorem run_update_k {w : World} {B : Nat} {ks : List Int} (h : KeysAt w B ks) (k : Int) :
    ∃ w', (Instr.mapUpdate 106 (.map (some B)) (.int .i64 k) (.agg #[])).run Tryz.prog w = .ok () w' ∧ KeysAt w' B (if k ∈ ks then ks else ks ++ [k]) ∧ w.grownBy w' (some B) := by
  obtain ⟨es, clock, hb, he, hbn⟩ := h
  have hck := run_checkKey (P := Tryz.prog) (w := w) Tryz.underlying3 (isKey_intK k) false 9999
  have hfd := run_findKey (P := Tryz.prog) (w := w) (kt := 3) Tryz.underlying3 (findNow_k k ks es.toList 0 he)
  have hgo : (getObj B).run Tryz.prog w = .ok (.map es clock) w := by simp [getObj, Sem.run, hb]
  have hgr : ∀ o : Obj, w.grownBy { w with heap := w.heap.setIfInBounds B o } (some B) := fun o => ⟨rfl, rfl, rfl, by simp, fun i _ hi => (heap_set hb).2 i (fun e => hi (by rw [e]))⟩
  rcases findK_cases k ks 0 with ⟨h1, h2⟩ | ⟨j, h1, h3⟩
  · rw [h1] at hfd
    refine ⟨{ w with heap := w.heap.setIfInBounds B (.map (es.push { key := .int .i64 k, val := .agg #[], born := clock }) (clock + 1)) }, ?_, ⟨_, _, (heap_set hb).1, ?_, bornK_push hbn _ _⟩, hgr _⟩
    · simp only [Instr.mapUpdate, Sem.run_bind, run_underlying Tryz.underlying106, Result.andThen, hgo, hck, hfd, run_setObj_map _ hb]
    · rw [if_neg h2, Array.toList_push, List.map_append, List.map_append, he]; rfl
  · rw [h3] at hfd
    have hmem : k ∈ ks := List.mem_of_getElem? h1
    have hold : ((es[0 + j]?).map (·.key)).getD (.int .i64 k) = .int .i64 k := by
      have e := congrArg (fun l => l[j]?) he
      simp only [List.getElem?_map, h1, Option.map_some, entK] at e
      rw [Nat.zero_add]
      rw [← Array.getElem?_toList]
      cases hq : es.toList[j]? with
      | none => rfl
      | some x =>
        rw [hq] at e
        simp only [Option.map_some, Option.some.injEq, Prod.mk.injEq] at e
        simp [e.1]
    have hst : (Instr.keyThatStays (.int .i64 k) (.int .i64 k)).run Tryz.prog w = .ok (.int .i64 k) w := by
      have : Instr.sameBits 10000 (.int .i64 k) (.int .i64 k) = true := by simp [Instr.sameBits]
      simp [Instr.keyThatStays, this]
    refine ⟨{ w with heap := w.heap.setIfInBounds B (.map (es.modify (0 + j) fun e => { e with key := .int .i64 k, val := .agg #[] }) clock) }, ?_, ⟨_, _, (heap_set hb).1, ?_, bornK_modify hbn _ _⟩, hgr _⟩
    · simp only [Instr.mapUpdate, Sem.run_bind, run_underlying Tryz.underlying106, Result.andThen, hgo, hck, hfd, hold, hst, run_setObj_map _ hb]
    · rw [if_pos hmem, Array.toList_modify, kv_modifyK _ _ _ (entK k) (fun e => rfl), he, Nat.zero_add]
      apply List.ext_getElem?
      intro i
      by_cases e : j = i
      · subst e
        rw [List.getElem?_set_self (by simpa using (List.getElem?_eq_some_iff.1 h1).1), List.getElem?_map, h1]
        rfl
      · rw [List.getElem?_set_ne e]
theorem zeroUnit (w : World) : (zeroValue 111).run Tryz.prog w = .ok (.agg #[]) w := by kernel_rfl
set_option maxHeartbeats 400000 in
/-- What a look-up gives. -/
theorem run_look_k {w : World} {B : Nat} {ks : List Int} (h : KeysAt w B ks) (k : Int) :
    (Instr.lookup 106 (.map (some B)) (.int .i64 k) true).run Tryz.prog w = .ok (.tuple #[.agg #[], .bool (decide (k ∈ ks))]) w := by
  obtain ⟨es, clock, hb, he, hbn⟩ := h
  have hck := run_checkKey (P := Tryz.prog) (w := w) Tryz.underlying3 (isKey_intK k) es.isEmpty 9999
  have hfd := run_findKey (P := Tryz.prog) (w := w) (kt := 3) Tryz.underlying3 (findNow_k k ks es.toList 0 he)
  have hgo : (getObj B).run Tryz.prog w = .ok (.map es clock) w := by simp [getObj, Sem.run, hb]
  rcases findK_cases k ks 0 with ⟨h1, h2⟩ | ⟨j, h1, h3⟩
  · rw [h1] at hfd
    simp only [Instr.lookup, Sem.run_bind, run_underlying Tryz.underlying106, Result.andThen, hgo, hck, hfd, zeroUnit, Sem.run_pure, decide_eq_false h2]
    rfl
  · rw [h3] at hfd
    simp only [Instr.lookup, Sem.run_bind, run_underlying Tryz.underlying106, Result.andThen, hgo, hck, hfd, Sem.run_pure, decide_eq_true (List.mem_of_getElem? h1)]
    rfl
set_option maxHeartbeats 400000 in
/-- What clear does. -/
theorem run_clear_k {w : World} {B : Nat} {ks : List Int} (h : KeysAt w B ks) (ty : TypeId) :
    ∃ w', (Builtin.clear_ #[106] ty #[.map (some B)]).run Tryz.prog w = .ok (.tuple #[]) w' ∧ KeysAt w' B [] ∧ w.grownBy w' (some B) := by
  obtain ⟨es, clock, hb, he, hbn⟩ := h
  have hgo : (getObj B).run Tryz.prog w = .ok (.map es clock) w := by simp [getObj, Sem.run, hb]
  have hgr : ∀ o : Obj, w.grownBy { w with heap := w.heap.setIfInBounds B o } (some B) := fun o => ⟨rfl, rfl, rfl, by simp, fun i _ hi => (heap_set hb).2 i (fun e => hi (by rw [e]))⟩
  refine ⟨{ w with heap := w.heap.setIfInBounds B (.map #[] clock) }, ?_, ⟨_, _, (heap_set hb).1, rfl, bornK_nil _⟩, hgr _⟩
  simp [Builtin.clear_, run_underlying Tryz.underlying106, Result.andThen, hgo, run_setObj_map _ hb]

theorem SetAt.add {w' : World} {B : Nat} {S : List Bool} {ks : List Int} (hn : ks.Nodup) (hm : ∀ k : Int, k ∈ ks ↔ (0 ≤ k ∧ metM S k = true)) {k : Int} (hk : 0 ≤ k ∧ k ≤ 31) (hS : S.length = 32) (h : KeysAt w' B (if k ∈ ks then ks else ks ++ [k])) : SetAt w' B (S.set k.toNat true) := by
  have hset : ∀ i : Int, 0 ≤ i → metM (S.set k.toNat true) i = (metM S i || decide (i = k)) := fun i hi => by
    unfold metM
    by_cases e : i = k
    · subst e
      simp [List.getD, show i.toNat < S.length by omega]
    · have e2 : k.toNat ≠ i.toNat := by omega
      simp [List.getD, List.getElem?_set_ne e2, e]
  refine ⟨_, h, ?_, fun i => ?_⟩
  · split
    · exact hn
    · rename_i hnm
      rw [List.nodup_append]
      exact ⟨hn, by simp, fun a ha b hb e => hnm (by rw [List.mem_singleton.1 hb] at e; rw [← e]; exact ha)⟩
  · have key : (i ∈ if k ∈ ks then ks else ks ++ [k]) ↔ (i ∈ ks ∨ i = k) := by
      split
      · rename_i hkm
        exact ⟨fun h => .inl h, fun h => h.elim id (fun e => by rw [e]; exact hkm)⟩
      · simp
    rw [key]
    constructor
    · rintro (h1 | rfl)
      · obtain ⟨a, b⟩ := (hm i).1 h1
        exact ⟨a, by rw [hset i a, b]; rfl⟩
      · exact ⟨hk.1, by rw [hset i hk.1]; simp⟩
    · rintro ⟨a, b⟩
      rw [hset i a] at b
      simp only [Bool.or_eq_true, decide_eq_true_eq] at b
      rcases b with b | b
      · exact .inl ((hm i).2 ⟨a, b⟩)
      · exact .inr b
theorem setAt_none {w : World} {B : Nat} (h : KeysAt w B []) : SetAt w B (List.replicate 32 false) := by
  refine ⟨[], h, by simp, fun k => ⟨fun h => by simp at h, fun h => ?_⟩⟩
  have e : metM (List.replicate 32 false) k = false := by
    unfold metM
    simp only [List.getD, List.getElem?_replicate]
    split <;> rfl
  rw [e] at h
  exact absurd h.2 (by decide)
theorem keysAt_made (w : World) : KeysAt (w.alloc (.map #[] 0)) w.heap.size [] := ⟨#[], 0, (heap_alloc w _).1, rfl, bornK_nil _⟩
theorem run_look_s {w : World} {B : Nat} {S : List Bool} (h : SetAt w B S) (k : Int) (hk : 0 ≤ k) :
    (Instr.lookup 106 (.map (some B)) (.int .i64 k) true).run Tryz.prog w = .ok (.tuple #[.agg #[], .bool (metM S k)]) w := by
  obtain ⟨ks, h1, _, h3⟩ := h
  rw [run_look_k h1 k]
  have e : decide (k ∈ ks) = metM S k := by
    cases hm : metM S k
    · exact decide_eq_false (fun h => by rw [((h3 k).1 h).2] at hm; cases hm)
    · exact decide_eq_true ((h3 k).2 ⟨hk, hm⟩)
  rw [e]
theorem wpList_update_s {w : World} {ops : Array Oper} {rest : List Oper} {o : Oper} {a : Act} {Q : Exit → Act → World → Prop} (hg : o.guard = none) (m x v : Operand) (hop : o.op = Op.mapUpdate 106 m x v)
    (B : Nat) (S : List Bool) (k : Int) (hk : 0 ≤ k ∧ k ≤ 31) (hS : S.length = 32) (hm : a.eval m = .map (some B)) (hx : a.eval x = .int .i64 k) (hv : a.eval v = .agg #[]) (h : SetAt w B S)
    (hK : ∀ w', SetAt w' B (S.set k.toNat true) → w.grownBy w' (some B) → wpList Tryz.prog ops Q rest (a.put o.dst undef) w') : wpList Tryz.prog ops Q (o :: rest) a w := by
  refine wpList_plain hg fun K' hK' => ?_
  obtain ⟨ks, h1, h2, h3⟩ := h
  obtain ⟨w', hrun, r1, r2⟩ := run_update_k h1 k
  unfold Oper.wp
  simp [execOp, hop, hm, hx, hv, hrun, Result.andThen]
  exact hK' _ _ (hK w' (SetAt.add h2 h3 hk hS r1) r2)
theorem wpList_clear_s {w : World} {ops : Array Oper} {rest : List Oper} {o : Oper} {a : Act} {Q : Exit → Act → World → Prop} (hg : o.guard = none) (m : Operand) (hop : o.op = Op.call { callee := .builtin .clear, args := #[m], argTypes := #[106] })
    (B : Nat) (S : List Bool) (hm : a.eval m = .map (some B)) (h : SetAt w B S)
    (hK : ∀ w', SetAt w' B (List.replicate 32 false) → w.grownBy w' (some B) → wpList Tryz.prog ops Q rest (a.put o.dst (.tuple #[])) w') : wpList Tryz.prog ops Q (o :: rest) a w := by
  refine wpList_plain hg fun K' hK' => ?_
  obtain ⟨ks, h1, _⟩ := h
  obtain ⟨w', hrun, r1, r2⟩ := run_clear_k h1 o.type
  unfold Oper.wp execOp
  simp only [hop, resolve, invoke, builtin, Sem.run_bind, Sem.run_pure, Result.andThen_ok, List.map_toArray, List.map_cons, List.map_nil, hm, hrun]
  exact hK' _ _ (hK w' (setAt_none r1) r2)
end Go.Proofs.YtajcffchopcamaaGreatDoor

/- A row of numbers as a stack: put on it, cut off. -/
namespace Go.Proofs.YtajcffchopcamaaGreatDoor
open Go.RowKit

theorem append_intsM {w : World} {ops : Array Oper} {rest : List Oper} {o : Oper} {act : Act} {Q : Exit → Act → World → Prop} (hgd : o.guard = none) (s x : Operand)
    (ho : o.op = .call { callee := .builtin .append, args := #[s, x], argTypes := #[33, 33] })
    (lo hi : Nat) (a : Option Addr) (c : Nat) (xs : List Int) (hs : act.eval s = .slice a xs.length c) (hown : OwnI w lo hi a c xs)
    (sa : Option Addr) (sc : Nat) (zs : List Int) (hx : act.eval x = .slice sa zs.length sc) (hr : ReadsI w sa zs) (hc : sa = none → sc = 0)
    (hb : xs.length + zs.length ≤ 1099511627776) (hlo : lo ≤ w.heap.size)
    (h : ∀ a' c' ys w', Hid (ys = xs ++ zs) → OwnI w' lo w'.heap.size a' c' ys → w.grownBy w' (Value.slice a xs.length c).ownBlock → (∀ k, (Value.slice a' ys.length c').ownBlock = some k → (Value.slice a xs.length c).ownBlock = some k ∨ k = w.heap.size) → wpList Tryz.prog ops Q rest (act.put o.dst (.slice a' ys.length c')) w') :
    wpList Tryz.prog ops Q (o :: rest) act w := by
  obtain ⟨a', c', ys, w', hrun, h1, h2, h3, h4⟩ := run_append_ints (w := w) o.type lo hi a c xs hown sa sc zs hr hc hb hlo
  refine wpList_plain hgd fun K hK => ?_
  unfold Oper.wp execOp
  simp only [ho, resolve, invoke, builtin, Sem.run_bind, Sem.run_pure, Result.andThen_ok, List.map_toArray, List.map_cons, List.map_nil, hs, hx, hrun]
  exact hK _ _ (h a' c' ys w' h1 h2 h3 h4)
theorem ownI_lit1M (w : World) (n : Int) : OwnI (w.alloc (.cells #[.int .i64 n] 3)) w.heap.size (w.heap.size + 1) (some ⟨w.heap.size, 0, none⟩) 1 [n] :=
  ⟨World.ownsRow_lit w #[.int .i64 n] 1 (Nat.le_refl _) (by simp [maxLen]) rfl, by simp, fun k hk => by cases hk; simp⟩
theorem OwnI.cut {w : World} {lo hi : Nat} {a : Option Addr} {c : Nat} {ns : List Int} (h : OwnI w lo hi a c ns) (k : Nat) (hk : k ≤ ns.length) : OwnI w lo hi a c (ns.take k) := by
  have hl : (ns.take k).length = k := by rw [List.length_take]; omega
  obtain ⟨⟨h1, h2⟩, h3, h4⟩ := h
  refine ⟨⟨by simp, ?_⟩, h3, fun j hj => h4 j (by
    cases a with
    | none => simp [Value.ownBlock] at hj
    | some ad => simpa [Value.ownBlock] using hj)⟩
  rcases h2 with ⟨hv, h0⟩ | ⟨g, cap, cur, hv, hg, hh, hn, hcap, hsz, htake⟩
  · left
    simp only [Value.slice.injEq] at hv
    obtain ⟨rfl, _, rfl⟩ := hv
    have : ns = [] := List.length_eq_zero_iff.1 h0
    subst this
    simp
  · right
    simp only [Value.slice.injEq] at hv
    obtain ⟨rfl, _, rfl⟩ := hv
    refine ⟨g, c, cur, rfl, hg, hh, by omega, hcap, hsz, ?_⟩
    have h5 : (cur.toList.take (ns.length * 1)).take (k * 1) = (ns.map (Value.int .i64)).take (k * 1) := by rw [htake]
    rw [List.take_take, Nat.min_eq_left (by omega)] at h5
    rw [hl, h5, Nat.mul_one, List.map_take]
end Go.Proofs.YtajcffchopcamaaGreatDoor

/- A marking in its box: what stands there, and what a step of it changes. -/
namespace Go.Proofs.YtajcffchopcamaaGreatDoor
open Go.RowKit

def cellsM (v : Value) (mb most : Nat) (st : MSt) (aS : Option Addr) (cS : Nat) : List Value := [v, .map (some mb), .slice aS st.stack.length cS, .int .i64 most, .bool st.left, .int .i64 st.anew]
/-- The marking in box M: its marks in the map mb, its stack at aS; all of it was made since w0. -/
structure MkO (w0 w : World) (M mb : Nat) (v : Value) (most : Nat) (st : MSt) (aS : Option Addr) (cS : Nat) : Prop where
  box : Box w M (cellsM v mb most st aS cS) 117
  set : SetAt w mb st.met
  own : OwnI w w0.heap.size w.heap.size aS cS st.stack
  ne : M ≠ mb
  nS : ∀ k, (Value.slice aS st.stack.length cS).ownBlock = some k → k ≠ M ∧ k ≠ mb
  lo : w0.heap.size ≤ M ∧ w0.heap.size ≤ mb
  bel : Below w0.heap.size w0 w
def MkAt (w0 w : World) (M mb : Nat) (v : Value) (most : Nat) (st : MSt) : Prop := ∃ aS cS, MkO w0 w M mb v most st aS cS
theorem MkO.below {w0 w w' : World} {M mb : Nat} {v : Value} {most : Nat} {st : MSt} {aS : Option Addr} {cS : Nat} (h : MkO w0 w M mb v most st aS cS) (hb : Below w.heap.size w w') : MkO w0 w' M mb v most st aS cS :=
  ⟨h.box.below hb h.box.lt, h.set.below hb, (h.own.below hb).widen (Nat.le_refl _) hb.size (Nat.le_refl _), h.ne, h.nS, h.lo, h.bel.trans (hb.mono h.bel.size)⟩
theorem MkAt.below {w0 w w' : World} {M mb : Nat} {v : Value} {most : Nat} {st : MSt} (h : MkAt w0 w M mb v most st) (hb : Below w.heap.size w w') : MkAt w0 w' M mb v most st := by
  obtain ⟨aS, cS, h⟩ := h
  exact ⟨aS, cS, h.below hb⟩
theorem MkAt.bel {w0 w : World} {M mb : Nat} {v : Value} {most : Nat} {st : MSt} (h : MkAt w0 w M mb v most st) : Below w0.heap.size w0 w := by
  obtain ⟨aS, cS, h⟩ := h
  exact h.bel
/-- One cell of the box that is no list is written. -/
theorem MkO.cell {w0 w : World} {M mb : Nat} {v : Value} {most : Nat} {st st' : MSt} {aS : Option Addr} {cS : Nat} (h : MkO w0 w M mb v most st aS cS) (i : Nat) (x : Value) (hc : (cellsM v mb most st aS cS).set i x = cellsM v mb most st' aS cS) (hm : st'.met = st.met) (hs : st'.stack = st.stack) :
    ∃ W, Hid (w.setCell ⟨M, i, none⟩ x = W) ∧ MkO w0 W M mb v most st' aS cS := by
  obtain ⟨W, hW, hb, hw, hsz⟩ := box_set h.box i x
  rw [hc] at hb
  have hlo := h.lo
  refine ⟨W, hW, hb, ?_, ?_, h.ne, ?_, h.lo, h.bel.trans (hw.below hlo.1 h.bel.size)⟩
  · rw [hm]
    exact h.set.block (hw.block mb h.set.lt (by have := h.ne; omega))
  · rw [hs, hsz]
    have ho := h.own
    exact ⟨ownsRow_block ho.1 (fun k hk => hw.block k (by have := ho.2.2 k hk; omega) (by have := (h.nS k hk).1; omega)), by rw [hsz]; exact Nat.le_refl _, fun k hk => ho.2.2 k hk⟩
  · rw [hs]
    exact h.nS
/-- The map was written: one more is marked. -/
theorem MkO.marked {w0 w w' : World} {M mb : Nat} {v : Value} {most : Nat} {st : MSt} {S : List Bool} {aS : Option Addr} {cS : Nat} (h : MkO w0 w M mb v most st aS cS) (hs : SetAt w' mb S) (hg : w.grownBy w' (some mb)) : MkO w0 w' M mb v most ⟨S, st.stack, st.left, st.anew⟩ aS cS := by
  have hlo := h.lo
  have ho := h.own
  refine ⟨h.box.block (hg.block M h.box.lt (fun e => h.ne (Option.some.inj e))), hs, ⟨ownsRow_block ho.1 (fun k hk => hg.block k (ho.2.2 k hk) (fun e => (h.nS k hk).2 (Option.some.inj e))), Nat.le_refl _, fun k hk => Nat.lt_of_lt_of_le (ho.2.2 k hk) hg.size⟩, h.ne, h.nS, h.lo, h.bel.grown hg h.bel.size (fun j hj => by cases hj; exact hlo.2)⟩
/-- The stack was written, as another list. -/
theorem MkO.stacked {w0 w w1 : World} {M mb : Nat} {v : Value} {most : Nat} {st : MSt} {aS aN : Option Addr} {cS cN : Nat} {T : List Int} (h : MkO w0 w M mb v most st aS cS) (hb : Box w1 M (cellsM v mb most st aS cS) 117) (hs : SetAt w1 mb st.met) (ho : OwnI w1 w0.heap.size w1.heap.size aN cN T) (hn : ∀ k, (Value.slice aN T.length cN).ownBlock = some k → k ≠ M ∧ k ≠ mb) (hbl : Below w0.heap.size w0 w1) :
    ∃ W, Hid (w1.setCell ⟨M, 2, none⟩ (.slice aN T.length cN) = W) ∧ MkO w0 W M mb v most ⟨st.met, T, st.left, st.anew⟩ aN cN := by
  obtain ⟨W, hW, hb, hw, hsz⟩ := box_set hb 2 (.slice aN T.length cN)
  have hlo := h.lo
  refine ⟨W, hW, hb, hs.block (hw.block mb hs.lt (by have := h.ne; omega)), ?_, h.ne, hn, h.lo, hbl.trans (hw.below hlo.1 hbl.size)⟩
  rw [hsz]
  exact ⟨ownsRow_block ho.1 (fun k hk => hw.block k (by have := ho.2.2 k hk; omega) (by have := (hn k hk).1; omega)), by rw [hsz]; exact Nat.le_refl _, fun k hk => ho.2.2 k hk⟩

/-- One more was put on the stack, which is not yet written into the box. -/
theorem MkO.appended {w0 w w1 : World} {o : Obj} {M mb : Nat} {v : Value} {most : Nat} {st : MSt} {aS aN : Option Addr} {cS cN : Nat} {T : List Int} (h : MkO w0 w M mb v most st aS cS) (hg : (w.alloc o).grownBy w1 (Value.slice aS st.stack.length cS).ownBlock) (hk : ∀ k, (Value.slice aN T.length cN).ownBlock = some k → (Value.slice aS st.stack.length cS).ownBlock = some k ∨ k = (w.alloc o).heap.size) :
    Box w1 M (cellsM v mb most st aS cS) 117 ∧ SetAt w1 mb st.met ∧ (∀ k, (Value.slice aN T.length cN).ownBlock = some k → k ≠ M ∧ k ≠ mb) ∧ Below w0.heap.size w0 w1 := by
  have ha := (Below.refl w.heap.size w).alloc (Nat.le_refl _) o
  have h1 := h.below ha
  have hM := h1.box.lt
  have hB := h1.set.lt
  refine ⟨h1.box.block (hg.block M hM (fun e => (h.nS M e.symm).1 rfl)), h1.set.block (hg.block mb hB (fun e => (h.nS mb e.symm).2 rfl)), fun k hk1 => ?_, h1.bel.grown hg h1.bel.size (fun j hj => (h.own.1.lt j hj).1)⟩
  rcases hk k hk1 with h2 | h2
  · exact h.nS k h2
  · exact ⟨by omega, by omega⟩

set_option maxHeartbeats 1000000 in
set_option maxRecDepth 100000 in
theorem setHas_any (mb : Nat) (S : List Bool) (k : Int) (hk : 0 ≤ k) (w : World) (h : SetAt w mb S) :
    Calls Tryz.prog 93 #[.map (some mb), .int .i64 k] w fun e w' => e = .returned (.bool (metM S k)) ∧ Below w.heap.size w w' := by
  have hlk := run_look_s h k hk
  generalize metM S k = R at *
  obtain ⟨W, hW, _, hbW, _⟩ := boxes1 w [] 111
  go_enter Tryz.func93, Tryz.ntmps93
  go_wp2
  go_ret
  exact ⟨rfl, by first | (rw [hW.out]; exact hbW) | exact hbW⟩
set_option maxHeartbeats 1000000 in
set_option maxRecDepth 100000 in
theorem setAdd_any (mb : Nat) (S : List Bool) (hS : S.length = 32) (k : Int) (hk : 0 ≤ k ∧ k ≤ 31) (w : World) (h : SetAt w mb S) :
    Calls Tryz.prog 60 #[.map (some mb), .int .i64 k] w fun e w' => (∃ v, e = .returned v) ∧ SetAt w' mb (S.set k.toNat true) ∧ w.grownBy w' (some mb) := by
  go_enter Tryz.func60, Tryz.ntmps60
  go_wp2_with (first | (at_mapUpdate; refine wpList_update_s rfl _ _ _ rfl mb S k hk hS rfl rfl rfl h ?_; intro w5 hm5 hg5) | fail)
  refine bodyPost_end (results_none rfl _ _ _) rfl ?_
  exact ⟨⟨_, rfl⟩, hm5, hg5⟩
end Go.Proofs.YtajcffchopcamaaGreatDoor
