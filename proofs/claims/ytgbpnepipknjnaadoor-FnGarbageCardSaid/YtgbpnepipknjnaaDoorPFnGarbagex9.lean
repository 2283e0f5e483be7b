/- Several texts in one, in their order. -/
import Derived.Test.YtgbpnepipknjnaaDoorPFnGarbagex8
import Derived.MapKept
import Derived.Maps.Own
import Derived.Test.YtgbpnepipknjnaaDoorPFnGarbagex2
import Derived.Test.YtgbpnepipknjnaaDoorPFnGarbagex6
import Derived.Deep.QuietTactic
import Derived.BigQuiet
import Derived.Test.YtgbpnepipknjnaaDoorPFnGarbagex1
import Derived.Deep.AppendLies
import Derived.Laws.AppendOwnNone
import Derived.Deep.RegionHeld3
/- A search in breadth: what stands of it; the list of what is marked. -/
namespace Go.Proofs.YtgbpnepipknjnaaDoor

/-- What is marked, ascending. -/
def reachL (S : List Bool) : List Int := ((List.range 32).map (fun i : Nat => (i : Int))).filter (fun i => metM S i)
def reachTo (S : List Bool) (n : Nat) : List Int := ((List.range n).map (fun i : Nat => (i : Int))).filter (fun i => metM S i)
theorem reachTo_step (S : List Bool) (n : Nat) : reachTo S (n + 1) = if S.getD n false = true then reachTo S n ++ [(n : Int)] else reachTo S n := by
  unfold reachTo
  rw [List.range_succ, List.map_append, List.filter_append]
  have e : metM S (n : Int) = S.getD n false := by rw [metM, Int.toNat_natCast]
  simp only [List.map_cons, List.map_nil, List.filter_cons, List.filter_nil, e]
  split
  · rfl
  · simp
theorem reachTo_len (S : List Bool) (n : Nat) : (reachTo S n).length ≤ n := by
  unfold reachTo
  exact Nat.le_trans (List.length_filter_le _ _) (by simp)
theorem metM_out {S : List Bool} (hS : S.length = 32) {i : Int} (hi : 32 ≤ i) : metM S i = false := by
  unfold metM
  simp [List.getD, List.getElem?_eq_none (by omega : S.length ≤ i.toNat)]
theorem met_ext {S S' : List Bool} (h : S.length = 32) (h' : S'.length = 32) (he : ∀ i, 0 ≤ i → (metM S i = true ↔ metM S' i = true)) : S = S' := by
  apply List.ext_getElem (by rw [h, h'])
  intro i h1 h2
  have := he i (by omega)
  have a1 : metM S (i : Int) = S[i] := by simp [metM, List.getD, h1]
  have a2 : metM S' (i : Int) = S'[i] := by simp [metM, List.getD, h2]
  rw [a1, a2] at this
  exact Bool.eq_iff_iff.2 this

structure Bfs (vs : List SlotV) (root : Int) (S : List Bool) (Q : List Int) (k : Nat) : Prop where
  len : S.length = 32
  rng : ∀ x ∈ Q, 0 ≤ x ∧ x ≤ 31
  sum : Q.length + unseenM S = 32
  mem : ∀ i, 0 ≤ i → (metM S i = true ↔ i ∈ Q)
  sound : ∀ i ∈ Q, ReachM vs root i
  base : hasM vs root = true → metM S root = true
  cover : ∀ j, j < k → ∀ r ∈ refsM vs (Q.getD j 0), hasM vs r = true → metM S r = true
theorem Bfs.push {vs : List SlotV} {root : Int} {S : List Bool} {Q : List Int} {k : Nat} (h : Bfs vs root S Q k) {r x : Int} (hx : x ∈ Q) (hrx : r ∈ refsM vs x) (hr : 0 ≤ r ∧ r ≤ 31) (hh : hasM vs r = true) (hm : metM S r = false) (hk : k ≤ Q.length) : Bfs vs root (S.set r.toNat true) (Q ++ [r]) k := by
  have hset : ∀ i, 0 ≤ i → metM (S.set r.toNat true) i = (metM S i || decide (i = r)) := fun i hi => metM_set h.len hr hi
  refine ⟨by simp [h.len], fun y hy => ?_, ?_, fun i hi => ?_, fun i hi => ?_, fun hb => ?_, fun j hj y hy hhy => ?_⟩
  · rcases List.mem_append.1 hy with hy | hy
    · exact h.rng y hy
    · rw [List.mem_singleton.1 hy]; exact hr
  · have h1 := unseenM_set S r.toNat (by rw [h.len]; omega) hm
    have h2 := h.sum
    simp only [List.length_append, List.length_cons, List.length_nil]
    omega
  · rw [hset i hi]
    simp only [Bool.or_eq_true, decide_eq_true_eq, List.mem_append, List.mem_singleton]
    rw [h.mem i hi]
  · rcases List.mem_append.1 hi with hi | hi
    · exact h.sound i hi
    · rw [List.mem_singleton.1 hi]; exact .step (h.sound x hx) hrx hh
  · have h1 := h.base hb
    by_cases h0 : 0 ≤ root
    · rw [hset root h0, h1]; rfl
    · unfold metM at h1 ⊢
      have e : root.toNat = 0 := by omega
      rw [e] at h1 ⊢
      by_cases e2 : r.toNat = 0
      · rw [e2]; simp [List.getD, h.len]
      · simp only [List.getD, List.getElem?_set_ne e2]
        exact h1
  · rw [show (Q ++ [r]).getD j 0 = Q.getD j 0 by simp [List.getD, List.getElem?_append_left (by omega : j < Q.length)]] at hy
    have h1 := h.cover j hj y hy hhy
    by_cases h0 : 0 ≤ y
    · rw [hset y h0, h1]; rfl
    · unfold metM at h1 ⊢
      have e : y.toNat = 0 := by omega
      rw [e] at h1 ⊢
      by_cases e2 : r.toNat = 0
      · rw [e2]; simp [List.getD, h.len]
      · simp only [List.getD, List.getElem?_set_ne e2]
        exact h1
theorem Bfs.next {vs : List SlotV} {root : Int} {S : List Bool} {Q : List Int} {k : Nat} (h : Bfs vs root S Q k) (hd : ∀ r ∈ refsM vs (Q.getD k 0), hasM vs r = true → metM S r = true) : Bfs vs root S Q (k + 1) :=
  ⟨h.len, h.rng, h.sum, h.mem, h.sound, h.base, fun j hj r hr hh => by
    by_cases e : j = k
    · subst e; exact hd r hr hh
    · exact h.cover j (by omega) r hr hh⟩
theorem Bfs.all {vs : List SlotV} (hv : RngM vs) {root : Int} (hr : 0 ≤ root ∧ root ≤ 31) {S : List Bool} {Q : List Int} {k : Nat} (h : Bfs vs root S Q k) (hk : ¬ k < Q.length) : ∀ i, 0 ≤ i → (metM S i = true ↔ ReachM vs root i) := by
  intro i hi
  refine ⟨fun hm => h.sound i ((h.mem i hi).1 hm), fun hre => ?_⟩
  clear hi
  induction hre with
  | root hh => exact h.base hh
  | step h1 h2 h3 ih =>
    rename_i i r
    have hi := h1.rng hv hr
    have hq := (h.mem i hi.1).1 ih
    obtain ⟨j, hj, e⟩ := List.mem_iff_getElem.1 hq
    refine h.cover j (by omega) r ?_ h3
    rw [show Q.getD j 0 = Q[j] by simp [List.getD, hj], e]
    exact h2
end Go.Proofs.YtgbpnepipknjnaaDoor

/- A map from numbers to nothing, a set: what a block holds, and what storing, looking up and clearing do. -/
namespace Go.Proofs.YtgbpnepipknjnaaDoor
open Go.RowKit Go.Maps Go.MapKept

def entK (k : Int) : Value × Value := (.int .i64 k, .agg #[])
/-- Block B is a map whose keys are ks. -/
def BornK (es : Array MapEntry) (clock : Nat) : Prop := (∀ x ∈ es.toList, x.born < clock) ∧ (es.toList.map (·.born)).Nodup
def KeysAt (w : World) (B : Nat) (ks : List Int) : Prop := ∃ es clock, w.heap[B]? = some (.map es clock) ∧ es.toList.map (fun e => (e.key, e.val)) = ks.map entK ∧ BornK es clock
theorem bornK_nil (clock : Nat) : BornK #[] clock := ⟨fun x hx => by simp at hx, by simp⟩
theorem bornK_push {es : Array MapEntry} {clock : Nat} (h : BornK es clock) (k v : Value) : BornK (es.push { key := k, val := v, born := clock }) (clock + 1) := by
  refine ⟨fun x hx => ?_, ?_⟩
  · simp only [Array.toList_push, List.mem_append, List.mem_singleton] at hx
    rcases hx with hx | rfl
    · have := h.1 x hx; omega
    · simp
  · simp only [Array.toList_push, List.map_append, List.map_cons, List.map_nil]
    rw [List.nodup_append]
    refine ⟨h.2, by simp, fun a ha b hb e => ?_⟩
    obtain ⟨x, hx, rfl⟩ := List.mem_map.1 ha
    have := h.1 x hx
    rw [List.mem_singleton.1 hb] at e
    omega
theorem bornK_modify {es : Array MapEntry} {clock j : Nat} (h : BornK es clock) (k v : Value) : BornK (es.modify j fun e => { e with key := k, val := v }) clock := by
  have e : ∀ (l : List MapEntry) (j : Nat), (l.modify j fun e => { e with key := k, val := v }).map (·.born) = l.map (·.born) := by
    intro l
    induction l with
    | nil => intro j; simp
    | cons a r ih =>
      intro j
      cases j with
      | zero => simp
      | succ j => simp [ih j]
  have e2 : (es.modify j fun e => { e with key := k, val := v }).toList.map (·.born) = es.toList.map (·.born) := by rw [Array.toList_modify, e]
  refine ⟨fun x hx => ?_, by rw [e2]; exact h.2⟩
  have : x.born ∈ (es.modify j fun e => { e with key := k, val := v }).toList.map (·.born) := List.mem_map.2 ⟨x, hx, rfl⟩
  rw [e2] at this
  obtain ⟨y, hy, hb⟩ := List.mem_map.1 this
  have := h.1 y hy
  omega
/-- Block B is a map whose keys are what is marked in S. -/
def SetAt (w : World) (B : Nat) (S : List Bool) : Prop := ∃ ks, KeysAt w B ks ∧ ks.Nodup ∧ ∀ k : Int, k ∈ ks ↔ (0 ≤ k ∧ metM S k = true)
def findK (k : Int) : List Int → Nat → Option (Nat × Value)
  | [], _ => none
  | m :: r, i => if k = m then some (i, .agg #[]) else findK k r (i + 1)
theorem KeysAt.lt {w : World} {B : Nat} {ks : List Int} (h : KeysAt w B ks) : B < w.heap.size := by
  obtain ⟨es, clock, hb, _⟩ := h
  rcases Nat.lt_or_ge B w.heap.size with h | h
  · exact h
  · rw [Array.getElem?_eq_none h] at hb; cases hb
theorem SetAt.lt {w : World} {B : Nat} {S : List Bool} (h : SetAt w B S) : B < w.heap.size := by
  obtain ⟨ks, h, _⟩ := h
  exact h.lt
theorem KeysAt.block {w w' : World} {B : Nat} {ks : List Int} (h : KeysAt w B ks) (hb : w'.heap[B]? = w.heap[B]?) : KeysAt w' B ks := by
  obtain ⟨es, clock, h1, h2⟩ := h
  exact ⟨es, clock, by rw [hb]; exact h1, h2⟩
theorem SetAt.block {w w' : World} {B : Nat} {S : List Bool} (h : SetAt w B S) (hb : w'.heap[B]? = w.heap[B]?) : SetAt w' B S := by
  obtain ⟨ks, h1, h2⟩ := h
  exact ⟨ks, h1.block hb, h2⟩
theorem SetAt.below {w w' : World} {B : Nat} {S : List Bool} (h : SetAt w B S) (hb : Below w.heap.size w w') : SetAt w' B S := h.block (hb.block B h.lt)
theorem findNow_k (k : Int) : ∀ (ks : List Int) (l : List MapEntry) (i : Nat), l.map (fun e => (e.key, e.val)) = ks.map entK → Instr.findNow (.int .i64) (.int .i64 k) l i = some (findK k ks i) := by
  intro ks
  induction ks with
  | nil => intro l i h; cases l with
    | nil => rfl
    | cons e r => simp at h
  | cons m r ih =>
    intro l i h
    cases l with
    | nil => simp at h
    | cons e q =>
      simp only [List.map_cons, List.cons.injEq, entK, Prod.mk.injEq] at h
      obtain ⟨⟨h1, h2⟩, h3⟩ := h
      have h4 := ih q (i + 1) (by simpa [entK] using h3)
      rw [Instr.findNow, h1, findK]
      by_cases hk : k = m
      · subst hk
        simp [Instr.sameNow, h2]
      · have hkb : (k == m) = false := by simpa using hk
        simp [Instr.sameNow, hk, h4, hkb]
theorem findK_cases (k : Int) : ∀ (ks : List Int) (i : Nat), (findK k ks i = none ∧ k ∉ ks) ∨ ∃ j : Nat, ks[j]? = some k ∧ findK k ks i = some (i + j, .agg #[]) := by
  intro ks
  induction ks with
  | nil => intro i; exact .inl ⟨rfl, by simp⟩
  | cons m r ih =>
    intro i
    by_cases hk : k = m
    · exact .inr ⟨0, by simp [hk], by rw [findK, if_pos hk]; rfl⟩
    · rcases ih (i + 1) with ⟨h1, h2⟩ | ⟨j, h1, h2⟩
      · exact .inl ⟨by rw [findK, if_neg hk]; exact h1, by simp [hk, h2]⟩
      · exact .inr ⟨j + 1, by simpa using h1, by rw [findK, if_neg hk, h2]; congr 2; omega⟩
theorem kv_modifyK (l : List MapEntry) (j : Nat) (f : MapEntry → MapEntry) (v : Value × Value) (hf : ∀ e, ((f e).key, (f e).val) = v) : (l.modify j f).map (fun e => (e.key, e.val)) = (l.map (fun e => (e.key, e.val))).set j v := by
  induction l generalizing j with
  | nil => simp
  | cons e r ih =>
    cases j with
    | zero => simp [hf]
    | succ j => simp [ih j]
theorem isKey_intK (k : Int) : IsKey (.int .i64) (.int .i64 k) := rfl
set_option maxHeartbeats 400000 in
/-- What a store does. -/
theorem run_update_k {w : World} {B : Nat} {ks : List Int} (h : KeysAt w B ks) (k : Int) :
    ∃ w', (Instr.mapUpdate 61 (.map (some B)) (.int .i64 k) (.agg #[])).run Tryd.prog w = .ok () w' ∧ KeysAt w' B (if k ∈ ks then ks else ks ++ [k]) ∧ w.grownBy w' (some B) := by
  obtain ⟨es, clock, hb, he, hbn⟩ := h
  have hck := run_checkKey (P := Tryd.prog) (w := w) Tryd.underlying3 (isKey_intK k) false 9999
  have hfd := run_findKey (P := Tryd.prog) (w := w) (kt := 3) Tryd.underlying3 (findNow_k k ks es.toList 0 he)
  have hgo : (getObj B).run Tryd.prog w = .ok (.map es clock) w := by simp [getObj, Sem.run, hb]
  have hgr : ∀ o : Obj, w.grownBy { w with heap := w.heap.setIfInBounds B o } (some B) := fun o => ⟨rfl, rfl, rfl, by simp, fun i _ hi => (heap_set hb).2 i (fun e => hi (by rw [e]))⟩
  rcases findK_cases k ks 0 with ⟨h1, h2⟩ | ⟨j, h1, h3⟩
  · rw [h1] at hfd
    refine ⟨{ w with heap := w.heap.setIfInBounds B (.map (es.push { key := .int .i64 k, val := .agg #[], born := clock }) (clock + 1)) }, ?_, ⟨_, _, (heap_set hb).1, ?_, bornK_push hbn _ _⟩, hgr _⟩
    · simp only [Instr.mapUpdate, Sem.run_bind, run_underlying Tryd.underlying61, Result.andThen, hgo, hck, hfd, run_setObj_map _ hb]
    · rw [if_neg h2, Array.toList_push, List.map_append, List.map_append, he]; rfl
  · rw [h3] at hfd
    have hmem : k ∈ ks := List.mem_of_getElem? h1
    have hold : ((es[0 + j]?).map (·.key)).getD (.int .i64 k) = .int .i64 k := by
      have e := congrArg (fun l => l[j]?) he
      simp only [List.getElem?_map, h1, Option.map_some, entK] at e
      rw [Nat.zero_add]
      rw [← Array.getElem?_toList]
      cases hq : es.toList[j]? with
      | none => rfl
      | some x =>
        rw [hq] at e
        simp only [Option.map_some, Option.some.injEq, Prod.mk.injEq] at e
        simp [e.1]
    have hst : (Instr.keyThatStays (.int .i64 k) (.int .i64 k)).run Tryd.prog w = .ok (.int .i64 k) w := by
      have : Instr.sameBits 10000 (.int .i64 k) (.int .i64 k) = true := by simp [Instr.sameBits]
      simp [Instr.keyThatStays, this]
    refine ⟨{ w with heap := w.heap.setIfInBounds B (.map (es.modify (0 + j) fun e => { e with key := .int .i64 k, val := .agg #[] }) clock) }, ?_, ⟨_, _, (heap_set hb).1, ?_, bornK_modify hbn _ _⟩, hgr _⟩
    · simp only [Instr.mapUpdate, Sem.run_bind, run_underlying Tryd.underlying61, Result.andThen, hgo, hck, hfd, hold, hst, run_setObj_map _ hb]
    · rw [if_pos hmem, Array.toList_modify, kv_modifyK _ _ _ (entK k) (fun e => rfl), he, Nat.zero_add]
      apply List.ext_getElem?
      intro i
      by_cases e : j = i
      · subst e
        rw [List.getElem?_set_self (by simpa using (List.getElem?_eq_some_iff.1 h1).1), List.getElem?_map, h1]
        rfl
      · rw [List.getElem?_set_ne e]
theorem zeroUnit (w : World) : (zeroValue 85).run Tryd.prog w = .ok (.agg #[]) w := by kernel_rfl
set_option maxHeartbeats 400000 in
/-- What a look-up gives. -/
theorem run_look_k {w : World} {B : Nat} {ks : List Int} (h : KeysAt w B ks) (k : Int) :
    (Instr.lookup 61 (.map (some B)) (.int .i64 k) true).run Tryd.prog w = .ok (.tuple #[.agg #[], .bool (decide (k ∈ ks))]) w := by
  obtain ⟨es, clock, hb, he, hbn⟩ := h
  have hck := run_checkKey (P := Tryd.prog) (w := w) Tryd.underlying3 (isKey_intK k) es.isEmpty 9999
  have hfd := run_findKey (P := Tryd.prog) (w := w) (kt := 3) Tryd.underlying3 (findNow_k k ks es.toList 0 he)
  have hgo : (getObj B).run Tryd.prog w = .ok (.map es clock) w := by simp [getObj, Sem.run, hb]
  rcases findK_cases k ks 0 with ⟨h1, h2⟩ | ⟨j, h1, h3⟩
  · rw [h1] at hfd
    simp only [Instr.lookup, Sem.run_bind, run_underlying Tryd.underlying61, Result.andThen, hgo, hck, hfd, zeroUnit, Sem.run_pure, decide_eq_false h2]
    rfl
  · rw [h3] at hfd
    simp only [Instr.lookup, Sem.run_bind, run_underlying Tryd.underlying61, Result.andThen, hgo, hck, hfd, Sem.run_pure, decide_eq_true (List.mem_of_getElem? h1)]
    rfl
set_option maxHeartbeats 400000 in
/-- What clear does. -/
theorem run_clear_k {w : World} {B : Nat} {ks : List Int} (h : KeysAt w B ks) (ty : TypeId) :
    ∃ w', (Builtin.clear_ #[61] ty #[.map (some B)]).run Tryd.prog w = .ok (.tuple #[]) w' ∧ KeysAt w' B [] ∧ w.grownBy w' (some B) := by
  obtain ⟨es, clock, hb, he, hbn⟩ := h
  have hgo : (getObj B).run Tryd.prog w = .ok (.map es clock) w := by simp [getObj, Sem.run, hb]
  have hgr : ∀ o : Obj, w.grownBy { w with heap := w.heap.setIfInBounds B o } (some B) := fun o => ⟨rfl, rfl, rfl, by simp, fun i _ hi => (heap_set hb).2 i (fun e => hi (by rw [e]))⟩
  refine ⟨{ w with heap := w.heap.setIfInBounds B (.map #[] clock) }, ?_, ⟨_, _, (heap_set hb).1, rfl, bornK_nil _⟩, hgr _⟩
  simp [Builtin.clear_, run_underlying Tryd.underlying61, Result.andThen, hgo, run_setObj_map _ hb]

theorem SetAt.add {w' : World} {B : Nat} {S : List Bool} {ks : List Int} (hn : ks.Nodup) (hm : ∀ k : Int, k ∈ ks ↔ (0 ≤ k ∧ metM S k = true)) {k : Int} (hk : 0 ≤ k ∧ k ≤ 31) (hS : S.length = 32) (h : KeysAt w' B (if k ∈ ks then ks else ks ++ [k])) : SetAt w' B (S.set k.toNat true) := by
  have hset : ∀ i : Int, 0 ≤ i → metM (S.set k.toNat true) i = (metM S i || decide (i = k)) := fun i hi => by
    unfold metM
    by_cases e : i = k
    · subst e
      simp [List.getD, show i.toNat < S.length by omega]
    · have e2 : k.toNat ≠ i.toNat := by omega
      simp [List.getD, List.getElem?_set_ne e2, e]
  refine ⟨_, h, ?_, fun i => ?_⟩
  · split
    · exact hn
    · rename_i hnm
      rw [List.nodup_append]
      exact ⟨hn, by simp, fun a ha b hb e => hnm (by rw [List.mem_singleton.1 hb] at e; rw [← e]; exact ha)⟩
  · have key : (i ∈ if k ∈ ks then ks else ks ++ [k]) ↔ (i ∈ ks ∨ i = k) := by
      split
      · rename_i hkm
        exact ⟨fun h => .inl h, fun h => h.elim id (fun e => by rw [e]; exact hkm)⟩
      · simp
    rw [key]
    constructor
    · rintro (h1 | rfl)
      · obtain ⟨a, b⟩ := (hm i).1 h1
        exact ⟨a, by rw [hset i a, b]; rfl⟩
      · exact ⟨hk.1, by rw [hset i hk.1]; simp⟩
    · rintro ⟨a, b⟩
      rw [hset i a] at b
      simp only [Bool.or_eq_true, decide_eq_true_eq] at b
      rcases b with b | b
      · exact .inl ((hm i).2 ⟨a, b⟩)
      · exact .inr b
theorem setAt_none {w : World} {B : Nat} (h : KeysAt w B []) : SetAt w B (List.replicate 32 false) := by
  refine ⟨[], h, by simp, fun k => ⟨fun h => by simp at h, fun h => ?_⟩⟩
  have e : metM (List.replicate 32 false) k = false := by
    unfold metM
    simp only [List.getD, List.getElem?_replicate]
    split <;> rfl
  rw [e] at h
  exact absurd h.2 (by decide)
theorem keysAt_made (w : World) : KeysAt (w.alloc (.map #[] 0)) w.heap.size [] := ⟨#[], 0, (heap_alloc w _).1, rfl, bornK_nil _⟩
theorem run_look_s {w : World} {B : Nat} {S : List Bool} (h : SetAt w B S) (k : Int) (hk : 0 ≤ k) :
    (Instr.lookup 61 (.map (some B)) (.int .i64 k) true).run Tryd.prog w = .ok (.tuple #[.agg #[], .bool (metM S k)]) w := by
  obtain ⟨ks, h1, _, h3⟩ := h
  rw [run_look_k h1 k]
  have e : decide (k ∈ ks) = metM S k := by
    cases hm : metM S k
    · exact decide_eq_false (fun h => by rw [((h3 k).1 h).2] at hm; cases hm)
    · exact decide_eq_true ((h3 k).2 ⟨hk, hm⟩)
  rw [e]
theorem wpList_update_s {w : World} {ops : Array Oper} {rest : List Oper} {o : Oper} {a : Act} {Q : Exit → Act → World → Prop} (hg : o.guard = none) (m x v : Operand) (hop : o.op = Op.mapUpdate 61 m x v)
    (B : Nat) (S : List Bool) (k : Int) (hk : 0 ≤ k ∧ k ≤ 31) (hS : S.length = 32) (hm : a.eval m = .map (some B)) (hx : a.eval x = .int .i64 k) (hv : a.eval v = .agg #[]) (h : SetAt w B S)
    (hK : ∀ w', SetAt w' B (S.set k.toNat true) → w.grownBy w' (some B) → wpList Tryd.prog ops Q rest (a.put o.dst undef) w') : wpList Tryd.prog ops Q (o :: rest) a w := by
  refine wpList_plain hg fun K' hK' => ?_
  obtain ⟨ks, h1, h2, h3⟩ := h
  obtain ⟨w', hrun, r1, r2⟩ := run_update_k h1 k
  unfold Oper.wp
  simp [execOp, hop, hm, hx, hv, hrun, Result.andThen]
  exact hK' _ _ (hK w' (SetAt.add h2 h3 hk hS r1) r2)
theorem wpList_clear_s {w : World} {ops : Array Oper} {rest : List Oper} {o : Oper} {a : Act} {Q : Exit → Act → World → Prop} (hg : o.guard = none) (m : Operand) (hop : o.op = Op.call { callee := .builtin .clear, args := #[m], argTypes := #[61] })
    (B : Nat) (S : List Bool) (hm : a.eval m = .map (some B)) (h : SetAt w B S)
    (hK : ∀ w', SetAt w' B (List.replicate 32 false) → w.grownBy w' (some B) → wpList Tryd.prog ops Q rest (a.put o.dst (.tuple #[])) w') : wpList Tryd.prog ops Q (o :: rest) a w := by
  refine wpList_plain hg fun K' hK' => ?_
  obtain ⟨ks, h1, _⟩ := h
  obtain ⟨w', hrun, r1, r2⟩ := run_clear_k h1 o.type
  unfold Oper.wp execOp
  simp only [hop, resolve, invoke, builtin, Sem.run_bind, Sem.run_pure, Result.andThen_ok, List.map_toArray, List.map_cons, List.map_nil, hm, hrun]
  exact hK' _ _ (hK w' (setAt_none r1) r2)
end Go.Proofs.YtgbpnepipknjnaaDoor

/- The cursor of a draw: what spec.l1Byte and spec.l1Below answer and leave. -/
namespace Go.Proofs.YtgbpnepipknjnaaDoor
open Go.RowKit

/-- A cursor over the bytes zs lies in block B. -/
def CurAt (w : World) (B : Nat) (zs : List Int) : Prop :=
  ∃ (a : Option Addr) (c i : Nat) (h : Int), w.heap[B]? = some (.cells #[.slice a zs.length c, .int .i64 i, .int .i64 h] 77 (0, 0)) ∧ i ≤ zs.length ∧ Reads w a zs ∧ (zs ≠ [] → ∀ b off, a = some ⟨b, off, none⟩ → b < B)

theorem cell_of3 {w : World} {B : Nat} {v0 v1 v2 : Value} {t : TypeId} (h : w.heap[B]? = some (.cells #[v0, v1, v2] t (0, 0))) :
    w.cell? ⟨B, 0, none⟩ = some v0 ∧ w.cell? ⟨B, 1, none⟩ = some v1 ∧ w.cell? ⟨B, 2, none⟩ = some v2 ∧ (∀ o, w.frozen? ⟨B, o, none⟩ = false) := by
  refine ⟨?_, ?_, ?_, fun o => ?_⟩
  · simp [World.cell?, h]
  · simp [World.cell?, h]
  · simp [World.cell?, h]
  · simp [World.frozen?, h]

theorem set_of3 {w : World} {B : Nat} {v0 v1 v2 u : Value} {t : TypeId} (h : w.heap[B]? = some (.cells #[v0, v1, v2] t (0, 0))) :
    (w.setCell ⟨B, 1, none⟩ u).heap[B]? = some (.cells #[v0, u, v2] t (0, 0)) ∧ (w.setCell ⟨B, 2, none⟩ u).heap[B]? = some (.cells #[v0, v1, u] t (0, 0)) := by
  constructor
  · rw [heap_setCell_same w B 1 _ t u h]; simp
  · rw [heap_setCell_same w B 2 _ t u h]; simp

theorem grown_set (w : World) (B o : Nat) (u : Value) : w.grownBy (w.setCell ⟨B, o, none⟩ u) (some B) :=
  ⟨rfl, rfl, rfl, by simp, fun k _ hk => heap_setCell_other w ⟨B, o, none⟩ k u (fun e => hk (by simp [e]))⟩

theorem grown_drew_set (w : World) (n B o : Nat) (u : Value) : w.grownBy ((w.drewN n).setCell ⟨B, o, none⟩ u) (some B) :=
  ⟨rfl, rfl, rfl, by simp, fun k _ hk => heap_setCell_other (w.drewN n) ⟨B, o, none⟩ k u (fun e => hk (by simp [e]))⟩

theorem Reads.grown {w w' : World} {a : Option Addr} {zs : List Int} {B : Nat} (h : Reads w a zs) (hg : w.grownBy w' (some B)) (hne : zs ≠ [] → ∀ b off, a = some ⟨b, off, none⟩ → b ≠ B) : Reads w' a zs := by
  refine ⟨h.1, fun e => ?_⟩
  obtain ⟨b, off, ha, hc⟩ := h.2 e
  refine ⟨b, off, ha, fun i hi => hg.cell (hc i hi) ?_⟩
  intro he
  exact hne e b off ha (Option.some.inj he)

theorem CurAt.lt {w : World} {B : Nat} {zs : List Int} (h : CurAt w B zs) : B < w.heap.size := by
  obtain ⟨a, c, i, h, hh, _⟩ := h
  exact (Array.getElem?_eq_some_iff.1 hh).1

theorem CurAt.kept {w w' : World} {B : Nat} {zs : List Int} {row : Option Nat} (h : CurAt w B zs) (hg : w.grownBy w' row) (hrow : ∀ k, row = some k → B < k) : CurAt w' B zs := by
  have hB := h.lt
  obtain ⟨a, c, i, h, hh, hi, hr, hlt⟩ := h
  refine ⟨a, c, i, h, ?_, hi, ⟨hr.1, fun e => ?_⟩, hlt⟩
  · rw [hg.block B hB (fun e => by have := hrow B e.symm; omega)]; exact hh
  · obtain ⟨b, off, ha, hc⟩ := hr.2 e
    refine ⟨b, off, ha, fun j hj => hg.cell (hc j hj) ?_⟩
    intro he
    have h1 := hlt e b off ha
    have h2 := hrow b he.symm
    omega

theorem CurAt.alloc {w : World} {B : Nat} {zs : List Int} (h : CurAt w B zs) (o : Obj) : CurAt (w.alloc o) B zs := h.kept (World.grownBy_alloc w o none) (fun k e => by cases e)

theorem CurAt.below {w w' : World} {B : Nat} {zs : List Int} (h : CurAt w B zs) (hb : Below w.heap.size w w') : CurAt w' B zs :=
  h.kept (row := none) ⟨hb.os, hb.tape, hb.output, hb.size, fun k hk _ => hb.block k hk⟩ (fun k e => by cases e)

theorem grownBy_new {w w1 w2 : World} {r row : Option Nat} (h : w.grownBy w1 r) (hg : w1.grownBy w2 row) (hrow : ∀ k, row = some k → w.heap.size ≤ k) : w.grownBy w2 r :=
  ⟨hg.os.trans h.os, hg.tape.trans h.tape, hg.output.trans h.output, Nat.le_trans h.size hg.size, fun k hk hr => (hg.block k (Nat.lt_of_lt_of_le hk h.size) (fun e => by have := hrow k e.symm; omega)).trans (h.block k hk hr)⟩

theorem i64_and255 (n : Int) : bits .and .i64 n 255 = n % 256 := by
  have h1 : (BitVec.ofInt 64 255).toNat = 2 ^ 8 - 1 := by decide
  have key : (BitVec.ofInt 64 n &&& BitVec.ofInt 64 255).toNat = (n % ((2 ^ 64 : Nat) : Int)).toNat % 2 ^ 8 := by
    rw [BitVec.toNat_and, BitVec.toNat_ofInt, h1, Nat.and_two_pow_sub_one_eq_mod]
  show IntKind.i64.wrap ((BitVec.ofInt 64 n &&& BitVec.ofInt 64 255).toNat : Nat) = n % 256
  rw [key, IntKind.wrap_i64]
  omega

theorem ret_nat {a : Int} (h0 : 0 ≤ a) : Ending.returned (.int .i64 a) = .returned (.int .i64 ((a.toNat : Nat) : Int)) := by rw [Int.toNat_of_nonneg h0]

set_option maxHeartbeats 1000000 in
theorem l1Byte_any (B : Nat) (zs : List Int) (w : World) (hc : CurAt w B zs) (hl : zs.length ≤ 70368744177664) :
    Calls Tryd.prog 64 #[.pointer (some ⟨B, 0, none⟩)] w fun e w' => ∃ x : Nat, e = .returned (.int .i64 x) ∧ x < 256 ∧ CurAt w' B zs ∧ w.grownBy w' (some B) := by
  obtain ⟨a, c, i, h, hh, hi, hr, hlt0⟩ := hc
  have hne : zs ≠ [] → ∀ b off, a = some ⟨b, off, none⟩ → b ≠ B := fun h b off e => Nat.ne_of_lt (hlt0 h b off e)
  obtain ⟨c0, c1, c2, hf⟩ := cell_of3 hh
  have hf2 := hf 2
  clear hf
  have ha := i64_and255
  go_enter Tryd.func64, Tryd.ntmps64
  go_wp2
  generalize wrap64 (wrap64 (h * 6364136223846793005) + 1442695040888963407) = h1
  have hh1 := (set_of3 (u := .int .i64 h1) hh).2
  have hg1 := grown_set w B 2 (.int .i64 h1)
  have hr1 := hr.grown hg1 hne
  clear c0 c1 c2 hf2 hh hr
  generalize w.setCell ⟨B, 2, none⟩ (.int .i64 h1) = w1 at *
  obtain ⟨c0, c1, c2, hf⟩ := cell_of3 hh1
  have hf1 := hf 1
  clear hf
  go_quiet (fail)
  go_wp2
  have hxb : 0 ≤ bits .xor .i64 (h1 / 8589934592) (h1 / 140737488355328) % 256 ∧ bits .xor .i64 (h1 / 8589934592) (h1 / 140737488355328) % 256 < 256 := by omega
  generalize bits .xor .i64 (h1 / 8589934592) (h1 / 140737488355328) % 256 = y at *
  by_cases hlt : i < zs.length
  · rcases hr1.cases with rfl | ⟨b, off, rfl, hpos, hcell⟩
    · simp at hlt
    have hck := hcell i hlt
    have hby := bytes_at hr1.byte i
    clear hcell
    generalize zs.getD i 0 = z at *
    go_quiet (fail)
    go_wp2
    go_quiet (fail)
    go_wp2
    go_ret
    refine ⟨((y + z) % 256).toNat, ret_nat (by omega), by omega, ⟨some ⟨b, off, none⟩, c, i + 1, h1, ?_, by omega, ?_, hlt0⟩, ?_⟩
    · exact (set_of3 (u := .int .i64 ((i : Int) + 1)) hh1).1
    · exact hr1.grown (grown_drew_set w1 _ B 1 _) hne
    · exact grownBy_trans hg1 (grown_drew_set w1 _ B 1 _)
  · go_quiet (fail)
    go_wp2
    go_ret
    exact ⟨y.toNat, ret_nat hxb.1, by omega, ⟨a, c, i, h1, hh1, hi, hr1, hlt0⟩, ⟨hg1.os, hg1.tape, hg1.output, hg1.size, hg1.block⟩⟩

set_option maxHeartbeats 400000 in
theorem l1Below_any (B : Nat) (zs : List Int) (n : Int) (w : World) (hc : CurAt w B zs) (hl : zs.length ≤ 70368744177664) (hn : n ≤ 1000000000) :
    Calls Tryd.prog 50 #[.pointer (some ⟨B, 0, none⟩), .int .i64 n] w fun e w' => ∃ x : Nat, e = .returned (.int .i64 x) ∧ (0 < n → (x : Int) < n) ∧ CurAt w' B zs ∧ w.grownBy w' (some B) := by
  by_cases h0 : n ≤ 0
  · go_enter Tryd.func50, Tryd.ntmps50
    go_wp2
    go_ret
    exact ⟨0, rfl, fun h => by omega, hc, World.grownBy.refl _ _⟩
  by_cases h1 : n ≤ 256
  · go_enter Tryd.func50, Tryd.ntmps50
    go_wp2_with fail
    refine (l1Byte_any B zs w hc hl).mono ?_
    rintro e w1 ⟨x, rfl, hx, hc1, hg1⟩
    have hnz : ¬ n = 0 := by omega
    go_wp2
    go_ret
    exact ⟨((x : Int) % n).toNat, ret_nat (Int.emod_nonneg _ hnz), fun h => by have := Int.emod_nonneg (x : Int) hnz; have := Int.emod_lt_of_pos (x : Int) h; omega, hc1, hg1⟩
  · go_enter Tryd.func50, Tryd.ntmps50
    go_wp2_with fail
    refine (l1Byte_any B zs w hc hl).mono ?_
    rintro e w1 ⟨x, rfl, hx, hc1, hg1⟩
    go_wp2_with fail
    refine (l1Byte_any B zs w1 hc1 hl).mono ?_
    rintro e w2 ⟨y, rfl, hy, hc2, hg2⟩
    go_wp2_with fail
    refine (l1Byte_any B zs w2 hc2 hl).mono ?_
    rintro e w3 ⟨z, rfl, hz, hc3, hg3⟩
    have hnz : ¬ n = 0 := by omega
    clear hc hc1 hc2
    go_wp2
    go_ret
    exact ⟨(((x : Int) * 65536 + (y : Int) * 256 + (z : Int)) % n).toNat, ret_nat (Int.emod_nonneg _ hnz), fun h => by have := Int.emod_nonneg ((x : Int) * 65536 + (y : Int) * 256 + (z : Int)) hnz; have := Int.emod_lt_of_pos ((x : Int) * 65536 + (y : Int) * 256 + (z : Int)) h; omega, hc3, grownBy_trans (grownBy_trans hg1 hg2) hg3⟩
end Go.Proofs.YtgbpnepipknjnaaDoor

/- The walks of spec.l1Int, l1Bytes and l1New. -/
namespace Go.Proofs.YtgbpnepipknjnaaDoor
open Go.RowKit

set_option maxHeartbeats 400000 in
theorem l1Int_any (B : Nat) (zs : List Int) (na : Option Addr) (nc : Nat) (ns : List Int) (w : World) (hc : CurAt w B zs) (hl : zs.length ≤ 70368744177664) (hn : ReadsI w na ns) (hne : ∀ b off, na = some ⟨b, off, none⟩ → b ≠ B) (h1 : 1 ≤ ns.length) (h2 : ns.length ≤ 1000) :
    Calls Tryd.prog 51 #[.pointer (some ⟨B, 0, none⟩), .slice na ns.length nc] w fun e w' => ∃ j : Nat, j < ns.length ∧ e = .returned (.int .i64 (ns.getD j 0)) ∧ CurAt w' B zs ∧ w.grownBy w' (some B) := by
  have HN : Hid (ReadsI w na ns) := hn
  have HNE : Hid (∀ b off, na = some ⟨b, off, none⟩ → b ≠ B) := hne
  obtain ⟨b, off, rfl, _⟩ := hn (by intro e; simp [e] at h1)
  clear hn hne
  go_enter Tryd.func51, Tryd.ntmps51
  go_wp2_with fail
  refine (l1Below_any B zs ns.length w hc hl (by omega)).mono ?_
  rintro e w1 ⟨x, rfl, hx, hc1, hg1⟩
  have hx' : x < ns.length := by have := hx (by omega); omega
  obtain ⟨b', off', hh, hcell⟩ := (HN.out.grown hg1 HNE.out) (by intro e; simp [e] at h1)
  cases hh
  have hcx := hcell x hx'
  clear hcell hx
  generalize hv : ns.getD x 0 = v at *
  have HV : Hid (ns.getD x 0 = v) := hv
  clear hv
  go_wp2
  go_ret
  exact ⟨x, hx', by rw [HV.out]; rfl, hc1, hg1⟩

set_option maxHeartbeats 400000 in
set_option maxRecDepth 100000 in
theorem l1New_any (a : Option Addr) (c : Nat) (zs : List Int) (w : World) (hr : Reads w a zs) (hl : zs.length ≤ 70368744177664) :
    Calls Tryd.prog 33 #[.slice a zs.length c] w fun e w' => e = .returned (.pointer (some ⟨w.heap.size, 0, none⟩)) ∧ CurAt w' w.heap.size zs ∧ Below w.heap.size w w' := by
  have HW : Hid (zs ≠ [] → ∀ b off, a = some ⟨b, off, none⟩ → b < w.heap.size) := by
    intro hne b off e
    obtain ⟨b', off', ha, hcc⟩ := hr.2 hne
    rw [ha] at e
    cases e
    exact block_lt (hcc 0 (List.length_pos_iff.2 hne))
  have HR : Hid (Reads w a zs) := hr
  have fin : ∀ h : Int, CurAt (w.alloc (.cells #[.slice a zs.length c, .int .i64 0, .int .i64 h] 77)) w.heap.size zs := fun h => ⟨a, c, 0, h, heap_alloc_new w _, by omega, HR.out.alloc _, HW.out⟩
  have FIN : Hid (∀ h : Int, CurAt (w.alloc (.cells #[.slice a zs.length c, .int .i64 0, .int .i64 h] 77)) w.heap.size zs) := fin
  clear fin
  rcases hr.cases with rfl | ⟨b, off, rfl, hpos, hcell⟩
  · clear hr
    go_enter Tryd.func33, Tryd.ntmps33
    go_wp2
    refine wp_loop_rounds 1 ?_
    rw [rounds_succ]
    go_wp2
    go_ret
    exact ⟨rfl, FIN.out _, (Below.refl _ _).alloc (Nat.le_refl _) _⟩
  · have hby := hr.byte
    clear hr
    go_enter Tryd.func33, Tryd.ntmps33
    go_wp2
    go_loop [3, 4] (fun hv i => ∃ (k : Nat) (h : Int), k ≤ zs.length ∧ k ≤ 4000 ∧ i = .int .i64 k ∧ hv = .int .i64 h) (fun _ i => 4000 - (intOf i).toNat)
    case atStart => exact ⟨0, _, by omega, by omega, rfl, rfl⟩
    case round =>
      obtain ⟨k, h, hk, hk4, rfl, rfl⟩ := hrel
      by_cases h1 : k < zs.length
      · by_cases h2 : k < 4000
        · have hck := hcell k h1
          have hbk := bytes_at hby k
          clear hcell hby
          generalize zs.getD k 0 = z at *
          go_wp2
          go_round
          case rel => exact ⟨k + 1, _, by omega, by omega, by go_num, rfl⟩
          case measure => simp [intOf]; omega
        · go_wp2
          go_ret
          exact ⟨rfl, FIN.out _, (Below.refl _ _).alloc (Nat.le_refl _) _⟩
      · go_wp2
        go_ret
        exact ⟨rfl, FIN.out _, (Below.refl _ _).alloc (Nat.le_refl _) _⟩
end Go.Proofs.YtgbpnepipknjnaaDoor

/- Appending numbers as a step of a region that draws its order; an object in a box of the call. -/
namespace Go.Proofs.YtgbpnepipknjnaaDoor
open Go.RowKit

theorem run_append_ints {w : World} (ty : TypeId) (lo hi : Nat) (a : Option Addr) (c : Nat) (xs : List Int) (hown : OwnI w lo hi a c xs)
    (sa : Option Addr) (sc : Nat) (zs : List Int) (hr : ReadsI w sa zs) (hc : sa = none → sc = 0) (hb : xs.length + zs.length ≤ 1099511627776) (hlo : lo ≤ w.heap.size) :
    ∃ a' c' ys w', (Builtin.append_ #[27, 27] ty #[.slice a xs.length c, .slice sa zs.length sc]).run Tryd.prog w = .ok (.slice a' ys.length c') w' ∧ Hid (ys = xs ++ zs) ∧ OwnI w' lo w'.heap.size a' c' ys ∧ w.grownBy w' (Value.slice a xs.length c).ownBlock ∧
      (∀ k, (Value.slice a' ys.length c').ownBlock = some k → (Value.slice a xs.length c).ownBlock = some k ∨ k = w.heap.size) := by
  obtain ⟨i0, hi0, hz0, hz1, hz2⟩ := info_parts Tryd.infoInt
  cases sa with
  | none =>
    have hz : zs = [] := by
      by_cases e : zs = []
      · exact e
      · obtain ⟨b, off, hh, _⟩ := hr e
        cases hh
    subst hz
    have := hc rfl
    subst this
    refine ⟨a, c, xs, w, run_append_owned_none (P := Tryd.prog) (w := w) lo 27 ty 3 i0 1 Tryd.underlying27 hi0 _ _ _ hown.1, (by simp [Hid]), ⟨hown.1, Nat.le_refl _, fun k hk => (hown.1.lt k hk).2⟩, World.grownBy.refl _ _, fun k hk => .inl hk⟩
  | some ad =>
    obtain ⟨v', w', h1, h2, h3, _, h5⟩ := run_append_own_at (P := Tryd.prog) w lo 27 ty 3 i0 (.int .i64 0) 1 8 Tryd.underlying27 hi0 hz0 hz1 hz2 rfl (by decide) _ _ _ hown.1 ad zs.length sc (zs.map (Value.int .i64)) (by simp) (by
      intro j u hj
      have hjl : j < zs.length := by
        by_cases e : j < zs.length
        · exact e
        · simp [List.getElem?_eq_none (Nat.le_of_not_lt e)] at hj
      have hne : zs ≠ [] := by intro e; simp [e] at hjl
      obtain ⟨b, off, hh, hcell⟩ := hr hne
      cases hh
      rw [Addr_add, hcell j hjl]
      simpa [hjl] using hj) (ints_oneCell _ _) (by simp only [maxLen]; omega) (by omega) hlo
    rw [← List.map_append, ← List.length_append] at h2
    have sh : ∃ a' c', v' = .slice a' (xs ++ zs).length c' := by
      rcases h2.2 with ⟨rfl, h0⟩ | ⟨g, cap, cur, rfl, _⟩
      · exact ⟨none, 0, by rw [h0]⟩
      · exact ⟨_, _, rfl⟩
    obtain ⟨a', c', rfl⟩ := sh
    refine ⟨a', c', xs ++ zs, w', h1, rfl, ⟨h2, Nat.le_refl _, fun k hk => (h2.lt k hk).2⟩, h3, fun k hk => ?_⟩
    rcases h5 with h5 | h5
    · exact .inl (by rw [← h5]; exact hk)
    · rw [h5] at hk
      exact .inr (Option.some.inj hk).symm

theorem step_append_ints {w : World} {ops : Array Oper} {o : Oper} {act : Act} {K : Act → World → Prop} {Q : Exit → Act → World → Prop} {E : Prop} (hgd : o.guard = none) (s x : Operand)
    (ho : o.op = .call { callee := .builtin .append, args := #[s, x], argTypes := #[27, 27] })
    (lo hi : Nat) (a : Option Addr) (c : Nat) (xs : List Int) (hs : act.eval s = .slice a xs.length c) (hown : OwnI w lo hi a c xs)
    (sa : Option Addr) (sc : Nat) (zs : List Int) (hx : act.eval x = .slice sa zs.length sc) (hr : ReadsI w sa zs) (hc : sa = none → sc = 0)
    (hb : xs.length + zs.length ≤ 1099511627776) (hlo : lo ≤ w.heap.size)
    (h : ∀ a' c' ys w', Hid (ys = xs ++ zs) → OwnI w' lo w'.heap.size a' c' ys → w.grownBy w' (Value.slice a xs.length c).ownBlock →
      (∀ k, (Value.slice a' ys.length c').ownBlock = some k → (Value.slice a xs.length c).ownBlock = some k ∨ k = w.heap.size) → K (act.put o.dst (.slice a' ys.length c')) w') :
    if Region.wanted o (yielded ops act.tmps) = true then Oper.wp Tryd.prog o act w K Q else E := by
  have hw : Region.wanted o (yielded ops act.tmps) = true := by simp [Region.wanted, hgd]
  rw [if_pos hw]
  obtain ⟨a', c', ys, w', hrun, h1, h2, h3, h4⟩ := run_append_ints (w := w) o.type lo hi a c xs hown sa sc zs hr hc hb hlo
  unfold Oper.wp execOp
  simp only [ho, resolve, invoke, builtin, Sem.run_bind, Sem.run_pure, Result.andThen_ok, List.map_toArray, List.map_cons, List.map_nil, hs, hx, hrun]
  exact h a' c' ys w' h1 h2 h3 h4

/-- An object lies in block Bo; its lists lie from lo on, and the call owns them. -/
structure ObjAt (w : World) (lo Bo : Nat) (o : ObjV) (aI : Option Addr) (cI : Nat) (aR : Option Addr) (cR : Nat) : Prop where
  box : Box w Bo [.int .i64 o.kind, .slice aI o.ints.length cI, .slice aR o.refs.length cR] 35
  own : OwnO w lo w.heap.size aI cI aR cR o
  lt : Bo < lo

theorem OwnO.kept {w w' : World} {lo hi : Nat} {aI : Option Addr} {cI : Nat} {aR : Option Addr} {cR : Nat} {o : ObjV} {B : Nat} (h : OwnO w lo hi aI cI aR cR o) (hg : w.grownBy w' (some B)) (hB : B < lo) : OwnO w' lo w'.heap.size aI cI aR cR o := by
  have h1 := h.ints.kept hg (fun k hk e => by have := (h.ints.lt k hk).1; cases e; omega)
  have h2 := h.refs.kept hg (fun k hk e => by have := (h.refs.lt k hk).1; cases e; omega)
  exact ⟨h1.widen (Nat.le_refl _) h1.2.1 (Nat.le_refl _), h2.widen (Nat.le_refl _) h2.2.1 (Nat.le_refl _), h.apart⟩

theorem ObjAt.kept {w w' : World} {lo Bo : Nat} {aI : Option Addr} {cI : Nat} {aR : Option Addr} {cR : Nat} {o : ObjV} {B : Nat} (h : ObjAt w lo Bo o aI cI aR cR) (hg : w.grownBy w' (some B)) (hB : B < Bo) : ObjAt w' lo Bo o aI cI aR cR :=
  ⟨h.box.block (hg.block Bo h.box.lt (fun e => by cases e; omega)), h.own.kept hg (by have := h.lt; omega), h.lt⟩
theorem ObjAt.alloc {w : World} {lo Bo : Nat} {aI : Option Addr} {cI : Nat} {aR : Option Addr} {cR : Nat} {o : ObjV} (h : ObjAt w lo Bo o aI cI aR cR) (ob : Obj) : ObjAt (w.alloc ob) lo Bo o aI cI aR cR :=
  ⟨h.box.alloc ob, (h.own.below ((Below.refl _ _).alloc (Nat.le_refl _) ob)).widen (Nat.le_refl _) (by simp) (Nat.le_refl _), h.lt⟩
theorem ObjAt.drew {w : World} {lo Bo : Nat} {aI : Option Addr} {cI : Nat} {aR : Option Addr} {cR : Nat} {o : ObjV} (h : ObjAt w lo Bo o aI cI aR cR) : ObjAt w.drew lo Bo o aI cI aR cR :=
  ⟨h.box, h.own.below (Below.refl _ _).drew, h.lt⟩
theorem ObjAt.three {w : World} {lo Bo : Nat} {aI : Option Addr} {cI : Nat} {aR : Option Addr} {cR : Nat} {o : ObjV} (h : ObjAt w lo Bo o aI cI aR cR) :
    w.cell? ⟨Bo, 0, none⟩ = some (.int .i64 o.kind) ∧ w.cell? ⟨Bo, 1, none⟩ = some (.slice aI o.ints.length cI) ∧ w.cell? ⟨Bo, 2, none⟩ = some (.slice aR o.refs.length cR) ∧ w.frozen? ⟨Bo, 0, none⟩ = false ∧ w.frozen? ⟨Bo, 1, none⟩ = false ∧ w.frozen? ⟨Bo, 2, none⟩ = false := h.box.three

theorem Box.grown {w w' : World} {C B : Nat} {vs : List Value} {t : TypeId} (h : Box w C vs t) (hg : w.grownBy w' (some B)) (hne : C ≠ B) : Box w' C vs t := h.block (hg.block C h.lt (fun e => hne (Option.some.inj e)))
theorem CurAt.drew {w : World} {B : Nat} {zs : List Int} (h : CurAt w B zs) : CurAt w.drew B zs := h
theorem grown_drew (w : World) (r : Option Nat) : w.grownBy w.drew r := ⟨rfl, rfl, rfl, Nat.le_refl _, fun _ _ _ => rfl⟩

end Go.Proofs.YtgbpnepipknjnaaDoor

/- A row of numbers as a stack: put on it, cut off. -/
namespace Go.Proofs.YtgbpnepipknjnaaDoor
open Go.RowKit

theorem append_intsM {w : World} {ops : Array Oper} {rest : List Oper} {o : Oper} {act : Act} {Q : Exit → Act → World → Prop} (hgd : o.guard = none) (s x : Operand)
    (ho : o.op = .call { callee := .builtin .append, args := #[s, x], argTypes := #[27, 27] })
    (lo hi : Nat) (a : Option Addr) (c : Nat) (xs : List Int) (hs : act.eval s = .slice a xs.length c) (hown : OwnI w lo hi a c xs)
    (sa : Option Addr) (sc : Nat) (zs : List Int) (hx : act.eval x = .slice sa zs.length sc) (hr : ReadsI w sa zs) (hc : sa = none → sc = 0)
    (hb : xs.length + zs.length ≤ 1099511627776) (hlo : lo ≤ w.heap.size)
    (h : ∀ a' c' ys w', Hid (ys = xs ++ zs) → OwnI w' lo w'.heap.size a' c' ys → w.grownBy w' (Value.slice a xs.length c).ownBlock → (∀ k, (Value.slice a' ys.length c').ownBlock = some k → (Value.slice a xs.length c).ownBlock = some k ∨ k = w.heap.size) → wpList Tryd.prog ops Q rest (act.put o.dst (.slice a' ys.length c')) w') :
    wpList Tryd.prog ops Q (o :: rest) act w := by
  obtain ⟨a', c', ys, w', hrun, h1, h2, h3, h4⟩ := run_append_ints (w := w) o.type lo hi a c xs hown sa sc zs hr hc hb hlo
  refine wpList_plain hgd fun K hK => ?_
  unfold Oper.wp execOp
  simp only [ho, resolve, invoke, builtin, Sem.run_bind, Sem.run_pure, Result.andThen_ok, List.map_toArray, List.map_cons, List.map_nil, hs, hx, hrun]
  exact hK _ _ (h a' c' ys w' h1 h2 h3 h4)
theorem ownI_lit1M (w : World) (n : Int) : OwnI (w.alloc (.cells #[.int .i64 n] 3)) w.heap.size (w.heap.size + 1) (some ⟨w.heap.size, 0, none⟩) 1 [n] :=
  ⟨World.ownsRow_lit w #[.int .i64 n] 1 (Nat.le_refl _) (by simp [maxLen]) rfl, by simp, fun k hk => by cases hk; simp⟩
theorem OwnI.cut {w : World} {lo hi : Nat} {a : Option Addr} {c : Nat} {ns : List Int} (h : OwnI w lo hi a c ns) (k : Nat) (hk : k ≤ ns.length) : OwnI w lo hi a c (ns.take k) := by
  have hl : (ns.take k).length = k := by rw [List.length_take]; omega
  obtain ⟨⟨h1, h2⟩, h3, h4⟩ := h
  refine ⟨⟨by simp, ?_⟩, h3, fun j hj => h4 j (by
    cases a with
    | none => simp [Value.ownBlock] at hj
    | some ad => simpa [Value.ownBlock] using hj)⟩
  rcases h2 with ⟨hv, h0⟩ | ⟨g, cap, cur, hv, hg, hh, hn, hcap, hsz, htake⟩
  · left
    simp only [Value.slice.injEq] at hv
    obtain ⟨rfl, _, rfl⟩ := hv
    have : ns = [] := List.length_eq_zero_iff.1 h0
    subst this
    simp
  · right
    simp only [Value.slice.injEq] at hv
    obtain ⟨rfl, _, rfl⟩ := hv
    refine ⟨g, c, cur, rfl, hg, hh, by omega, hcap, hsz, ?_⟩
    have h5 : (cur.toList.take (ns.length * 1)).take (k * 1) = (ns.map (Value.int .i64)).take (k * 1) := by rw [htake]
    rw [List.take_take, Nat.min_eq_left (by omega)] at h5
    rw [hl, h5, Nat.mul_one, List.map_take]
end Go.Proofs.YtgbpnepipknjnaaDoor

/- A marking in its box: what stands there, and what a step of it changes. -/
namespace Go.Proofs.YtgbpnepipknjnaaDoor
open Go.RowKit

def cellsM (v : Value) (mb most : Nat) (st : MSt) (aS : Option Addr) (cS : Nat) : List Value := [v, .map (some mb), .slice aS st.stack.length cS, .int .i64 most, .bool st.left, .int .i64 st.anew]
/-- The marking in box M: its marks in the map mb, its stack at aS; all of it was made since w0. -/
structure MkO (w0 w : World) (M mb : Nat) (v : Value) (most : Nat) (st : MSt) (aS : Option Addr) (cS : Nat) : Prop where
  box : Box w M (cellsM v mb most st aS cS) 63
  set : SetAt w mb st.met
  own : OwnI w w0.heap.size w.heap.size aS cS st.stack
  ne : M ≠ mb
  nS : ∀ k, (Value.slice aS st.stack.length cS).ownBlock = some k → k ≠ M ∧ k ≠ mb
  lo : w0.heap.size ≤ M ∧ w0.heap.size ≤ mb
  bel : Below w0.heap.size w0 w
def MkAt (w0 w : World) (M mb : Nat) (v : Value) (most : Nat) (st : MSt) : Prop := ∃ aS cS, MkO w0 w M mb v most st aS cS
theorem MkO.below {w0 w w' : World} {M mb : Nat} {v : Value} {most : Nat} {st : MSt} {aS : Option Addr} {cS : Nat} (h : MkO w0 w M mb v most st aS cS) (hb : Below w.heap.size w w') : MkO w0 w' M mb v most st aS cS :=
  ⟨h.box.below hb h.box.lt, h.set.below hb, (h.own.below hb).widen (Nat.le_refl _) hb.size (Nat.le_refl _), h.ne, h.nS, h.lo, h.bel.trans (hb.mono h.bel.size)⟩
theorem MkAt.below {w0 w w' : World} {M mb : Nat} {v : Value} {most : Nat} {st : MSt} (h : MkAt w0 w M mb v most st) (hb : Below w.heap.size w w') : MkAt w0 w' M mb v most st := by
  obtain ⟨aS, cS, h⟩ := h
  exact ⟨aS, cS, h.below hb⟩
theorem MkAt.bel {w0 w : World} {M mb : Nat} {v : Value} {most : Nat} {st : MSt} (h : MkAt w0 w M mb v most st) : Below w0.heap.size w0 w := by
  obtain ⟨aS, cS, h⟩ := h
  exact h.bel
/-- One cell of the box that is no list is written. -/
theorem MkO.cell {w0 w : World} {M mb : Nat} {v : Value} {most : Nat} {st st' : MSt} {aS : Option Addr} {cS : Nat} (h : MkO w0 w M mb v most st aS cS) (i : Nat) (x : Value) (hc : (cellsM v mb most st aS cS).set i x = cellsM v mb most st' aS cS) (hm : st'.met = st.met) (hs : st'.stack = st.stack) :
    ∃ W, Hid (w.setCell ⟨M, i, none⟩ x = W) ∧ MkO w0 W M mb v most st' aS cS := by
  obtain ⟨W, hW, hb, hw, hsz⟩ := box_set h.box i x
  rw [hc] at hb
  have hlo := h.lo
  refine ⟨W, hW, hb, ?_, ?_, h.ne, ?_, h.lo, h.bel.trans (hw.below hlo.1 h.bel.size)⟩
  · rw [hm]
    exact h.set.block (hw.block mb h.set.lt (by have := h.ne; omega))
  · rw [hs, hsz]
    have ho := h.own
    exact ⟨ownsRow_block ho.1 (fun k hk => hw.block k (by have := ho.2.2 k hk; omega) (by have := (h.nS k hk).1; omega)), by rw [hsz]; exact Nat.le_refl _, fun k hk => ho.2.2 k hk⟩
  · rw [hs]
    exact h.nS
/-- The map was written: one more is marked. -/
theorem MkO.marked {w0 w w' : World} {M mb : Nat} {v : Value} {most : Nat} {st : MSt} {S : List Bool} {aS : Option Addr} {cS : Nat} (h : MkO w0 w M mb v most st aS cS) (hs : SetAt w' mb S) (hg : w.grownBy w' (some mb)) : MkO w0 w' M mb v most ⟨S, st.stack, st.left, st.anew⟩ aS cS := by
  have hlo := h.lo
  have ho := h.own
  refine ⟨h.box.block (hg.block M h.box.lt (fun e => h.ne (Option.some.inj e))), hs, ⟨ownsRow_block ho.1 (fun k hk => hg.block k (ho.2.2 k hk) (fun e => (h.nS k hk).2 (Option.some.inj e))), Nat.le_refl _, fun k hk => Nat.lt_of_lt_of_le (ho.2.2 k hk) hg.size⟩, h.ne, h.nS, h.lo, h.bel.grown hg h.bel.size (fun j hj => by cases hj; exact hlo.2)⟩
/-- The stack was written, as another list. -/
theorem MkO.stacked {w0 w w1 : World} {M mb : Nat} {v : Value} {most : Nat} {st : MSt} {aS aN : Option Addr} {cS cN : Nat} {T : List Int} (h : MkO w0 w M mb v most st aS cS) (hb : Box w1 M (cellsM v mb most st aS cS) 63) (hs : SetAt w1 mb st.met) (ho : OwnI w1 w0.heap.size w1.heap.size aN cN T) (hn : ∀ k, (Value.slice aN T.length cN).ownBlock = some k → k ≠ M ∧ k ≠ mb) (hbl : Below w0.heap.size w0 w1) :
    ∃ W, Hid (w1.setCell ⟨M, 2, none⟩ (.slice aN T.length cN) = W) ∧ MkO w0 W M mb v most ⟨st.met, T, st.left, st.anew⟩ aN cN := by
  obtain ⟨W, hW, hb, hw, hsz⟩ := box_set hb 2 (.slice aN T.length cN)
  have hlo := h.lo
  refine ⟨W, hW, hb, hs.block (hw.block mb hs.lt (by have := h.ne; omega)), ?_, h.ne, hn, h.lo, hbl.trans (hw.below hlo.1 hbl.size)⟩
  rw [hsz]
  exact ⟨ownsRow_block ho.1 (fun k hk => hw.block k (by have := ho.2.2 k hk; omega) (by have := (hn k hk).1; omega)), by rw [hsz]; exact Nat.le_refl _, fun k hk => ho.2.2 k hk⟩

/-- One more was put on the stack, which is not yet written into the box. -/
theorem MkO.appended {w0 w w1 : World} {o : Obj} {M mb : Nat} {v : Value} {most : Nat} {st : MSt} {aS aN : Option Addr} {cS cN : Nat} {T : List Int} (h : MkO w0 w M mb v most st aS cS) (hg : (w.alloc o).grownBy w1 (Value.slice aS st.stack.length cS).ownBlock) (hk : ∀ k, (Value.slice aN T.length cN).ownBlock = some k → (Value.slice aS st.stack.length cS).ownBlock = some k ∨ k = (w.alloc o).heap.size) :
    Box w1 M (cellsM v mb most st aS cS) 63 ∧ SetAt w1 mb st.met ∧ (∀ k, (Value.slice aN T.length cN).ownBlock = some k → k ≠ M ∧ k ≠ mb) ∧ Below w0.heap.size w0 w1 := by
  have ha := (Below.refl w.heap.size w).alloc (Nat.le_refl _) o
  have h1 := h.below ha
  have hM := h1.box.lt
  have hB := h1.set.lt
  refine ⟨h1.box.block (hg.block M hM (fun e => (h.nS M e.symm).1 rfl)), h1.set.block (hg.block mb hB (fun e => (h.nS mb e.symm).2 rfl)), fun k hk1 => ?_, h1.bel.grown hg h1.bel.size (fun j hj => (h.own.1.lt j hj).1)⟩
  rcases hk k hk1 with h2 | h2
  · exact h.nS k h2
  · exact ⟨by omega, by omega⟩

set_option maxHeartbeats 1000000 in
set_option maxRecDepth 100000 in
theorem setHas_any (mb : Nat) (S : List Bool) (k : Int) (hk : 0 ≤ k) (w : World) (h : SetAt w mb S) :
    Calls Tryd.prog 65 #[.map (some mb), .int .i64 k] w fun e w' => e = .returned (.bool (metM S k)) ∧ Below w.heap.size w w' := by
  have hlk := run_look_s h k hk
  generalize metM S k = R at *
  obtain ⟨W, hW, _, hbW, _⟩ := boxes1 w [] 85
  go_enter Tryd.func65, Tryd.ntmps65
  go_wp2
  go_ret
  exact ⟨rfl, by first | (rw [hW.out]; exact hbW) | exact hbW⟩
set_option maxHeartbeats 1000000 in
set_option maxRecDepth 100000 in
theorem setAdd_any (mb : Nat) (S : List Bool) (hS : S.length = 32) (k : Int) (hk : 0 ≤ k ∧ k ≤ 31) (w : World) (h : SetAt w mb S) :
    Calls Tryd.prog 66 #[.map (some mb), .int .i64 k] w fun e w' => (∃ v, e = .returned v) ∧ SetAt w' mb (S.set k.toNat true) ∧ w.grownBy w' (some mb) := by
  go_enter Tryd.func66, Tryd.ntmps66
  go_wp2_with (first | (at_mapUpdate; refine wpList_update_s rfl _ _ _ rfl mb S k hk hS rfl rfl rfl h ?_; intro w5 hm5 hg5) | fail)
  refine bodyPost_end (results_none rfl _ _ _) rfl ?_
  exact ⟨⟨_, rfl⟩, hm5, hg5⟩
end Go.Proofs.YtgbpnepipknjnaaDoor
