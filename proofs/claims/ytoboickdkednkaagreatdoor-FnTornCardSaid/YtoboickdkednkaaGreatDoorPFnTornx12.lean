/- Several texts in one, in their order. -/
import Derived.Test.YtoboickdkednkaaGreatDoorPFnTornx11
import Derived.Test.YtoboickdkednkaaGreatDoorPFnTornx8
import Derived.Test.YtoboickdkednkaaGreatDoorPFnTornx4
import Derived.Test.YtoboickdkednkaaGreatDoorPFnTornx6
import Derived.Deep.RegionHeld3
import Derived.Deep.CutRange
import Derived.Test.YtoboickdkednkaaGreatDoorPFnTornx1
set_option maxHeartbeats 8000000
set_option maxRecDepth 100000
namespace Go.Proofs.YtoboickdkednkaaGreatDoor
open Go.RowKit
def Lives (e : EngV) : Prop := ∀ t ∈ e.txs, ∃ p : Nat, t.last = p ∧ p ≤ e.log.recs.length
theorem lastV_mem (ls : List LiveV) (tx n : Int) : ∀ t ∈ lastV ls tx n, t ∈ ls ∨ t.last = n := by
 intro t ht
 unfold lastV at ht
 split at ht
 ·rcases List.mem_or_eq_of_mem_set ht with h | h
  ·exact .inl h
  ·rw [h]; exact .inr rfl
 ·exact .inl ht
theorem log_lives {e : EngV} (h : Lives e) (r : RecV) : Lives (logV e r) := by
 intro t ht
 rw [log_len]
 rcases lastV_mem _ _ _ t ht with h1 | h1
 ·obtain ⟨p, hp, hpl⟩ := h t h1
  exact ⟨p, hp, by omega⟩
 ·exact ⟨e.log.recs.length + 1, by rw [h1]; omega, Nat.le_refl _⟩
theorem lives_of {e e' : EngV} (h : Lives e) (ht : e'.txs = e.txs) (hl : e'.log.recs = e.log.recs) : Lives e' := by
 intro t h1
 rw [ht] at h1
 rw [hl]
 exact h t h1
theorem ends_lives {e : EngV} (h : Lives e) (tx : Int) : Lives (endsV e tx) := fun t ht => h t (List.mem_filter.1 ht).1
theorem undoLoop_lives (n : Nat) : ∀ (e : EngV) (m l : Int), Lives e → Lives (undoLoop n e m l).1 := by
 induction n with
 | zero => intro e m l h; exact h
 | succ n ih =>
  intro e m l h
  rw [undoLoop]
  split
  ·simp only
   split
   ·exact ih _ _ _ (lives_of (log_lives h _) (apply_rest _ _ _ _).1 (apply_rest _ _ _ _).2.2.1)
   ·exact ih _ _ _ h
  ·exact h
structure DrawE (i : Nat) (e : EngV) : Prop where
 sound : Sound e
 lives : Lives e
 len : e.log.recs.length + 3 ≤ 2 ^ (i + 2)
 txs : e.txs.length ≤ 4
 holds : e.holds.length ≤ i
 next : ∃ m : Nat, e.next = m ∧ m ≤ i + 1
theorem two_pow (i : Nat) : 2 ^ (i + 1 + 2) = 2 * 2 ^ (i + 2) := by rw [show i + 1 + 2 = (i + 2) + 1 by omega, Nat.pow_succ]; omega
theorem four_le (i : Nat) : 4 ≤ 2 ^ (i + 2) := by
 have : 2 ^ 2 ≤ 2 ^ (i + 2) := Nat.pow_le_pow_right (by omega) (by omega)
 simpa using this
theorem DrawE.later {i : Nat} {e : EngV} (h : DrawE i e) : DrawE (i + 1) e := ⟨h.sound, h.lives, by have := h.len; rw [two_pow]; omega, h.txs, by have := h.holds; omega, by obtain ⟨m, h1, h2⟩ := h.next; exact ⟨m, h1, by omega⟩⟩
theorem drawE_commit {i : Nat} {e : EngV} (h : DrawE i e) (tx : Int) : DrawE (i + 1) (commitV e tx) := by
 obtain ⟨s, l⟩ := commit_sound h.sound tx
 have h4 := four_le i
 refine ⟨s, ?_, by have := h.len; rw [two_pow, l]; omega, ?_, ?_, by obtain ⟨m, h1, h2⟩ := h.next; exact ⟨m, h1, by omega⟩⟩
 ·exact ends_lives (log_lives (lives_of (log_lives h.lives _) rfl rfl) _) tx
 ·refine Nat.le_trans (List.length_filter_le _ _) ?_
  show (lastV (lastV _ _ _) _ _).length ≤ _
  rw [lastV_len, lastV_len]; exact h.txs
 ·exact Nat.le_trans (List.length_filter_le _ _) (Nat.le_trans h.holds (by omega))
theorem drawE_abort {i : Nat} {e : EngV} (h : DrawE i e) (tx : Int) : DrawE (i + 1) (abortV e tx) := by
 obtain ⟨s, l, t, ho, nx⟩ := abort_sound h.sound tx
 refine ⟨s, ?_, by have := h.len; rw [two_pow]; omega, Nat.le_trans t h.txs, Nat.le_trans ho (Nat.le_trans h.holds (by omega)), by obtain ⟨m, h1, h2⟩ := h.next; exact ⟨m, by rw [nx]; exact h1, by omega⟩⟩
 exact ends_lives (log_lives (undoLoop_lives _ _ _ _ (log_lives h.lives _)) _) tx
theorem flush_rest (e : EngV) (n : Nat) : (flushV e n).txs = e.txs ∧ (flushV e n).holds = e.holds ∧ (flushV e n).log.recs = e.log.recs ∧ (flushV e n).next = e.next := by
 unfold flushV
 split <;> exact ⟨rfl, rfl, rfl, rfl⟩
theorem drawE_flush {i : Nat} {e : EngV} (h : DrawE i e) (n : Nat) : DrawE (i + 1) (flushV e n) := by
 obtain ⟨s, _⟩ := flush_sound h.sound n
 obtain ⟨r1, r2, r3, r4⟩ := flush_rest e n
 have hh := h.later
 exact ⟨s, lives_of h.lives r1 r3, by rw [r3]; exact hh.len, by rw [r1]; exact h.txs, by rw [r2]; exact hh.holds, by rw [r4]; exact hh.next⟩
theorem drawE_check {i : Nat} {e : EngV} (h : DrawE i e) : DrawE (i + 1) (checkV e) := by
 obtain ⟨s, l⟩ := check_sound h.sound (by have := h.txs; omega)
 have h4 := four_le i
 refine ⟨s, lives_of (log_lives h.lives (recCV (e.txs.filter (fun l => decide (0 < l.last))))) rfl rfl, by have := h.len; rw [two_pow, l]; omega, ?_, by have := h.holds; show e.holds.length ≤ _; omega, by obtain ⟨m, h1, h2⟩ := h.next; exact ⟨m, h1, by omega⟩⟩
 show (lastV _ _ _).length ≤ _
 rw [lastV_len]; exact h.txs
theorem drawE_fetch {i : Nat} {e : EngV} (h : DrawE i e) (n : Nat) (h8 : n < 8) : DrawE (i + 1) (fetchV e n).1 := by
 obtain ⟨r1, r2, r3, r4⟩ := fetch_rest e n
 have hh := h.later
 exact ⟨fetch_sound h.sound n h8, lives_of h.lives r1 r3, by rw [r3]; exact hh.len, by rw [r1]; exact h.txs, by rw [r2]; exact hh.holds, by rw [r4]; exact hh.next⟩
theorem live_last {i : Nat} {e : EngV} (h : DrawE i e) (tx : Int) : ∃ p : Nat, (e.txs.getD (liveOf e.txs tx).toNat zeroL).last = p ∧ p ≤ e.log.recs.length := by
 simp only [List.getD]
 cases hq : e.txs[(liveOf e.txs tx).toNat]? with
 | none => exact ⟨0, rfl, Nat.zero_le _⟩
 | some t => exact h.lives t (List.mem_of_getElem? hq)
theorem drawE_set {i : Nat} {e : EngV} (h : DrawE i e) (tx : Int) (o : Nat) (h32 : o < 32) (x : SlotV) (hx : SmallS x) : DrawE (i + 1) (setV e tx o x) := by
 obtain ⟨s, l⟩ := set_sound h.sound tx o h32 x hx (live_last h tx)
 have h4 := four_le i
 have hr := fetch_rest e (o / 4)
 obtain ⟨e3, he3⟩ : ∃ e3, applyV (logV (fetchV e (o / 4)).1 (recSV tx (e.txs.getD (liveOf e.txs tx).toNat zeroL).last o (((fetchV e (o / 4)).1.seats.getD (fetchV e (o / 4)).2.toNat zeroStV).ss.getD (o % 4) ⟨false, ⟨0, [], []⟩⟩) x)) o x ((e.log.recs.length : Int) + 1) = e3 := ⟨_, rfl⟩
 have hset : setV e tx o x = if holdFrom o e3.holds = 0 then { e3 with holds := e3.holds ++ [⟨tx, o⟩] } else e3 := by
  unfold setV; simp only; rw [he3]
 have hl3 : Lives e3 := by rw [← he3]; exact lives_of (log_lives (lives_of h.lives hr.1 hr.2.2.1) _) (apply_rest _ _ _ _).1 (apply_rest _ _ _ _).2.2.1
 have ht3 : e3.txs.length = e.txs.length := by
  rw [← he3, (apply_rest _ _ _ _).1]
  show (lastV _ _ _).length = _
  rw [lastV_len, hr.1]
 have hh3 : e3.holds = e.holds := by rw [← he3, (apply_rest _ _ _ _).2.1]; exact hr.2.1
 have hn3 : e3.next = e.next := by rw [← he3, (apply_rest _ _ _ _).2.2.2]; exact hr.2.2.2
 refine ⟨s, ?_, by have := h.len; rw [two_pow, l]; omega, ?_, ?_, ?_⟩
 ·rw [hset]; split
  ·exact hl3
  ·exact hl3
 ·rw [hset]; split
  ·show e3.txs.length ≤ 4; rw [ht3]; exact h.txs
  ·rw [ht3]; exact h.txs
 ·rw [hset]; split
  ·simp only [List.length_append, List.length_singleton, hh3]; have := h.holds; omega
  ·rw [hh3]; have := h.holds; omega
 ·rw [hset]
  obtain ⟨m, h1, h2⟩ := h.next
  split
  ·exact ⟨m, by show e3.next = _; rw [hn3]; exact h1, by omega⟩
  ·exact ⟨m, by rw [hn3]; exact h1, by omega⟩
def beginV (e : EngV) : EngV := { e with txs := e.txs ++ [⟨e.next, 0, false⟩], next := e.next + 1 }
theorem drawE_begin {i : Nat} {e : EngV} (h : DrawE i e) (h4 : e.txs.length < 4) : DrawE (i + 1) (beginV e) := by
 have hh := h.later
 refine ⟨⟨⟨h.sound.pool.len, h.sound.pool.hand, h.sound.pool.nos, h.sound.pool.fitS, h.sound.pool.eight, h.sound.pool.fitD⟩, ⟨h.sound.good.prev, h.sound.good.short⟩, h.sound.seats, h.sound.disk, h.sound.recs⟩, fun t ht => ?_, hh.len, ?_, hh.holds, ?_⟩
 ·rcases List.mem_append.1 ht with h1 | h1
  ·exact h.lives t h1
  ·rw [List.mem_singleton.1 h1]; exact ⟨0, rfl, Nat.zero_le _⟩
 ·simp only [beginV, List.length_append, List.length_singleton]; omega
 ·obtain ⟨m, h1, h2⟩ := h.next
  exact ⟨m + 1, by simp only [beginV, h1]; omega, by omega⟩
def newV : EngV := ⟨List.replicate 8 (0, [noS, noS, noS, noS]), [], 0, ⟨[], 0⟩, [], [], 1, false⟩
theorem drawE_new : DrawE 0 newV := by
 have hd : ∀ p ∈ newV.disk, p = (0, [noS, noS, noS, noS]) := fun p hp => List.eq_of_mem_replicate hp
 have hno : ∀ x ∈ [noS, noS, noS, noS], x = noS := fun x hx => by simpa using hx
 have n1 : ∀ s ∈ newV.seats, False := fun s hs => by simp [newV] at hs
 have n2 : ∀ r ∈ newV.log.recs, False := fun s hs => by simp [newV] at hs
 have n3 : ∀ t ∈ newV.txs, False := fun s hs => by simp [newV] at hs
 refine ⟨⟨⟨Nat.zero_le _, ⟨0, rfl, by omega⟩, (fun s hs => (n1 s hs).elim), (fun s hs => (n1 s hs).elim), rfl, (fun p hp x hx => ?_)⟩, ⟨(fun i hi => absurd hi (Nat.not_lt_zero _)), (fun r hr => (n2 r hr).elim)⟩, (fun s hs => (n1 s hs).elim), (fun p hp x hx => ?_), (fun r hr => (n2 r hr).elim)⟩, (fun t ht => (n3 t ht).elim), (by show 0 + 3 ≤ 4; omega), Nat.zero_le _, Nat.zero_le _, ⟨1, rfl, by omega⟩⟩
 ·rw [hd p hp] at hx; rw [hno x hx]; exact ⟨Nat.zero_le _, Nat.zero_le _⟩
 ·rw [hd p hp] at hx; rw [hno x hx]; exact smallNo
end Go.Proofs.YtoboickdkednkaaGreatDoor
namespace Go.Proofs.YtoboickdkednkaaGreatDoor
open Go.RowKit
attribute [local go_sem ↓] Go.wp_at_zero Go.wp_at_succ
theorem CurAt.touch {w w' : World} {B : Nat} {zs : List Int} {bl : List Nat} (h : CurAt w B zs) (ht : Touch bl w w') (hb : ∀ k ∈ bl, B < k) : CurAt w' B zs := by
 have hlt := h.lt
 obtain ⟨a, c, i, x, h1, h2, h3, h4⟩ := h
 refine ⟨a, c, i, x, (ht.block B hlt (fun hk => by have := hb B hk; omega)).trans h1, h2, ⟨h3.1, fun hne => ?_⟩, h4⟩
 obtain ⟨b, off, ha, hc⟩ := h3.2 hne
 have hbB := h4 hne b off ha
 refine ⟨b, off, ha, fun j hj => ?_⟩
 have := hc j hj
 simp only [World.cell?, ht.block b (by omega) (fun hk => by have := hb b hk; omega)] at this ⊢
 exact this
theorem touch_cur {w w' : World} {B : Nat} (h : w.grownBy w' (some B)) : Touch [B] w w' := Touch.of_grown h (fun k hk => by cases hk; simp)
structure SomeStep (B E : Nat) (zs : List Int) (e : EngA) (w : World) (e' : EngA) (w' : World) : Prop where
 cur : CurAt w' B zs
 at' : EngAt w' E e'
 low : B < E ∧ ∀ k ∈ e'.blocks, B < k
 touch : Touch (B :: E :: e.blocks) w w'
 fresh : ∀ k ∈ e'.blocks, k ∈ e.blocks ∨ w.heap.size ≤ k
theorem SomeStep.refl {B E : Nat} {zs : List Int} {e : EngA} {w : World} (hc : CurAt w B zs) (h : EngAt w E e) (hl : B < E ∧ ∀ k ∈ e.blocks, B < k) : SomeStep B E zs e w e w := ⟨hc, h, hl, Touch.refl _ _, fun _ hk => .inl hk⟩
theorem SomeStep.drew {B E : Nat} {zs : List Int} {e e' : EngA} {w w' w'' : World} (s : SomeStep B E zs e w e' w') (hc : CurAt w'' B zs) (ht : Touch [B] w' w'') : SomeStep B E zs e w e' w'' :=
 ⟨hc, s.at'.touch ht (by simp; have := s.low.1; omega) (fun k hk hm => by have := s.low.2 k hk; have := List.mem_singleton.1 hm; omega), s.low, s.touch.trans (ht.mono (by simp)), s.fresh⟩
theorem SomeStep.below {B E : Nat} {zs : List Int} {e e' : EngA} {w w' w'' : World} (s : SomeStep B E zs e w e' w') (hb : Below w'.heap.size w' w'') : SomeStep B E zs e w e' w'' :=
 ⟨s.cur.below hb, s.at'.below hb, s.low, s.touch.trans (Touch.of_below hb), s.fresh⟩
theorem SomeStep.step {B E : Nat} {zs : List Int} {e e' e'' : EngA} {w w' w'' : World} (s : SomeStep B E zs e w e' w') (t : EngStep E e' w' e'' w'') : SomeStep B E zs e w e'' w'' := by
 have hB := s.cur.lt
 refine ⟨s.cur.touch t.touch (fun k hk => (List.mem_cons.1 hk).elim (fun h => by rw [h]; exact s.low.1) (s.low.2 k)), t.at', ⟨s.low.1, fun k hk => (t.fresh k hk).elim (s.low.2 k) (fun h => by omega)⟩, ⟨t.touch.os.trans s.touch.os, t.touch.tape.trans s.touch.tape, t.touch.output.trans s.touch.output, Nat.le_trans s.touch.size t.size, fun k hk hn => ?_⟩, fun k hk => ?_⟩
 ·refine (t.touch.block k (Nat.lt_of_lt_of_le hk s.touch.size) (fun h => ?_)).trans (s.touch.block k hk hn)
  rcases List.mem_cons.1 h with h | h
  ·exact hn (by simp [h])
  ·rcases s.fresh k h with h | h
   ·exact hn (List.mem_cons_of_mem _ (List.mem_cons_of_mem _ h))
   ·omega
 ·rcases t.fresh k hk with h | h
  ·exact s.fresh k h
  ·exact .inr (Nat.le_trans s.touch.size h)
theorem EngAt.nextSet {w : World} {E : Nat} {e : EngA} (h : EngAt w E e) (n : Int) : ∃ W, Hid (w.setCell ⟨E, 142, none⟩ (.int .i64 n) = W) ∧ EngStep E e w (e.withNext n) W := by
 obtain ⟨W, hW, b, ht, hs⟩ := h.tailSet (e' := e.withNext n) 6 (.int .i64 n) rfl rfl
 have hE : ∀ k ∈ e.blocks, k ∉ [E] := fun k hk hm => h.off (by rw [← List.mem_singleton.1 hm]; exact hk)
 have ho := h.own.touch ht hE
 have ho' := ho.widen (Nat.le_refl 0) ht.size (Nat.le_refl _)
 exact ⟨W, hW, ⟨b, ⟨h.shape.eight, h.shape.four⟩, ⟨ho'.disk, ho'.pool, ho'.log, ho'.txs, ho'.holds, ho'.apart⟩, h.off⟩, ht.mono (by simp), fun k hk => .inl hk⟩
theorem EngAt.livesStep {E : Nat} {e1 : EngA} {w1 wa w2 : World} {ys : List LiveV} {a' : Option Addr} {c' : Nat} (s : EngAt w1 E e1) (hA : Below w1.heap.size w1 wa) (ho : OwnL w2 0 w2.heap.size a' c' ys) (hg : wa.grownBy w2 (Value.slice e1.aT e1.txs.length e1.cT).ownBlock)
  (hf : ∀ k, (Value.slice a' ys.length c').ownBlock = some k → (Value.slice e1.aT e1.txs.length e1.cT).ownBlock = some k ∨ k = wa.heap.size) :
  Box w2 E e1.cells TE ∧ ∃ W, Hid (w2.setCell ⟨E, 140, none⟩ (.slice a' ys.length c') = W) ∧ EngStep E e1 w1 (e1.withTxs ys a' c') W := by
 have a1 := s.below hA
 have t2 : Touch (rowOf e1.aT e1.txs.length e1.cT) wa w2 := Touch.of_grown hg (fun k hk => Option.mem_toList.2 hk)
 have hE : E ∉ rowOf e1.aT e1.txs.length e1.cT := fun h => s.off (EngA.mem_txs h)
 have bx := a1.box.touch t2 hE
 obtain ⟨W, hW, b, hw, hs⟩ := box_set bx (136 + 4) (.slice a' ys.length c')
 rw [EngA.cells_set a1.shape] at b
 have tW : Touch [E] w2 W := ⟨hw.os, hw.tape, hw.output, hw.size, fun k hk hn => hw.block k hk (fun hh => hn (by simp; omega))⟩
 have hEn : E ∉ rowOf a' ys.length c' := fun h => (hf E (Option.mem_toList.1 h)).elim (fun h1 => hE (Option.mem_toList.2 h1)) (fun h1 => by have := a1.box.lt; omega)
 have oW : OwnL W 0 W.heap.size a' c' ys := (ho.touch tW (fun k hk hk' => hEn (by rw [← List.mem_singleton.1 hk']; exact Option.mem_toList.2 hk))).widen (Nat.le_refl _) (Nat.le_of_eq hs.symm) (Nat.le_refl _)
 have st : EngStep E e1 wa (e1.withTxs ys a' c') W := a1.lives ys a' c' b oW ((t2.mono (fun k hk => List.mem_cons_of_mem _ hk)).trans (tW.mono (by simp))) (fun k hk => (hf k (Option.mem_toList.1 hk)).imp (fun h => Option.mem_toList.2 h) (fun h => by omega))
 exact ⟨bx, W, hW, EngStep.after hA st⟩
theorem draw_small {i : Nat} {e : EngA} (h : DrawE i e.v) (hi : i ≤ 20) : e.log.recs.length ≤ 4194304 ∧ e.txs.length ≤ 4 ∧ e.holds.length ≤ 20 := by
 have h1 := h.len
 have h2 : 2 ^ (i + 2) ≤ 2 ^ 22 := Nat.pow_le_pow_right (by omega) (by omega)
 have h3 : e.v.log.recs.length = e.log.recs.length := by simp [EngA.v, LogA.v]
 have h4 := h.holds
 have h5 : e.holds.length ≤ i := h4
 exact ⟨by omega, h.txs, by omega⟩
theorem readsI_list {w : World} {g : Nat} {t : TypeId} (ns : List Int) (b : Box w g (ns.map (Value.int .i64)) t) : ReadsI w (some ⟨g, 0, none⟩) ns := fun _ => ⟨g, 0, rfl, fun i hi => by
 rw [Nat.zero_add]
 refine b.cell i _ ?_
 simp [List.getD, hi]⟩
theorem oid_lit (y j : Nat) (hy : y < 31) (hj : j < [1, 2, 3, 5, 8, 12, 31, 1 + (y : Int)].length) : ∃ o : Nat, [1, 2, 3, 5, 8, 12, 31, 1 + (y : Int)].getD j 0 = (o : Int) ∧ o < 32 := by
 have hj8 : j < 8 := hj
 match j, hj8 with
 | 0, _ => exact ⟨1, rfl, by omega⟩
 | 1, _ => exact ⟨2, rfl, by omega⟩
 | 2, _ => exact ⟨3, rfl, by omega⟩
 | 3, _ => exact ⟨5, rfl, by omega⟩
 | 4, _ => exact ⟨8, rfl, by omega⟩
 | 5, _ => exact ⟨12, rfl, by omega⟩
 | 6, _ => exact ⟨31, rfl, by omega⟩
 | 7, _ => exact ⟨1 + y, by simp, by omega⟩
theorem liveFrom_mem (tx : Int) (ls : List LiveV) (k : Nat) (h : ∃ t ∈ ls, t.tx = tx) : 0 ≤ liveFrom tx ls k := by
 induction ls generalizing k with
 | nil => obtain ⟨t, ht, _⟩ := h; cases ht
 | cons s r ih =>
  rw [liveFrom]
  by_cases hq : s.tx = tx
  ·rw [if_pos hq]; omega
  ·rw [if_neg hq]
   refine ih _ ?_
   obtain ⟨x, hx, he⟩ := h
   rcases List.mem_cons.1 hx with rfl | hx
   ·exact absurd he hq
   ·exact ⟨x, hx, he⟩
theorem live_in (ls : List LiveV) (k : Nat) (hk : k < ls.length) (tx : Int) (h : (ls.getD k zeroL).tx = tx) : 0 ≤ liveOf ls tx :=
 liveFrom_mem tx ls 0 ⟨ls.getD k zeroL, by simp only [List.getD, List.getElem?_eq_getElem hk, Option.getD_some]; exact List.getElem_mem hk, h⟩
def SomeAns (i B E : Nat) (zs : List Int) (e : EngA) (w : World) (r : Ending) (w' : World) : Prop := (∃ v, r = .returned v) ∧ ∃ e', DrawE (i + 1) e'.v ∧ SomeStep B E zs e w e' w'
theorem l7Some_any (i B E : Nat) (zs : List Int) (e : EngA) (w : World) (hc : CurAt w B zs) (hl : zs.length ≤ 70368744177664) (h : EngAt w E e) (hlow : B < E ∧ ∀ k ∈ e.blocks, B < k) (hd : DrawE i e.v) (hi : i ≤ 20) :
  Calls Tryz.prog 108 #[.pointer (some ⟨B, 0, none⟩), .pointer (some ⟨E, 0, none⟩)] w fun r w' => SomeAns i B E zs e w r w' := by
 obtain ⟨hsm1, hsm2, hsm3⟩ := draw_small hd hi
 have T0 := SomeStep.refl hc h hlow
 have x0 : w.cell? ⟨E, 140, none⟩ = some (.slice e.aT e.txs.length e.cT) := EngA.cell_at h.shape h.box 4 _ rfl
 go_enter Tryz.func108, Tryz.ntmps108
 by_cases h0 : e.txs.length = 0
 ·have h0b : ¬ (e.txs.length : Int) > 0 := by omega
  have C2 := l1Below_any B zs 12 w hc hl (by omega)
  have NOA : Hid (¬ e.txs.length < 4 → False) := fun hh => hh (by omega)
  clear h0
  go_wp2_with fail
  refine C2.mono ?_
  clear C2 x0
  rintro r w2 ⟨x, rfl, hx12, hc2, hg2⟩
  have hx12' : x < 12 := by have := hx12 (by omega); omega
  have T2 := T0.drew hc2 (touch_cur hg2)
  clear hx12 hg2 hc2 h0b
  rcases (by omega : x = 0 ∨ x = 1 ∨ x = 2 ∨ x = 3 ∨ x = 4 ∨ x = 5 ∨ x = 6 ∨ 7 ≤ x) with hx | hx | hx | hx | hx | hx | hx | hx
  ·subst hx
   have x2 : w2.cell? ⟨E, 140, none⟩ = some (.slice e.aT e.txs.length e.cT) := EngA.cell_at T2.at'.shape T2.at'.box 4 _ rfl
   by_cases h4 : e.txs.length < 4
   ·have h4b : (e.txs.length : Int) < 4 := by omega
    have ND : Below w2.heap.size w2 w2.drew := (Below.refl _ _).drew
    go_upto_region 11 with fail
    clear x2
    have aD := T2.at'.below ND
    have y0 : w2.drew.cell? ⟨E, 140, none⟩ = some (.slice e.aT e.txs.length e.cT) := EngA.cell_at aD.shape aD.box 4 _ rfl
    have SD : w2.drew.cell? ⟨E, 142, none⟩ = some (.int .i64 e.next) := EngA.cell_at aD.shape aD.box 6 _ rfl
    refine wp_region_held_drew (S := fun w' => w'.cell? ⟨E, 142, none⟩ = some (.int .i64 e.next) ∧ True) (by kernel_rfl) ?_ (fun hHeld => ?_)
    ·exact ⟨SD, trivial⟩
    refine tk 0 (v := .pointer (some ⟨E, 0, none⟩)) rfl (Or.inl ⟨by rfl, ?_⟩) hHeld ?_
    ·intro w' hSw
     go_simp <;> rfl
    try simp only [Act.put, zA, zB, zD, zE, zF]
    refine tk 1 (v := .pointer (some ⟨E, 0, none⟩)) rfl (Or.inl ⟨by rfl, ?_⟩) hHeld ?_
    ·intro w' hSw
     go_simp <;> rfl
    try simp only [Act.put, zA, zB, zC, zD, zE, zF]
    refine tk 2 (v := .pointer (some ⟨E, 0, none⟩)) rfl (Or.inl ⟨by rfl, ?_⟩) hHeld ?_
    ·intro w' hSw
     go_simp <;> rfl
    try simp only [Act.put, zA, zB, zC, zD, zE, zF]
    refine tk 3 (v := .pointer (some ⟨E, 140, none⟩)) rfl (Or.inl ⟨by rfl, ?_⟩) hHeld ?_
    ·intro w' hSw
     go_simp <;> rfl
    try simp only [Act.put, zA, zB, zC, zD, zE, zF]
    refine tk 5 (v := .pointer (some ⟨E, 0, none⟩)) rfl (Or.inl ⟨by rfl, ?_⟩) hHeld ?_
    ·intro w' hSw
     go_simp <;> rfl
    try simp only [Act.put, zA, zB, zC, zD, zE, zF]
    refine tk 6 (v := .pointer (some ⟨E, 0, none⟩)) rfl (Or.inl ⟨by rfl, ?_⟩) hHeld ?_
    ·intro w' hSw
     go_simp <;> rfl
    try simp only [Act.put, zA, zB, zC, zD, zE, zF]
    refine tk 7 (v := .pointer (some ⟨E, 142, none⟩)) rfl (Or.inl ⟨by rfl, ?_⟩) hHeld ?_
    ·intro w' hSw
     go_simp <;> rfl
    try simp only [Act.put, zA, zB, zC, zD, zE, zF]
    refine tk 8 (v := .int .i64 e.next) rfl (Or.inl ⟨by rfl, ?_⟩) hHeld ?_
    ·intro w' hSw
     have hx := hSw.1
     go_simp <;> rfl
    try simp only [Act.put, zA, zB, zC, zD, zE, zF]
    refine tk 9 (v := .agg #[.int .i64 e.next, .int .i64 0, .bool false]) rfl (Or.inl ⟨by rfl, ?_⟩) hHeld ?_
    ·intro w' hSw
     go_simp <;> rfl
    try simp only [Act.put, zA, zB, zC, zD, zE, zF]
    refine wpAnyH_ready (rs := [4, 10]) (by kernel_rfl) (by simp) ?_
    refine AllReadyH.cons rfl (fun K hK => ?_) (AllReadyH.cons rfl (fun K hK => ?_) AllReadyH.nil)
    ·go_simp
     refine hK.out _ _ (hHeld) (fun hHeld => ?_)
     clear hK K
     try simp only [Act.put, zA, zB, zC, zD, zE, zF]
     refine wpAnyH_ready (rs := [10]) (by kernel_rfl) (by simp) ?_
     refine AllReadyH.cons rfl (fun K hK => ?_) AllReadyH.nil
     go_simp
     obtain ⟨V5, hV5, b5', hb5, hs5⟩ := boxes1 w2 [.int .i64 e.next, .int .i64 0, .bool false] 112
     have hV5' : Hid (w2.alloc (.cells #[.int .i64 e.next, .int .i64 0, .bool false] 112) = V5) := hV5.out
     rw [hV5'.out]
     obtain ⟨W5, hW5⟩ : ∃ W5, Hid (V5.drew = W5) := ⟨_, rfl⟩
     rw [hW5.out]
     have ND5 : Below w2.heap.size w2 W5 := by rw [← hW5.out]; exact hb5.drew
     have r5 : ReadsL W5 (some ⟨w2.heap.size, 0, none⟩) [⟨e.next, 0, false⟩] := by
      rw [← hW5.out]
      have h1 := (readsL_one w2 ⟨e.next, 0, false⟩ 112).below ((Below.refl _ _).drew)
      rw [hV5'.out] at h1
      exact h1
     have a5 := T2.at'.below ND5
     have oT5 := T2.at'.own.txs.below ND5
     clear hs5 hb5 hW5 hV5 hV5' b5'
     refine hK.out _ _ (⟨EngA.cell_at a5.shape a5.box 6 _ rfl, trivial⟩) (fun hHeld => ?_)
     clear hK K
     try simp only [Act.put, zA, zB, zC, zD, zE, zF]
     clear y0 aD SD
     refine wpAnyH_ready (rs := [11]) (by kernel_rfl) (by simp) ?_
     refine AllReadyH.cons rfl (fun K hK => ?_) AllReadyH.nil
     refine step_append_lives rfl (.tmp 70) (.tmp 76) rfl 0 w2.heap.size e.aT e.cT e.txs rfl oT5 _ _ [⟨e.next, 0, false⟩] rfl r5 (fun h => by cases h) (by simp; omega) (Nat.zero_le _) ?_
     intro a9 c9 y9 w9 hy9 o9 g9 f9
     obtain ⟨bx9, W10, hW10, st10⟩ := T2.at'.livesStep ND5 o9 g9 f9
     have S9 : w9.cell? ⟨E, 142, none⟩ = some (.int .i64 e.next) := EngA.cell_at h.shape bx9 6 _ rfl
     have S10 : W10.cell? ⟨E, 142, none⟩ = some (.int .i64 e.next) := EngA.cell_at st10.at'.shape st10.at'.box 6 _ rfl
     have m0 : w9.cell? ⟨E, 140, none⟩ = some (.slice e.aT e.txs.length e.cT) := EngA.cell_at h.shape bx9 4 _ rfl
     have mf0 := bx9.frozen 140
     refine hK.out _ _ (⟨S9, trivial⟩) (fun hHeld => ?_)
     clear hK K g9 f9
     try simp only [Act.put, zA, zB, zC, zD, zE, zF]
     refine tk 12 (v := .pointer (some ⟨E, 0, none⟩)) rfl (Or.inl ⟨by rfl, ?_⟩) hHeld ?_
     ·intro w' hSw
      go_simp <;> rfl
     try simp only [Act.put, zA, zB, zC, zD, zE, zF]
     refine tk 13 (v := .pointer (some ⟨E, 140, none⟩)) rfl (Or.inl ⟨by rfl, ?_⟩) hHeld ?_
     ·intro w' hSw
      go_simp <;> rfl
     try simp only [Act.put, zA, zB, zC, zD, zE, zF]
     refine wpAnyH_ready (rs := [14]) (by kernel_rfl) (by simp) ?_
     refine AllReadyH.cons rfl (fun K hK => ?_) AllReadyH.nil
     go_simp
     rw [hW10.out]
     refine hK.out _ _ (⟨S10, trivial⟩) (fun hHeld => ?_)
     clear hK K
     try simp only [Act.put, zA, zB, zC]
     refine wpAnyH_done (by kernel_rfl) ?_ _
     clear m0 mf0 hW10 hHeld S9 bx9
     have T10 := T2.step st10
     obtain ⟨W11, hW11, st11⟩ := T10.at'.nextSet (e.next + 1)
     have T11 := T10.step st11
     have f10 := T10.at'.box.frozen 142
     have D11 : DrawE (i + 1) ((e.withTxs y9 a9 c9).withNext (e.next + 1)).v := by
      have h1 := drawE_begin hd h4
      have h2 : ((e.withTxs y9 a9 c9).withNext (e.next + 1)).v = beginV e.v := by simp only [EngA.v, EngA.withNext, EngA.withTxs, beginV, hy9.out]
      rw [h2]; exact h1
     obtain ⟨mx, hmx, hmxl⟩ := hd.next
     have hn0 : 0 ≤ e.next := by have : e.next = (mx : Int) := hmx; omega
     have hn1 : e.next ≤ 21 := by have : e.next = (mx : Int) := hmx; omega
     clear hmx T10 st10 st11
     go_wp2_with fail
     rw [hW11.out]
     go_end0
     exact ⟨⟨_, rfl⟩, _, D11, T11⟩
    ·skip
     go_simp
     obtain ⟨V5, hV5, b5', hb5, hs5⟩ := boxes1 w2 [.int .i64 e.next, .int .i64 0, .bool false] 112
     have hV5' : Hid (w2.alloc (.cells #[.int .i64 e.next, .int .i64 0, .bool false] 112) = V5) := hV5.out
     rw [hV5'.out]
     obtain ⟨W5, hW5⟩ : ∃ W5, Hid (V5.drew = W5) := ⟨_, rfl⟩
     rw [hW5.out]
     have ND5 : Below w2.heap.size w2 W5 := by rw [← hW5.out]; exact hb5.drew
     have r5 : ReadsL W5 (some ⟨w2.heap.size, 0, none⟩) [⟨e.next, 0, false⟩] := by
      rw [← hW5.out]
      have h1 := (readsL_one w2 ⟨e.next, 0, false⟩ 112).below ((Below.refl _ _).drew)
      rw [hV5'.out] at h1
      exact h1
     have a5 := T2.at'.below ND5
     have oT5 := T2.at'.own.txs.below ND5
     clear hs5 hb5 hW5 hV5 hV5' b5'
     refine hK.out _ _ (⟨EngA.cell_at a5.shape a5.box 6 _ rfl, trivial⟩) (fun hHeld => ?_)
     clear hK K
     try simp only [Act.put, zA, zB, zC, zD, zE, zF]
     clear y0 aD SD
     have y0 : W5.cell? ⟨E, 140, none⟩ = some (.slice e.aT e.txs.length e.cT) := EngA.cell_at a5.shape a5.box 4 _ rfl
     refine wpAnyH_ready (rs := [4]) (by kernel_rfl) (by simp) ?_
     refine AllReadyH.cons rfl (fun K hK => ?_) AllReadyH.nil
     go_simp
     refine hK.out _ _ (hHeld) (fun hHeld => ?_)
     clear hK K
     try simp only [Act.put, zA, zB, zC, zD, zE, zF]
     clear y0
     refine wpAnyH_ready (rs := [11]) (by kernel_rfl) (by simp) ?_
     refine AllReadyH.cons rfl (fun K hK => ?_) AllReadyH.nil
     refine step_append_lives rfl (.tmp 70) (.tmp 76) rfl 0 w2.heap.size e.aT e.cT e.txs rfl oT5 _ _ [⟨e.next, 0, false⟩] rfl r5 (fun h => by cases h) (by simp; omega) (Nat.zero_le _) ?_
     intro a9 c9 y9 w9 hy9 o9 g9 f9
     obtain ⟨bx9, W10, hW10, st10⟩ := T2.at'.livesStep ND5 o9 g9 f9
     have S9 : w9.cell? ⟨E, 142, none⟩ = some (.int .i64 e.next) := EngA.cell_at h.shape bx9 6 _ rfl
     have S10 : W10.cell? ⟨E, 142, none⟩ = some (.int .i64 e.next) := EngA.cell_at st10.at'.shape st10.at'.box 6 _ rfl
     have m0 : w9.cell? ⟨E, 140, none⟩ = some (.slice e.aT e.txs.length e.cT) := EngA.cell_at h.shape bx9 4 _ rfl
     have mf0 := bx9.frozen 140
     refine hK.out _ _ (⟨S9, trivial⟩) (fun hHeld => ?_)
     clear hK K g9 f9
     try simp only [Act.put, zA, zB, zC, zD, zE, zF]
     refine tk 12 (v := .pointer (some ⟨E, 0, none⟩)) rfl (Or.inl ⟨by rfl, ?_⟩) hHeld ?_
     ·intro w' hSw
      go_simp <;> rfl
     try simp only [Act.put, zA, zB, zC, zD, zE, zF]
     refine tk 13 (v := .pointer (some ⟨E, 140, none⟩)) rfl (Or.inl ⟨by rfl, ?_⟩) hHeld ?_
     ·intro w' hSw
      go_simp <;> rfl
     try simp only [Act.put, zA, zB, zC, zD, zE, zF]
     refine wpAnyH_ready (rs := [14]) (by kernel_rfl) (by simp) ?_
     refine AllReadyH.cons rfl (fun K hK => ?_) AllReadyH.nil
     go_simp
     rw [hW10.out]
     refine hK.out _ _ (⟨S10, trivial⟩) (fun hHeld => ?_)
     clear hK K
     try simp only [Act.put, zA, zB, zC]
     refine wpAnyH_done (by kernel_rfl) ?_ _
     clear m0 mf0 hW10 hHeld S9 bx9
     have T10 := T2.step st10
     obtain ⟨W11, hW11, st11⟩ := T10.at'.nextSet (e.next + 1)
     have T11 := T10.step st11
     have f10 := T10.at'.box.frozen 142
     have D11 : DrawE (i + 1) ((e.withTxs y9 a9 c9).withNext (e.next + 1)).v := by
      have h1 := drawE_begin hd h4
      have h2 : ((e.withTxs y9 a9 c9).withNext (e.next + 1)).v = beginV e.v := by simp only [EngA.v, EngA.withNext, EngA.withTxs, beginV, hy9.out]
      rw [h2]; exact h1
     obtain ⟨mx, hmx, hmxl⟩ := hd.next
     have hn0 : 0 ≤ e.next := by have : e.next = (mx : Int) := hmx; omega
     have hn1 : e.next ≤ 21 := by have : e.next = (mx : Int) := hmx; omega
     clear hmx T10 st10 st11
     go_wp2_with fail
     rw [hW11.out]
     go_end0
     exact ⟨⟨_, rfl⟩, _, D11, T11⟩
   ·first
    | exact (NOA.out h4).elim
    | (have h4b : ¬ (e.txs.length : Int) < 4 := (by omega); go_wp2; go_end0; exact ⟨⟨_, rfl⟩, e, hd.later, T2⟩)
  ·subst hx
   have x2 : w2.cell? ⟨E, 140, none⟩ = some (.slice e.aT e.txs.length e.cT) := EngA.cell_at T2.at'.shape T2.at'.box 4 _ rfl
   by_cases h4 : e.txs.length < 4
   ·have h4b : (e.txs.length : Int) < 4 := by omega
    have ND : Below w2.heap.size w2 w2.drew := (Below.refl _ _).drew
    go_upto_region 11 with fail
    clear x2
    have aD := T2.at'.below ND
    have y0 : w2.drew.cell? ⟨E, 140, none⟩ = some (.slice e.aT e.txs.length e.cT) := EngA.cell_at aD.shape aD.box 4 _ rfl
    have SD : w2.drew.cell? ⟨E, 142, none⟩ = some (.int .i64 e.next) := EngA.cell_at aD.shape aD.box 6 _ rfl
    refine wp_region_held_drew (S := fun w' => w'.cell? ⟨E, 142, none⟩ = some (.int .i64 e.next) ∧ True) (by kernel_rfl) ?_ (fun hHeld => ?_)
    ·exact ⟨SD, trivial⟩
    refine tk 0 (v := .pointer (some ⟨E, 0, none⟩)) rfl (Or.inl ⟨by rfl, ?_⟩) hHeld ?_
    ·intro w' hSw
     go_simp <;> rfl
    try simp only [Act.put, zA, zB, zD, zE, zF]
    refine tk 1 (v := .pointer (some ⟨E, 0, none⟩)) rfl (Or.inl ⟨by rfl, ?_⟩) hHeld ?_
    ·intro w' hSw
     go_simp <;> rfl
    try simp only [Act.put, zA, zB, zC, zD, zE, zF]
    refine tk 2 (v := .pointer (some ⟨E, 0, none⟩)) rfl (Or.inl ⟨by rfl, ?_⟩) hHeld ?_
    ·intro w' hSw
     go_simp <;> rfl
    try simp only [Act.put, zA, zB, zC, zD, zE, zF]
    refine tk 3 (v := .pointer (some ⟨E, 140, none⟩)) rfl (Or.inl ⟨by rfl, ?_⟩) hHeld ?_
    ·intro w' hSw
     go_simp <;> rfl
    try simp only [Act.put, zA, zB, zC, zD, zE, zF]
    refine tk 5 (v := .pointer (some ⟨E, 0, none⟩)) rfl (Or.inl ⟨by rfl, ?_⟩) hHeld ?_
    ·intro w' hSw
     go_simp <;> rfl
    try simp only [Act.put, zA, zB, zC, zD, zE, zF]
    refine tk 6 (v := .pointer (some ⟨E, 0, none⟩)) rfl (Or.inl ⟨by rfl, ?_⟩) hHeld ?_
    ·intro w' hSw
     go_simp <;> rfl
    try simp only [Act.put, zA, zB, zC, zD, zE, zF]
    refine tk 7 (v := .pointer (some ⟨E, 142, none⟩)) rfl (Or.inl ⟨by rfl, ?_⟩) hHeld ?_
    ·intro w' hSw
     go_simp <;> rfl
    try simp only [Act.put, zA, zB, zC, zD, zE, zF]
    refine tk 8 (v := .int .i64 e.next) rfl (Or.inl ⟨by rfl, ?_⟩) hHeld ?_
    ·intro w' hSw
     have hx := hSw.1
     go_simp <;> rfl
    try simp only [Act.put, zA, zB, zC, zD, zE, zF]
    refine tk 9 (v := .agg #[.int .i64 e.next, .int .i64 0, .bool false]) rfl (Or.inl ⟨by rfl, ?_⟩) hHeld ?_
    ·intro w' hSw
     go_simp <;> rfl
    try simp only [Act.put, zA, zB, zC, zD, zE, zF]
    refine wpAnyH_ready (rs := [4, 10]) (by kernel_rfl) (by simp) ?_
    refine AllReadyH.cons rfl (fun K hK => ?_) (AllReadyH.cons rfl (fun K hK => ?_) AllReadyH.nil)
    ·go_simp
     refine hK.out _ _ (hHeld) (fun hHeld => ?_)
     clear hK K
     try simp only [Act.put, zA, zB, zC, zD, zE, zF]
     refine wpAnyH_ready (rs := [10]) (by kernel_rfl) (by simp) ?_
     refine AllReadyH.cons rfl (fun K hK => ?_) AllReadyH.nil
     go_simp
     obtain ⟨V5, hV5, b5', hb5, hs5⟩ := boxes1 w2 [.int .i64 e.next, .int .i64 0, .bool false] 112
     have hV5' : Hid (w2.alloc (.cells #[.int .i64 e.next, .int .i64 0, .bool false] 112) = V5) := hV5.out
     rw [hV5'.out]
     obtain ⟨W5, hW5⟩ : ∃ W5, Hid (V5.drew = W5) := ⟨_, rfl⟩
     rw [hW5.out]
     have ND5 : Below w2.heap.size w2 W5 := by rw [← hW5.out]; exact hb5.drew
     have r5 : ReadsL W5 (some ⟨w2.heap.size, 0, none⟩) [⟨e.next, 0, false⟩] := by
      rw [← hW5.out]
      have h1 := (readsL_one w2 ⟨e.next, 0, false⟩ 112).below ((Below.refl _ _).drew)
      rw [hV5'.out] at h1
      exact h1
     have a5 := T2.at'.below ND5
     have oT5 := T2.at'.own.txs.below ND5
     clear hs5 hb5 hW5 hV5 hV5' b5'
     refine hK.out _ _ (⟨EngA.cell_at a5.shape a5.box 6 _ rfl, trivial⟩) (fun hHeld => ?_)
     clear hK K
     try simp only [Act.put, zA, zB, zC, zD, zE, zF]
     clear y0 aD SD
     refine wpAnyH_ready (rs := [11]) (by kernel_rfl) (by simp) ?_
     refine AllReadyH.cons rfl (fun K hK => ?_) AllReadyH.nil
     refine step_append_lives rfl (.tmp 70) (.tmp 76) rfl 0 w2.heap.size e.aT e.cT e.txs rfl oT5 _ _ [⟨e.next, 0, false⟩] rfl r5 (fun h => by cases h) (by simp; omega) (Nat.zero_le _) ?_
     intro a9 c9 y9 w9 hy9 o9 g9 f9
     obtain ⟨bx9, W10, hW10, st10⟩ := T2.at'.livesStep ND5 o9 g9 f9
     have S9 : w9.cell? ⟨E, 142, none⟩ = some (.int .i64 e.next) := EngA.cell_at h.shape bx9 6 _ rfl
     have S10 : W10.cell? ⟨E, 142, none⟩ = some (.int .i64 e.next) := EngA.cell_at st10.at'.shape st10.at'.box 6 _ rfl
     have m0 : w9.cell? ⟨E, 140, none⟩ = some (.slice e.aT e.txs.length e.cT) := EngA.cell_at h.shape bx9 4 _ rfl
     have mf0 := bx9.frozen 140
     refine hK.out _ _ (⟨S9, trivial⟩) (fun hHeld => ?_)
     clear hK K g9 f9
     try simp only [Act.put, zA, zB, zC, zD, zE, zF]
     refine tk 12 (v := .pointer (some ⟨E, 0, none⟩)) rfl (Or.inl ⟨by rfl, ?_⟩) hHeld ?_
     ·intro w' hSw
      go_simp <;> rfl
     try simp only [Act.put, zA, zB, zC, zD, zE, zF]
     refine tk 13 (v := .pointer (some ⟨E, 140, none⟩)) rfl (Or.inl ⟨by rfl, ?_⟩) hHeld ?_
     ·intro w' hSw
      go_simp <;> rfl
     try simp only [Act.put, zA, zB, zC, zD, zE, zF]
     refine wpAnyH_ready (rs := [14]) (by kernel_rfl) (by simp) ?_
     refine AllReadyH.cons rfl (fun K hK => ?_) AllReadyH.nil
     go_simp
     rw [hW10.out]
     refine hK.out _ _ (⟨S10, trivial⟩) (fun hHeld => ?_)
     clear hK K
     try simp only [Act.put, zA, zB, zC]
     refine wpAnyH_done (by kernel_rfl) ?_ _
     clear m0 mf0 hW10 hHeld S9 bx9
     have T10 := T2.step st10
     obtain ⟨W11, hW11, st11⟩ := T10.at'.nextSet (e.next + 1)
     have T11 := T10.step st11
     have f10 := T10.at'.box.frozen 142
     have D11 : DrawE (i + 1) ((e.withTxs y9 a9 c9).withNext (e.next + 1)).v := by
      have h1 := drawE_begin hd h4
      have h2 : ((e.withTxs y9 a9 c9).withNext (e.next + 1)).v = beginV e.v := by simp only [EngA.v, EngA.withNext, EngA.withTxs, beginV, hy9.out]
      rw [h2]; exact h1
     obtain ⟨mx, hmx, hmxl⟩ := hd.next
     have hn0 : 0 ≤ e.next := by have : e.next = (mx : Int) := hmx; omega
     have hn1 : e.next ≤ 21 := by have : e.next = (mx : Int) := hmx; omega
     clear hmx T10 st10 st11
     go_wp2_with fail
     rw [hW11.out]
     go_end0
     exact ⟨⟨_, rfl⟩, _, D11, T11⟩
    ·skip
     go_simp
     obtain ⟨V5, hV5, b5', hb5, hs5⟩ := boxes1 w2 [.int .i64 e.next, .int .i64 0, .bool false] 112
     have hV5' : Hid (w2.alloc (.cells #[.int .i64 e.next, .int .i64 0, .bool false] 112) = V5) := hV5.out
     rw [hV5'.out]
     obtain ⟨W5, hW5⟩ : ∃ W5, Hid (V5.drew = W5) := ⟨_, rfl⟩
     rw [hW5.out]
     have ND5 : Below w2.heap.size w2 W5 := by rw [← hW5.out]; exact hb5.drew
     have r5 : ReadsL W5 (some ⟨w2.heap.size, 0, none⟩) [⟨e.next, 0, false⟩] := by
      rw [← hW5.out]
      have h1 := (readsL_one w2 ⟨e.next, 0, false⟩ 112).below ((Below.refl _ _).drew)
      rw [hV5'.out] at h1
      exact h1
     have a5 := T2.at'.below ND5
     have oT5 := T2.at'.own.txs.below ND5
     clear hs5 hb5 hW5 hV5 hV5' b5'
     refine hK.out _ _ (⟨EngA.cell_at a5.shape a5.box 6 _ rfl, trivial⟩) (fun hHeld => ?_)
     clear hK K
     try simp only [Act.put, zA, zB, zC, zD, zE, zF]
     clear y0 aD SD
     have y0 : W5.cell? ⟨E, 140, none⟩ = some (.slice e.aT e.txs.length e.cT) := EngA.cell_at a5.shape a5.box 4 _ rfl
     refine wpAnyH_ready (rs := [4]) (by kernel_rfl) (by simp) ?_
     refine AllReadyH.cons rfl (fun K hK => ?_) AllReadyH.nil
     go_simp
     refine hK.out _ _ (hHeld) (fun hHeld => ?_)
     clear hK K
     try simp only [Act.put, zA, zB, zC, zD, zE, zF]
     clear y0
     refine wpAnyH_ready (rs := [11]) (by kernel_rfl) (by simp) ?_
     refine AllReadyH.cons rfl (fun K hK => ?_) AllReadyH.nil
     refine step_append_lives rfl (.tmp 70) (.tmp 76) rfl 0 w2.heap.size e.aT e.cT e.txs rfl oT5 _ _ [⟨e.next, 0, false⟩] rfl r5 (fun h => by cases h) (by simp; omega) (Nat.zero_le _) ?_
     intro a9 c9 y9 w9 hy9 o9 g9 f9
     obtain ⟨bx9, W10, hW10, st10⟩ := T2.at'.livesStep ND5 o9 g9 f9
     have S9 : w9.cell? ⟨E, 142, none⟩ = some (.int .i64 e.next) := EngA.cell_at h.shape bx9 6 _ rfl
     have S10 : W10.cell? ⟨E, 142, none⟩ = some (.int .i64 e.next) := EngA.cell_at st10.at'.shape st10.at'.box 6 _ rfl
     have m0 : w9.cell? ⟨E, 140, none⟩ = some (.slice e.aT e.txs.length e.cT) := EngA.cell_at h.shape bx9 4 _ rfl
     have mf0 := bx9.frozen 140
     refine hK.out _ _ (⟨S9, trivial⟩) (fun hHeld => ?_)
     clear hK K g9 f9
     try simp only [Act.put, zA, zB, zC, zD, zE, zF]
     refine tk 12 (v := .pointer (some ⟨E, 0, none⟩)) rfl (Or.inl ⟨by rfl, ?_⟩) hHeld ?_
     ·intro w' hSw
      go_simp <;> rfl
     try simp only [Act.put, zA, zB, zC, zD, zE, zF]
     refine tk 13 (v := .pointer (some ⟨E, 140, none⟩)) rfl (Or.inl ⟨by rfl, ?_⟩) hHeld ?_
     ·intro w' hSw
      go_simp <;> rfl
     try simp only [Act.put, zA, zB, zC, zD, zE, zF]
     refine wpAnyH_ready (rs := [14]) (by kernel_rfl) (by simp) ?_
     refine AllReadyH.cons rfl (fun K hK => ?_) AllReadyH.nil
     go_simp
     rw [hW10.out]
     refine hK.out _ _ (⟨S10, trivial⟩) (fun hHeld => ?_)
     clear hK K
     try simp only [Act.put, zA, zB, zC]
     refine wpAnyH_done (by kernel_rfl) ?_ _
     clear m0 mf0 hW10 hHeld S9 bx9
     have T10 := T2.step st10
     obtain ⟨W11, hW11, st11⟩ := T10.at'.nextSet (e.next + 1)
     have T11 := T10.step st11
     have f10 := T10.at'.box.frozen 142
     have D11 : DrawE (i + 1) ((e.withTxs y9 a9 c9).withNext (e.next + 1)).v := by
      have h1 := drawE_begin hd h4
      have h2 : ((e.withTxs y9 a9 c9).withNext (e.next + 1)).v = beginV e.v := by simp only [EngA.v, EngA.withNext, EngA.withTxs, beginV, hy9.out]
      rw [h2]; exact h1
     obtain ⟨mx, hmx, hmxl⟩ := hd.next
     have hn0 : 0 ≤ e.next := by have : e.next = (mx : Int) := hmx; omega
     have hn1 : e.next ≤ 21 := by have : e.next = (mx : Int) := hmx; omega
     clear hmx T10 st10 st11
     go_wp2_with fail
     rw [hW11.out]
     go_end0
     exact ⟨⟨_, rfl⟩, _, D11, T11⟩
   ·first
    | exact (NOA.out h4).elim
    | (have h4b : ¬ (e.txs.length : Int) < 4 := (by omega); go_wp2; go_end0; exact ⟨⟨_, rfl⟩, e, hd.later, T2⟩)
  ·subst hx
   go_wp2
   go_end0
   exact ⟨⟨_, rfl⟩, e, hd.later, T2⟩
  ·subst hx
   go_wp2
   go_end0
   exact ⟨⟨_, rfl⟩, e, hd.later, T2⟩
  ·subst hx
   have C4 := l1Below_any B zs 8 w2 T2.cur hl (by omega)
   go_wp2_with fail
   refine C4.mono ?_
   clear C4
   rintro r w3 ⟨y, rfl, hy, hc3, hg3⟩
   have T3 := T2.drew hc3 (touch_cur hg3)
   have C5 := l7Flush_any E e y w3 T3.at' hd.sound.pool (by have := hy (by omega); omega)
   go_wp2_with fail
   refine C5.mono ?_
   clear C5
   rintro r w4 ⟨⟨v4, rfl⟩, e4, he4, s4⟩
   have T4 := T3.step s4
   have D4 : DrawE (i + 1) e4.v := by rw [he4.out]; exact drawE_flush hd y
   go_wp2
   go_end0
   exact ⟨⟨_, rfl⟩, e4, D4, T4⟩
  ·subst hx
   have C4 := l1Once_any B zs 2 w2 T2.cur hl (by omega)
   go_wp2_with fail
   refine C4.mono ?_
   clear C4
   rintro r w3 ⟨b, rfl, hc3, hg3⟩
   have T3 := T2.drew hc3 (touch_cur hg3)
   cases b with
   | false =>
    go_wp2
    go_end0
    exact ⟨⟨_, rfl⟩, e, hd.later, T3⟩
   | true =>
    have C5 := l7Check_any E e w3 T3.at' (by omega) (by omega)
    go_wp2_with fail
    refine C5.mono ?_
    clear C5
    rintro r w4 ⟨⟨v4, rfl⟩, e4, he4, s4⟩
    have T4 := T3.step s4
    have D4 : DrawE (i + 1) e4.v := by rw [he4.out]; exact drawE_check hd
    go_wp2
    go_end0
    exact ⟨⟨_, rfl⟩, e4, D4, T4⟩
  ·subst hx
   have C4 := l1Below_any B zs 8 w2 T2.cur hl (by omega)
   go_wp2_with fail
   refine C4.mono ?_
   clear C4
   rintro r w3 ⟨y, rfl, hy, hc3, hg3⟩
   have hy8 : y < 8 := by have := hy (by omega); omega
   have T3 := T2.drew hc3 (touch_cur hg3)
   have C5 := l7Fetch_any E e y w3 T3.at' hd.sound.pool hy8
   go_wp2_with fail
   refine C5.mono ?_
   clear C5
   rintro r w4 ⟨e4, k4, rfl, he4, _, s4⟩
   have T4 := T3.step s4
   have D4 : DrawE (i + 1) e4.v := by have := drawE_fetch hd y hy8; rw [he4.out] at this; exact this
   go_wp2
   go_end0
   exact ⟨⟨_, rfl⟩, e4, D4, T4⟩
  ·have hx0 : ((x : Int) == 0) = false := by simp; omega
   have hx1 : ((x : Int) == 1) = false := by simp; omega
   have hx2 : ((x : Int) == 2) = false := by simp; omega
   have hx3 : ((x : Int) == 3) = false := by simp; omega
   have hx4 : ((x : Int) == 4) = false := by simp; omega
   have hx5 : ((x : Int) == 5) = false := by simp; omega
   have hx6 : ((x : Int) == 6) = false := by simp; omega
   have C4 := l1Below_any B zs 31 w2 T2.cur hl (by omega)
   go_wp2_with fail
   refine C4.mono ?_
   clear C4
   rintro r w3 ⟨y, rfl, hy, hc3, hg3⟩
   have hy31 : y < 31 := by have := hy (by omega); omega
   have T3 := T2.drew hc3 (touch_cur hg3)
   obtain ⟨W4, hW4, b4, hb4, hs4⟩ := boxes1 w3 ([1, 2, 3, 5, 8, 12, 31, 1 + (y : Int)].map (Value.int .i64)) 3
   have hW4' : Hid (w3.alloc (.cells #[.int .i64 1, .int .i64 2, .int .i64 3, .int .i64 5, .int .i64 8, .int .i64 12, .int .i64 31, .int .i64 (1 + (y : Int))] 3) = W4) := hW4.out
   have T4 := T3.below hb4
   have rI := readsI_list [1, 2, 3, 5, 8, 12, 31, 1 + (y : Int)] b4
   have hBl := T3.cur.lt
   have C5 := l1Int_any B zs (some ⟨w3.heap.size, 0, none⟩) 8 [1, 2, 3, 5, 8, 12, 31, 1 + (y : Int)] W4 T4.cur hl rI (fun b off hb => by cases hb; omega) (by simp) (by simp)
   clear hs4 hW4 b4 hb4 rI hg3 hc3 hy
   go_wp2_with fail
   rw [hW4'.out]
   refine C5.mono ?_
   clear C5 hW4'
   rintro r w5 ⟨j, hj, rfl, hc5, hg5⟩
   have T5 := T4.drew hc5 (touch_cur hg5)
   obtain ⟨od, hod, hod32⟩ := oid_lit y j hy31 hj
   rw [hod]
   have a5 := T5.at'
   have r5 : w5.rangeAt E 0 e.cells := Box.range [] e.cells [] (by simpa using a5.box)
   have HIE : Hid ((Tryz.prog.info? 128).map (·.size) = some e.cells.length) := by rw [Hid, EngA.cells_len a5.shape]; exact Tryz.infoEng
   have CH := l7Holder_any e a5.shape od w5 a5.own.holds.reads (by omega)
   clear hod hj hc5 hg5 T4 T3 hy31
   go_wp2_with (first | (guard_target = wpList _ _ _ (Oper.mk (some 37) _ _ _ _ _ :: _) _ _; refine wpList_load_mid rfl 128 (.tmp 36) rfl E 0 rfl e.cells _ r5 Tryz.underlying128 rfl HIE.out ?_) | fail)
   refine CH.mono ?_
   clear CH r5 HIE
   rintro r w6 ⟨rfl, hb6⟩
   have T6 := T5.below hb6
   go_wp2
   go_end0
   exact ⟨⟨_, rfl⟩, e, hd.later, T6⟩
 ·have h0b : (e.txs.length : Int) > 0 := by omega
  obtain ⟨gT, hgT⟩ : ∃ gT, e.aT = some ⟨gT, 0, none⟩ := by
   rcases h.own.txs.1.2 with ⟨_, h1⟩ | ⟨g', cap', cur, hv, _⟩
   ·omega
   ·simp only [Value.slice.injEq] at hv; exact ⟨g', hv.1⟩
  have HSS : Hid (∀ u, EngAt u E e → u.cell? ⟨E, 140, none⟩ = some (.slice (some ⟨gT, 0, none⟩) e.txs.length e.cT) ∧ ∀ k, k < e.txs.length → u.cell? ⟨gT, k * 3, none⟩ = some (.int .i64 (e.txs.getD k zeroL).tx)) := fun u hu => ⟨by rw [← hgT]; exact EngA.cell_at hu.shape hu.box 4 _ rfl, fun k hk => by
   have h1 := hu.own.txs.1
   rw [hgT] at h1
   have h2 := cellsL_at e.txs k 0 hk (by omega)
   rw [Nat.add_zero] at h2
   rw [h1.cellAt (k * 3) (by omega), h2]
   rfl⟩
  clear hgT
  have ND : Below w.heap.size w w.drew := (Below.refl _ _).drew
  have T1 := T0.below ND
  have C1 := l1Below_any B zs (e.txs.length : Int) w.drew T1.cur hl (by omega)
  go_upto_region 2 with fail
  clear x0
  refine wp_region_held_drew (S := fun w' => w'.cell? ⟨E, 140, none⟩ = some (.slice (some ⟨gT, 0, none⟩) e.txs.length e.cT) ∧ ∀ k, k < e.txs.length → w'.cell? ⟨gT, k * 3, none⟩ = some (.int .i64 (e.txs.getD k zeroL).tx)) (by kernel_rfl) ?_ (fun hHeld => ?_)
  ·exact HSS.out _ T1.at'
  refine tk 0 (v := .pointer (some ⟨E, 0, none⟩)) rfl (Or.inl ⟨by rfl, ?_⟩) hHeld ?_
  ·intro w' hSw
   go_simp <;> rfl
  try simp only [Act.put, zA, zB, zD, zE, zF]
  refine tk 1 (v := .pointer (some ⟨E, 0, none⟩)) rfl (Or.inl ⟨by rfl, ?_⟩) hHeld ?_
  ·intro w' hSw
   go_simp <;> rfl
  try simp only [Act.put, zA, zB, zC, zD, zE, zF]
  refine tk 2 (v := .pointer (some ⟨E, 140, none⟩)) rfl (Or.inl ⟨by rfl, ?_⟩) hHeld ?_
  ·intro w' hSw
   go_simp <;> rfl
  try simp only [Act.put, zA, zB, zC, zD, zE, zF]
  refine tk 3 (v := .slice (some ⟨gT, 0, none⟩) e.txs.length e.cT) rfl (Or.inl ⟨by rfl, ?_⟩) hHeld ?_
  ·intro w' hSw
   have hx := hSw.1
   clear hSw
   go_simp <;> rfl
  try simp only [Act.put, zA, zB, zC, zD, zE, zF]
  refine tk 4 (v := .pointer (some ⟨B, 0, none⟩)) rfl (Or.inl ⟨by rfl, ?_⟩) hHeld ?_
  ·intro w' hSw
   go_simp <;> rfl
  try simp only [Act.put, zA, zB, zC, zD, zE, zF]
  refine tk 5 (v := .pointer (some ⟨E, 0, none⟩)) rfl (Or.inl ⟨by rfl, ?_⟩) hHeld ?_
  ·intro w' hSw
   go_simp <;> rfl
  try simp only [Act.put, zA, zB, zC, zD, zE, zF]
  refine tk 6 (v := .pointer (some ⟨E, 0, none⟩)) rfl (Or.inl ⟨by rfl, ?_⟩) hHeld ?_
  ·intro w' hSw
   go_simp <;> rfl
  try simp only [Act.put, zA, zB, zC, zD, zE, zF]
  refine tk 7 (v := .pointer (some ⟨E, 140, none⟩)) rfl (Or.inl ⟨by rfl, ?_⟩) hHeld ?_
  ·intro w' hSw
   go_simp <;> rfl
  try simp only [Act.put, zA, zB, zC, zD, zE, zF]
  refine tk 8 (v := .slice (some ⟨gT, 0, none⟩) e.txs.length e.cT) rfl (Or.inl ⟨by rfl, ?_⟩) hHeld ?_
  ·intro w' hSw
   have hx := hSw.1
   clear hSw
   go_simp <;> rfl
  try simp only [Act.put, zA, zB, zC, zD, zE, zF]
  refine tk 9 (v := .int .i64 (e.txs.length : Int)) rfl (Or.inl ⟨by rfl, ?_⟩) hHeld ?_
  ·intro w' hSw
   go_simp <;> rfl
  try simp only [Act.put, zA, zB, zC, zD, zE, zF]
  refine wpAnyH_ready (rs := [10]) (by kernel_rfl) (by simp) ?_
  refine AllReadyH.cons rfl (fun K hK => ?_) AllReadyH.nil
  go_simp
  refine C1.mono ?_
  clear C1
  rintro r w1 ⟨k, rfl, hk, hc1, hg1⟩
  have T1' := T1.drew hc1 (touch_cur hg1)
  have hk' : k < e.txs.length := by have := hk (by omega); omega
  refine hK.out _ _ (HSS.out _ T1'.at') (fun hHeld => ?_)
  clear hK K hk
  try simp only [Act.put, zA, zB, zC, zD, zE, zF]
  have hki : (k : Int) < (e.txs.length : Int) := by omega
  have hk0 : (0 : Int) ≤ (k : Int) := by omega
  refine tk 11 (v := .pointer (some ⟨gT, k * 3, none⟩)) rfl (Or.inl ⟨by rfl, ?_⟩) hHeld ?_
  ·intro w' hSw
   go_simp <;> rfl
  try simp only [Act.put, zA, zB, zC, zD, zE, zF]
  refine tk 12 (v := .pointer (some ⟨gT, k * 3, none⟩)) rfl (Or.inl ⟨by rfl, ?_⟩) hHeld ?_
  ·intro w' hSw
   go_simp <;> rfl
  try simp only [Act.put, zA, zB, zC, zD, zE, zF]
  obtain ⟨tx, htx⟩ : ∃ tx, Hid ((e.txs.getD k zeroL).tx = tx) := ⟨_, rfl⟩
  refine tk 13 (v := .int .i64 tx) rfl (Or.inl ⟨by rfl, ?_⟩) hHeld ?_
  ·intro w' hSw
   have hx := hSw.2 k hk'
   rw [htx.out] at hx
   clear hSw
   go_simp <;> rfl
  try simp only [Act.put, zA, zB, zC, zD, zE, zF]
  refine tk 14 (v := .int .i64 tx) rfl (Or.inl ⟨by rfl, ?_⟩) hHeld ?_
  ·intro w' hSw
   go_simp <;> rfl
  try simp only [Act.put, zA, zB, zC, zD, zE, zF]
  refine wpAnyH_done (by kernel_rfl) ?_ _
  have HLV : Hid (0 ≤ liveOf e.txs tx) := live_in e.txs k hk' tx htx.out
  have C2 := l1Below_any B zs 12 w1 T1'.cur hl (by omega)
  clear hHeld hki hk0 htx hc1 hg1 h0b h0
  go_wp2_with fail
  refine C2.mono ?_
  clear C2
  rintro r w2 ⟨x, rfl, hx12, hc2, hg2⟩
  have hx12' : x < 12 := by have := hx12 (by omega); omega
  have T2 := T1'.drew hc2 (touch_cur hg2)
  clear hx12 hg2 hc2 T1' T1
  rcases (by omega : x = 0 ∨ x = 1 ∨ x = 2 ∨ x = 3 ∨ x = 4 ∨ x = 5 ∨ x = 6 ∨ 7 ≤ x) with hx | hx | hx | hx | hx | hx | hx | hx
  ·subst hx
   have x2 : w2.cell? ⟨E, 140, none⟩ = some (.slice e.aT e.txs.length e.cT) := EngA.cell_at T2.at'.shape T2.at'.box 4 _ rfl
   by_cases h4 : e.txs.length < 4
   ·have h4b : (e.txs.length : Int) < 4 := by omega
    have ND : Below w2.heap.size w2 w2.drew := (Below.refl _ _).drew
    go_upto_region 11 with fail
    clear x2
    have aD := T2.at'.below ND
    have y0 : w2.drew.cell? ⟨E, 140, none⟩ = some (.slice e.aT e.txs.length e.cT) := EngA.cell_at aD.shape aD.box 4 _ rfl
    have SD : w2.drew.cell? ⟨E, 142, none⟩ = some (.int .i64 e.next) := EngA.cell_at aD.shape aD.box 6 _ rfl
    refine wp_region_held_drew (S := fun w' => w'.cell? ⟨E, 142, none⟩ = some (.int .i64 e.next) ∧ True) (by kernel_rfl) ?_ (fun hHeld => ?_)
    ·exact ⟨SD, trivial⟩
    refine tk 0 (v := .pointer (some ⟨E, 0, none⟩)) rfl (Or.inl ⟨by rfl, ?_⟩) hHeld ?_
    ·intro w' hSw
     go_simp <;> rfl
    try simp only [Act.put, zA, zB, zD, zE, zF]
    refine tk 1 (v := .pointer (some ⟨E, 0, none⟩)) rfl (Or.inl ⟨by rfl, ?_⟩) hHeld ?_
    ·intro w' hSw
     go_simp <;> rfl
    try simp only [Act.put, zA, zB, zC, zD, zE, zF]
    refine tk 2 (v := .pointer (some ⟨E, 0, none⟩)) rfl (Or.inl ⟨by rfl, ?_⟩) hHeld ?_
    ·intro w' hSw
     go_simp <;> rfl
    try simp only [Act.put, zA, zB, zC, zD, zE, zF]
    refine tk 3 (v := .pointer (some ⟨E, 140, none⟩)) rfl (Or.inl ⟨by rfl, ?_⟩) hHeld ?_
    ·intro w' hSw
     go_simp <;> rfl
    try simp only [Act.put, zA, zB, zC, zD, zE, zF]
    refine tk 5 (v := .pointer (some ⟨E, 0, none⟩)) rfl (Or.inl ⟨by rfl, ?_⟩) hHeld ?_
    ·intro w' hSw
     go_simp <;> rfl
    try simp only [Act.put, zA, zB, zC, zD, zE, zF]
    refine tk 6 (v := .pointer (some ⟨E, 0, none⟩)) rfl (Or.inl ⟨by rfl, ?_⟩) hHeld ?_
    ·intro w' hSw
     go_simp <;> rfl
    try simp only [Act.put, zA, zB, zC, zD, zE, zF]
    refine tk 7 (v := .pointer (some ⟨E, 142, none⟩)) rfl (Or.inl ⟨by rfl, ?_⟩) hHeld ?_
    ·intro w' hSw
     go_simp <;> rfl
    try simp only [Act.put, zA, zB, zC, zD, zE, zF]
    refine tk 8 (v := .int .i64 e.next) rfl (Or.inl ⟨by rfl, ?_⟩) hHeld ?_
    ·intro w' hSw
     have hx := hSw.1
     go_simp <;> rfl
    try simp only [Act.put, zA, zB, zC, zD, zE, zF]
    refine tk 9 (v := .agg #[.int .i64 e.next, .int .i64 0, .bool false]) rfl (Or.inl ⟨by rfl, ?_⟩) hHeld ?_
    ·intro w' hSw
     go_simp <;> rfl
    try simp only [Act.put, zA, zB, zC, zD, zE, zF]
    refine wpAnyH_ready (rs := [4, 10]) (by kernel_rfl) (by simp) ?_
    refine AllReadyH.cons rfl (fun K hK => ?_) (AllReadyH.cons rfl (fun K hK => ?_) AllReadyH.nil)
    ·go_simp
     refine hK.out _ _ (hHeld) (fun hHeld => ?_)
     clear hK K
     try simp only [Act.put, zA, zB, zC, zD, zE, zF]
     refine wpAnyH_ready (rs := [10]) (by kernel_rfl) (by simp) ?_
     refine AllReadyH.cons rfl (fun K hK => ?_) AllReadyH.nil
     go_simp
     obtain ⟨V5, hV5, b5', hb5, hs5⟩ := boxes1 w2 [.int .i64 e.next, .int .i64 0, .bool false] 112
     have hV5' : Hid (w2.alloc (.cells #[.int .i64 e.next, .int .i64 0, .bool false] 112) = V5) := hV5.out
     rw [hV5'.out]
     obtain ⟨W5, hW5⟩ : ∃ W5, Hid (V5.drew = W5) := ⟨_, rfl⟩
     rw [hW5.out]
     have ND5 : Below w2.heap.size w2 W5 := by rw [← hW5.out]; exact hb5.drew
     have r5 : ReadsL W5 (some ⟨w2.heap.size, 0, none⟩) [⟨e.next, 0, false⟩] := by
      rw [← hW5.out]
      have h1 := (readsL_one w2 ⟨e.next, 0, false⟩ 112).below ((Below.refl _ _).drew)
      rw [hV5'.out] at h1
      exact h1
     have a5 := T2.at'.below ND5
     have oT5 := T2.at'.own.txs.below ND5
     clear hs5 hb5 hW5 hV5 hV5' b5'
     refine hK.out _ _ (⟨EngA.cell_at a5.shape a5.box 6 _ rfl, trivial⟩) (fun hHeld => ?_)
     clear hK K
     try simp only [Act.put, zA, zB, zC, zD, zE, zF]
     clear y0 aD SD
     refine wpAnyH_ready (rs := [11]) (by kernel_rfl) (by simp) ?_
     refine AllReadyH.cons rfl (fun K hK => ?_) AllReadyH.nil
     refine step_append_lives rfl (.tmp 70) (.tmp 76) rfl 0 w2.heap.size e.aT e.cT e.txs rfl oT5 _ _ [⟨e.next, 0, false⟩] rfl r5 (fun h => by cases h) (by simp; omega) (Nat.zero_le _) ?_
     intro a9 c9 y9 w9 hy9 o9 g9 f9
     obtain ⟨bx9, W10, hW10, st10⟩ := T2.at'.livesStep ND5 o9 g9 f9
     have S9 : w9.cell? ⟨E, 142, none⟩ = some (.int .i64 e.next) := EngA.cell_at h.shape bx9 6 _ rfl
     have S10 : W10.cell? ⟨E, 142, none⟩ = some (.int .i64 e.next) := EngA.cell_at st10.at'.shape st10.at'.box 6 _ rfl
     have m0 : w9.cell? ⟨E, 140, none⟩ = some (.slice e.aT e.txs.length e.cT) := EngA.cell_at h.shape bx9 4 _ rfl
     have mf0 := bx9.frozen 140
     refine hK.out _ _ (⟨S9, trivial⟩) (fun hHeld => ?_)
     clear hK K g9 f9
     try simp only [Act.put, zA, zB, zC, zD, zE, zF]
     refine tk 12 (v := .pointer (some ⟨E, 0, none⟩)) rfl (Or.inl ⟨by rfl, ?_⟩) hHeld ?_
     ·intro w' hSw
      go_simp <;> rfl
     try simp only [Act.put, zA, zB, zC, zD, zE, zF]
     refine tk 13 (v := .pointer (some ⟨E, 140, none⟩)) rfl (Or.inl ⟨by rfl, ?_⟩) hHeld ?_
     ·intro w' hSw
      go_simp <;> rfl
     try simp only [Act.put, zA, zB, zC, zD, zE, zF]
     refine wpAnyH_ready (rs := [14]) (by kernel_rfl) (by simp) ?_
     refine AllReadyH.cons rfl (fun K hK => ?_) AllReadyH.nil
     go_simp
     rw [hW10.out]
     refine hK.out _ _ (⟨S10, trivial⟩) (fun hHeld => ?_)
     clear hK K
     try simp only [Act.put, zA, zB, zC]
     refine wpAnyH_done (by kernel_rfl) ?_ _
     clear m0 mf0 hW10 hHeld S9 bx9
     have T10 := T2.step st10
     obtain ⟨W11, hW11, st11⟩ := T10.at'.nextSet (e.next + 1)
     have T11 := T10.step st11
     have f10 := T10.at'.box.frozen 142
     have D11 : DrawE (i + 1) ((e.withTxs y9 a9 c9).withNext (e.next + 1)).v := by
      have h1 := drawE_begin hd h4
      have h2 : ((e.withTxs y9 a9 c9).withNext (e.next + 1)).v = beginV e.v := by simp only [EngA.v, EngA.withNext, EngA.withTxs, beginV, hy9.out]
      rw [h2]; exact h1
     obtain ⟨mx, hmx, hmxl⟩ := hd.next
     have hn0 : 0 ≤ e.next := by have : e.next = (mx : Int) := hmx; omega
     have hn1 : e.next ≤ 21 := by have : e.next = (mx : Int) := hmx; omega
     clear hmx T10 st10 st11
     go_wp2_with fail
     rw [hW11.out]
     go_end0
     exact ⟨⟨_, rfl⟩, _, D11, T11⟩
    ·skip
     go_simp
     obtain ⟨V5, hV5, b5', hb5, hs5⟩ := boxes1 w2 [.int .i64 e.next, .int .i64 0, .bool false] 112
     have hV5' : Hid (w2.alloc (.cells #[.int .i64 e.next, .int .i64 0, .bool false] 112) = V5) := hV5.out
     rw [hV5'.out]
     obtain ⟨W5, hW5⟩ : ∃ W5, Hid (V5.drew = W5) := ⟨_, rfl⟩
     rw [hW5.out]
     have ND5 : Below w2.heap.size w2 W5 := by rw [← hW5.out]; exact hb5.drew
     have r5 : ReadsL W5 (some ⟨w2.heap.size, 0, none⟩) [⟨e.next, 0, false⟩] := by
      rw [← hW5.out]
      have h1 := (readsL_one w2 ⟨e.next, 0, false⟩ 112).below ((Below.refl _ _).drew)
      rw [hV5'.out] at h1
      exact h1
     have a5 := T2.at'.below ND5
     have oT5 := T2.at'.own.txs.below ND5
     clear hs5 hb5 hW5 hV5 hV5' b5'
     refine hK.out _ _ (⟨EngA.cell_at a5.shape a5.box 6 _ rfl, trivial⟩) (fun hHeld => ?_)
     clear hK K
     try simp only [Act.put, zA, zB, zC, zD, zE, zF]
     clear y0 aD SD
     have y0 : W5.cell? ⟨E, 140, none⟩ = some (.slice e.aT e.txs.length e.cT) := EngA.cell_at a5.shape a5.box 4 _ rfl
     refine wpAnyH_ready (rs := [4]) (by kernel_rfl) (by simp) ?_
     refine AllReadyH.cons rfl (fun K hK => ?_) AllReadyH.nil
     go_simp
     refine hK.out _ _ (hHeld) (fun hHeld => ?_)
     clear hK K
     try simp only [Act.put, zA, zB, zC, zD, zE, zF]
     clear y0
     refine wpAnyH_ready (rs := [11]) (by kernel_rfl) (by simp) ?_
     refine AllReadyH.cons rfl (fun K hK => ?_) AllReadyH.nil
     refine step_append_lives rfl (.tmp 70) (.tmp 76) rfl 0 w2.heap.size e.aT e.cT e.txs rfl oT5 _ _ [⟨e.next, 0, false⟩] rfl r5 (fun h => by cases h) (by simp; omega) (Nat.zero_le _) ?_
     intro a9 c9 y9 w9 hy9 o9 g9 f9
     obtain ⟨bx9, W10, hW10, st10⟩ := T2.at'.livesStep ND5 o9 g9 f9
     have S9 : w9.cell? ⟨E, 142, none⟩ = some (.int .i64 e.next) := EngA.cell_at h.shape bx9 6 _ rfl
     have S10 : W10.cell? ⟨E, 142, none⟩ = some (.int .i64 e.next) := EngA.cell_at st10.at'.shape st10.at'.box 6 _ rfl
     have m0 : w9.cell? ⟨E, 140, none⟩ = some (.slice e.aT e.txs.length e.cT) := EngA.cell_at h.shape bx9 4 _ rfl
     have mf0 := bx9.frozen 140
     refine hK.out _ _ (⟨S9, trivial⟩) (fun hHeld => ?_)
     clear hK K g9 f9
     try simp only [Act.put, zA, zB, zC, zD, zE, zF]
     refine tk 12 (v := .pointer (some ⟨E, 0, none⟩)) rfl (Or.inl ⟨by rfl, ?_⟩) hHeld ?_
     ·intro w' hSw
      go_simp <;> rfl
     try simp only [Act.put, zA, zB, zC, zD, zE, zF]
     refine tk 13 (v := .pointer (some ⟨E, 140, none⟩)) rfl (Or.inl ⟨by rfl, ?_⟩) hHeld ?_
     ·intro w' hSw
      go_simp <;> rfl
     try simp only [Act.put, zA, zB, zC, zD, zE, zF]
     refine wpAnyH_ready (rs := [14]) (by kernel_rfl) (by simp) ?_
     refine AllReadyH.cons rfl (fun K hK => ?_) AllReadyH.nil
     go_simp
     rw [hW10.out]
     refine hK.out _ _ (⟨S10, trivial⟩) (fun hHeld => ?_)
     clear hK K
     try simp only [Act.put, zA, zB, zC]
     refine wpAnyH_done (by kernel_rfl) ?_ _
     clear m0 mf0 hW10 hHeld S9 bx9
     have T10 := T2.step st10
     obtain ⟨W11, hW11, st11⟩ := T10.at'.nextSet (e.next + 1)
     have T11 := T10.step st11
     have f10 := T10.at'.box.frozen 142
     have D11 : DrawE (i + 1) ((e.withTxs y9 a9 c9).withNext (e.next + 1)).v := by
      have h1 := drawE_begin hd h4
      have h2 : ((e.withTxs y9 a9 c9).withNext (e.next + 1)).v = beginV e.v := by simp only [EngA.v, EngA.withNext, EngA.withTxs, beginV, hy9.out]
      rw [h2]; exact h1
     obtain ⟨mx, hmx, hmxl⟩ := hd.next
     have hn0 : 0 ≤ e.next := by have : e.next = (mx : Int) := hmx; omega
     have hn1 : e.next ≤ 21 := by have : e.next = (mx : Int) := hmx; omega
     clear hmx T10 st10 st11
     go_wp2_with fail
     rw [hW11.out]
     go_end0
     exact ⟨⟨_, rfl⟩, _, D11, T11⟩
   ·first
    | exact (NOA.out h4).elim
    | (have h4b : ¬ (e.txs.length : Int) < 4 := (by omega); go_wp2; go_end0; exact ⟨⟨_, rfl⟩, e, hd.later, T2⟩)
  ·subst hx
   have x2 : w2.cell? ⟨E, 140, none⟩ = some (.slice e.aT e.txs.length e.cT) := EngA.cell_at T2.at'.shape T2.at'.box 4 _ rfl
   by_cases h4 : e.txs.length < 4
   ·have h4b : (e.txs.length : Int) < 4 := by omega
    have ND : Below w2.heap.size w2 w2.drew := (Below.refl _ _).drew
    go_upto_region 11 with fail
    clear x2
    have aD := T2.at'.below ND
    have y0 : w2.drew.cell? ⟨E, 140, none⟩ = some (.slice e.aT e.txs.length e.cT) := EngA.cell_at aD.shape aD.box 4 _ rfl
    have SD : w2.drew.cell? ⟨E, 142, none⟩ = some (.int .i64 e.next) := EngA.cell_at aD.shape aD.box 6 _ rfl
    refine wp_region_held_drew (S := fun w' => w'.cell? ⟨E, 142, none⟩ = some (.int .i64 e.next) ∧ True) (by kernel_rfl) ?_ (fun hHeld => ?_)
    ·exact ⟨SD, trivial⟩
    refine tk 0 (v := .pointer (some ⟨E, 0, none⟩)) rfl (Or.inl ⟨by rfl, ?_⟩) hHeld ?_
    ·intro w' hSw
     go_simp <;> rfl
    try simp only [Act.put, zA, zB, zD, zE, zF]
    refine tk 1 (v := .pointer (some ⟨E, 0, none⟩)) rfl (Or.inl ⟨by rfl, ?_⟩) hHeld ?_
    ·intro w' hSw
     go_simp <;> rfl
    try simp only [Act.put, zA, zB, zC, zD, zE, zF]
    refine tk 2 (v := .pointer (some ⟨E, 0, none⟩)) rfl (Or.inl ⟨by rfl, ?_⟩) hHeld ?_
    ·intro w' hSw
     go_simp <;> rfl
    try simp only [Act.put, zA, zB, zC, zD, zE, zF]
    refine tk 3 (v := .pointer (some ⟨E, 140, none⟩)) rfl (Or.inl ⟨by rfl, ?_⟩) hHeld ?_
    ·intro w' hSw
     go_simp <;> rfl
    try simp only [Act.put, zA, zB, zC, zD, zE, zF]
    refine tk 5 (v := .pointer (some ⟨E, 0, none⟩)) rfl (Or.inl ⟨by rfl, ?_⟩) hHeld ?_
    ·intro w' hSw
     go_simp <;> rfl
    try simp only [Act.put, zA, zB, zC, zD, zE, zF]
    refine tk 6 (v := .pointer (some ⟨E, 0, none⟩)) rfl (Or.inl ⟨by rfl, ?_⟩) hHeld ?_
    ·intro w' hSw
     go_simp <;> rfl
    try simp only [Act.put, zA, zB, zC, zD, zE, zF]
    refine tk 7 (v := .pointer (some ⟨E, 142, none⟩)) rfl (Or.inl ⟨by rfl, ?_⟩) hHeld ?_
    ·intro w' hSw
     go_simp <;> rfl
    try simp only [Act.put, zA, zB, zC, zD, zE, zF]
    refine tk 8 (v := .int .i64 e.next) rfl (Or.inl ⟨by rfl, ?_⟩) hHeld ?_
    ·intro w' hSw
     have hx := hSw.1
     go_simp <;> rfl
    try simp only [Act.put, zA, zB, zC, zD, zE, zF]
    refine tk 9 (v := .agg #[.int .i64 e.next, .int .i64 0, .bool false]) rfl (Or.inl ⟨by rfl, ?_⟩) hHeld ?_
    ·intro w' hSw
     go_simp <;> rfl
    try simp only [Act.put, zA, zB, zC, zD, zE, zF]
    refine wpAnyH_ready (rs := [4, 10]) (by kernel_rfl) (by simp) ?_
    refine AllReadyH.cons rfl (fun K hK => ?_) (AllReadyH.cons rfl (fun K hK => ?_) AllReadyH.nil)
    ·go_simp
     refine hK.out _ _ (hHeld) (fun hHeld => ?_)
     clear hK K
     try simp only [Act.put, zA, zB, zC, zD, zE, zF]
     refine wpAnyH_ready (rs := [10]) (by kernel_rfl) (by simp) ?_
     refine AllReadyH.cons rfl (fun K hK => ?_) AllReadyH.nil
     go_simp
     obtain ⟨V5, hV5, b5', hb5, hs5⟩ := boxes1 w2 [.int .i64 e.next, .int .i64 0, .bool false] 112
     have hV5' : Hid (w2.alloc (.cells #[.int .i64 e.next, .int .i64 0, .bool false] 112) = V5) := hV5.out
     rw [hV5'.out]
     obtain ⟨W5, hW5⟩ : ∃ W5, Hid (V5.drew = W5) := ⟨_, rfl⟩
     rw [hW5.out]
     have ND5 : Below w2.heap.size w2 W5 := by rw [← hW5.out]; exact hb5.drew
     have r5 : ReadsL W5 (some ⟨w2.heap.size, 0, none⟩) [⟨e.next, 0, false⟩] := by
      rw [← hW5.out]
      have h1 := (readsL_one w2 ⟨e.next, 0, false⟩ 112).below ((Below.refl _ _).drew)
      rw [hV5'.out] at h1
      exact h1
     have a5 := T2.at'.below ND5
     have oT5 := T2.at'.own.txs.below ND5
     clear hs5 hb5 hW5 hV5 hV5' b5'
     refine hK.out _ _ (⟨EngA.cell_at a5.shape a5.box 6 _ rfl, trivial⟩) (fun hHeld => ?_)
     clear hK K
     try simp only [Act.put, zA, zB, zC, zD, zE, zF]
     clear y0 aD SD
     refine wpAnyH_ready (rs := [11]) (by kernel_rfl) (by simp) ?_
     refine AllReadyH.cons rfl (fun K hK => ?_) AllReadyH.nil
     refine step_append_lives rfl (.tmp 70) (.tmp 76) rfl 0 w2.heap.size e.aT e.cT e.txs rfl oT5 _ _ [⟨e.next, 0, false⟩] rfl r5 (fun h => by cases h) (by simp; omega) (Nat.zero_le _) ?_
     intro a9 c9 y9 w9 hy9 o9 g9 f9
     obtain ⟨bx9, W10, hW10, st10⟩ := T2.at'.livesStep ND5 o9 g9 f9
     have S9 : w9.cell? ⟨E, 142, none⟩ = some (.int .i64 e.next) := EngA.cell_at h.shape bx9 6 _ rfl
     have S10 : W10.cell? ⟨E, 142, none⟩ = some (.int .i64 e.next) := EngA.cell_at st10.at'.shape st10.at'.box 6 _ rfl
     have m0 : w9.cell? ⟨E, 140, none⟩ = some (.slice e.aT e.txs.length e.cT) := EngA.cell_at h.shape bx9 4 _ rfl
     have mf0 := bx9.frozen 140
     refine hK.out _ _ (⟨S9, trivial⟩) (fun hHeld => ?_)
     clear hK K g9 f9
     try simp only [Act.put, zA, zB, zC, zD, zE, zF]
     refine tk 12 (v := .pointer (some ⟨E, 0, none⟩)) rfl (Or.inl ⟨by rfl, ?_⟩) hHeld ?_
     ·intro w' hSw
      go_simp <;> rfl
     try simp only [Act.put, zA, zB, zC, zD, zE, zF]
     refine tk 13 (v := .pointer (some ⟨E, 140, none⟩)) rfl (Or.inl ⟨by rfl, ?_⟩) hHeld ?_
     ·intro w' hSw
      go_simp <;> rfl
     try simp only [Act.put, zA, zB, zC, zD, zE, zF]
     refine wpAnyH_ready (rs := [14]) (by kernel_rfl) (by simp) ?_
     refine AllReadyH.cons rfl (fun K hK => ?_) AllReadyH.nil
     go_simp
     rw [hW10.out]
     refine hK.out _ _ (⟨S10, trivial⟩) (fun hHeld => ?_)
     clear hK K
     try simp only [Act.put, zA, zB, zC]
     refine wpAnyH_done (by kernel_rfl) ?_ _
     clear m0 mf0 hW10 hHeld S9 bx9
     have T10 := T2.step st10
     obtain ⟨W11, hW11, st11⟩ := T10.at'.nextSet (e.next + 1)
     have T11 := T10.step st11
     have f10 := T10.at'.box.frozen 142
     have D11 : DrawE (i + 1) ((e.withTxs y9 a9 c9).withNext (e.next + 1)).v := by
      have h1 := drawE_begin hd h4
      have h2 : ((e.withTxs y9 a9 c9).withNext (e.next + 1)).v = beginV e.v := by simp only [EngA.v, EngA.withNext, EngA.withTxs, beginV, hy9.out]
      rw [h2]; exact h1
     obtain ⟨mx, hmx, hmxl⟩ := hd.next
     have hn0 : 0 ≤ e.next := by have : e.next = (mx : Int) := hmx; omega
     have hn1 : e.next ≤ 21 := by have : e.next = (mx : Int) := hmx; omega
     clear hmx T10 st10 st11
     go_wp2_with fail
     rw [hW11.out]
     go_end0
     exact ⟨⟨_, rfl⟩, _, D11, T11⟩
    ·skip
     go_simp
     obtain ⟨V5, hV5, b5', hb5, hs5⟩ := boxes1 w2 [.int .i64 e.next, .int .i64 0, .bool false] 112
     have hV5' : Hid (w2.alloc (.cells #[.int .i64 e.next, .int .i64 0, .bool false] 112) = V5) := hV5.out
     rw [hV5'.out]
     obtain ⟨W5, hW5⟩ : ∃ W5, Hid (V5.drew = W5) := ⟨_, rfl⟩
     rw [hW5.out]
     have ND5 : Below w2.heap.size w2 W5 := by rw [← hW5.out]; exact hb5.drew
     have r5 : ReadsL W5 (some ⟨w2.heap.size, 0, none⟩) [⟨e.next, 0, false⟩] := by
      rw [← hW5.out]
      have h1 := (readsL_one w2 ⟨e.next, 0, false⟩ 112).below ((Below.refl _ _).drew)
      rw [hV5'.out] at h1
      exact h1
     have a5 := T2.at'.below ND5
     have oT5 := T2.at'.own.txs.below ND5
     clear hs5 hb5 hW5 hV5 hV5' b5'
     refine hK.out _ _ (⟨EngA.cell_at a5.shape a5.box 6 _ rfl, trivial⟩) (fun hHeld => ?_)
     clear hK K
     try simp only [Act.put, zA, zB, zC, zD, zE, zF]
     clear y0 aD SD
     have y0 : W5.cell? ⟨E, 140, none⟩ = some (.slice e.aT e.txs.length e.cT) := EngA.cell_at a5.shape a5.box 4 _ rfl
     refine wpAnyH_ready (rs := [4]) (by kernel_rfl) (by simp) ?_
     refine AllReadyH.cons rfl (fun K hK => ?_) AllReadyH.nil
     go_simp
     refine hK.out _ _ (hHeld) (fun hHeld => ?_)
     clear hK K
     try simp only [Act.put, zA, zB, zC, zD, zE, zF]
     clear y0
     refine wpAnyH_ready (rs := [11]) (by kernel_rfl) (by simp) ?_
     refine AllReadyH.cons rfl (fun K hK => ?_) AllReadyH.nil
     refine step_append_lives rfl (.tmp 70) (.tmp 76) rfl 0 w2.heap.size e.aT e.cT e.txs rfl oT5 _ _ [⟨e.next, 0, false⟩] rfl r5 (fun h => by cases h) (by simp; omega) (Nat.zero_le _) ?_
     intro a9 c9 y9 w9 hy9 o9 g9 f9
     obtain ⟨bx9, W10, hW10, st10⟩ := T2.at'.livesStep ND5 o9 g9 f9
     have S9 : w9.cell? ⟨E, 142, none⟩ = some (.int .i64 e.next) := EngA.cell_at h.shape bx9 6 _ rfl
     have S10 : W10.cell? ⟨E, 142, none⟩ = some (.int .i64 e.next) := EngA.cell_at st10.at'.shape st10.at'.box 6 _ rfl
     have m0 : w9.cell? ⟨E, 140, none⟩ = some (.slice e.aT e.txs.length e.cT) := EngA.cell_at h.shape bx9 4 _ rfl
     have mf0 := bx9.frozen 140
     refine hK.out _ _ (⟨S9, trivial⟩) (fun hHeld => ?_)
     clear hK K g9 f9
     try simp only [Act.put, zA, zB, zC, zD, zE, zF]
     refine tk 12 (v := .pointer (some ⟨E, 0, none⟩)) rfl (Or.inl ⟨by rfl, ?_⟩) hHeld ?_
     ·intro w' hSw
      go_simp <;> rfl
     try simp only [Act.put, zA, zB, zC, zD, zE, zF]
     refine tk 13 (v := .pointer (some ⟨E, 140, none⟩)) rfl (Or.inl ⟨by rfl, ?_⟩) hHeld ?_
     ·intro w' hSw
      go_simp <;> rfl
     try simp only [Act.put, zA, zB, zC, zD, zE, zF]
     refine wpAnyH_ready (rs := [14]) (by kernel_rfl) (by simp) ?_
     refine AllReadyH.cons rfl (fun K hK => ?_) AllReadyH.nil
     go_simp
     rw [hW10.out]
     refine hK.out _ _ (⟨S10, trivial⟩) (fun hHeld => ?_)
     clear hK K
     try simp only [Act.put, zA, zB, zC]
     refine wpAnyH_done (by kernel_rfl) ?_ _
     clear m0 mf0 hW10 hHeld S9 bx9
     have T10 := T2.step st10
     obtain ⟨W11, hW11, st11⟩ := T10.at'.nextSet (e.next + 1)
     have T11 := T10.step st11
     have f10 := T10.at'.box.frozen 142
     have D11 : DrawE (i + 1) ((e.withTxs y9 a9 c9).withNext (e.next + 1)).v := by
      have h1 := drawE_begin hd h4
      have h2 : ((e.withTxs y9 a9 c9).withNext (e.next + 1)).v = beginV e.v := by simp only [EngA.v, EngA.withNext, EngA.withTxs, beginV, hy9.out]
      rw [h2]; exact h1
     obtain ⟨mx, hmx, hmxl⟩ := hd.next
     have hn0 : 0 ≤ e.next := by have : e.next = (mx : Int) := hmx; omega
     have hn1 : e.next ≤ 21 := by have : e.next = (mx : Int) := hmx; omega
     clear hmx T10 st10 st11
     go_wp2_with fail
     rw [hW11.out]
     go_end0
     exact ⟨⟨_, rfl⟩, _, D11, T11⟩
   ·first
    | exact (NOA.out h4).elim
    | (have h4b : ¬ (e.txs.length : Int) < 4 := (by omega); go_wp2; go_end0; exact ⟨⟨_, rfl⟩, e, hd.later, T2⟩)
  ·subst hx
   by_cases ht : tx > 0
   ·have C3 := l7Commit_any E e tx w2 T2.at' (by omega) (by omega) (by omega)
    go_wp2_with fail
    refine C3.mono ?_
    clear C3
    rintro r w3 ⟨⟨v3, rfl⟩, e3, he3, s3⟩
    have T3 := T2.step s3
    have D3 : DrawE (i + 1) e3.v := by rw [he3.out]; exact drawE_commit hd tx
    go_wp2
    go_end0
    exact ⟨⟨_, rfl⟩, e3, D3, T3⟩
   ·go_wp2
    go_end0
    exact ⟨⟨_, rfl⟩, e, hd.later, T2⟩
  ·subst hx
   by_cases ht : tx > 0
   ·have C3 := l7Abort_any E e tx w2 T2.at' hd.sound.pool hd.sound.good (by omega) (by omega) (by omega)
    go_wp2_with fail
    refine C3.mono ?_
    clear C3
    rintro r w3 ⟨⟨v3, rfl⟩, e3, he3, s3⟩
    have T3 := T2.step s3
    have D3 : DrawE (i + 1) e3.v := by rw [he3.out]; exact drawE_abort hd tx
    go_wp2
    go_end0
    exact ⟨⟨_, rfl⟩, e3, D3, T3⟩
   ·go_wp2
    go_end0
    exact ⟨⟨_, rfl⟩, e, hd.later, T2⟩
  ·subst hx
   have C4 := l1Below_any B zs 8 w2 T2.cur hl (by omega)
   go_wp2_with fail
   refine C4.mono ?_
   clear C4
   rintro r w3 ⟨y, rfl, hy, hc3, hg3⟩
   have T3 := T2.drew hc3 (touch_cur hg3)
   have C5 := l7Flush_any E e y w3 T3.at' hd.sound.pool (by have := hy (by omega); omega)
   go_wp2_with fail
   refine C5.mono ?_
   clear C5
   rintro r w4 ⟨⟨v4, rfl⟩, e4, he4, s4⟩
   have T4 := T3.step s4
   have D4 : DrawE (i + 1) e4.v := by rw [he4.out]; exact drawE_flush hd y
   go_wp2
   go_end0
   exact ⟨⟨_, rfl⟩, e4, D4, T4⟩
  ·subst hx
   have C4 := l1Once_any B zs 2 w2 T2.cur hl (by omega)
   go_wp2_with fail
   refine C4.mono ?_
   clear C4
   rintro r w3 ⟨b, rfl, hc3, hg3⟩
   have T3 := T2.drew hc3 (touch_cur hg3)
   cases b with
   | false =>
    go_wp2
    go_end0
    exact ⟨⟨_, rfl⟩, e, hd.later, T3⟩
   | true =>
    have C5 := l7Check_any E e w3 T3.at' (by omega) (by omega)
    go_wp2_with fail
    refine C5.mono ?_
    clear C5
    rintro r w4 ⟨⟨v4, rfl⟩, e4, he4, s4⟩
    have T4 := T3.step s4
    have D4 : DrawE (i + 1) e4.v := by rw [he4.out]; exact drawE_check hd
    go_wp2
    go_end0
    exact ⟨⟨_, rfl⟩, e4, D4, T4⟩
  ·subst hx
   have C4 := l1Below_any B zs 8 w2 T2.cur hl (by omega)
   go_wp2_with fail
   refine C4.mono ?_
   clear C4
   rintro r w3 ⟨y, rfl, hy, hc3, hg3⟩
   have hy8 : y < 8 := by have := hy (by omega); omega
   have T3 := T2.drew hc3 (touch_cur hg3)
   have C5 := l7Fetch_any E e y w3 T3.at' hd.sound.pool hy8
   go_wp2_with fail
   refine C5.mono ?_
   clear C5
   rintro r w4 ⟨e4, k4, rfl, he4, _, s4⟩
   have T4 := T3.step s4
   have D4 : DrawE (i + 1) e4.v := by have := drawE_fetch hd y hy8; rw [he4.out] at this; exact this
   go_wp2
   go_end0
   exact ⟨⟨_, rfl⟩, e4, D4, T4⟩
  ·have hx0 : ((x : Int) == 0) = false := by simp; omega
   have hx1 : ((x : Int) == 1) = false := by simp; omega
   have hx2 : ((x : Int) == 2) = false := by simp; omega
   have hx3 : ((x : Int) == 3) = false := by simp; omega
   have hx4 : ((x : Int) == 4) = false := by simp; omega
   have hx5 : ((x : Int) == 5) = false := by simp; omega
   have hx6 : ((x : Int) == 6) = false := by simp; omega
   have C4 := l1Below_any B zs 31 w2 T2.cur hl (by omega)
   go_wp2_with fail
   refine C4.mono ?_
   clear C4
   rintro r w3 ⟨y, rfl, hy, hc3, hg3⟩
   have hy31 : y < 31 := by have := hy (by omega); omega
   have T3 := T2.drew hc3 (touch_cur hg3)
   obtain ⟨W4, hW4, b4, hb4, hs4⟩ := boxes1 w3 ([1, 2, 3, 5, 8, 12, 31, 1 + (y : Int)].map (Value.int .i64)) 3
   have hW4' : Hid (w3.alloc (.cells #[.int .i64 1, .int .i64 2, .int .i64 3, .int .i64 5, .int .i64 8, .int .i64 12, .int .i64 31, .int .i64 (1 + (y : Int))] 3) = W4) := hW4.out
   have T4 := T3.below hb4
   have rI := readsI_list [1, 2, 3, 5, 8, 12, 31, 1 + (y : Int)] b4
   have hBl := T3.cur.lt
   have C5 := l1Int_any B zs (some ⟨w3.heap.size, 0, none⟩) 8 [1, 2, 3, 5, 8, 12, 31, 1 + (y : Int)] W4 T4.cur hl rI (fun b off hb => by cases hb; omega) (by simp) (by simp)
   clear hs4 hW4 b4 hb4 rI hg3 hc3 hy
   go_wp2_with fail
   rw [hW4'.out]
   refine C5.mono ?_
   clear C5 hW4'
   rintro r w5 ⟨j, hj, rfl, hc5, hg5⟩
   have T5 := T4.drew hc5 (touch_cur hg5)
   obtain ⟨od, hod, hod32⟩ := oid_lit y j hy31 hj
   rw [hod]
   have a5 := T5.at'
   have r5 : w5.rangeAt E 0 e.cells := Box.range [] e.cells [] (by simpa using a5.box)
   have HIE : Hid ((Tryz.prog.info? 128).map (·.size) = some e.cells.length) := by rw [Hid, EngA.cells_len a5.shape]; exact Tryz.infoEng
   have CH := l7Holder_any e a5.shape od w5 a5.own.holds.reads (by omega)
   clear hod hj hc5 hg5 T4 T3 hy31
   go_wp2_with (first | (guard_target = wpList _ _ _ (Oper.mk (some 37) _ _ _ _ _ :: _) _ _; refine wpList_load_mid rfl 128 (.tmp 36) rfl E 0 rfl e.cells _ r5 Tryz.underlying128 rfl HIE.out ?_) | fail)
   refine CH.mono ?_
   clear CH r5 HIE
   rintro r w6 ⟨rfl, hb6⟩
   have T6 := T5.below hb6
   obtain ⟨hf, hhf⟩ : ∃ hf, Hid (holdFrom od e.holds = hf) := ⟨_, rfl⟩
   rw [hhf.out]
   by_cases ht : tx > 0 ∧ (hf = 0 ∨ hf = tx)
   ·have C7 := l3DrawSlot_any B zs w6 T6.cur hl
    have HG : Hid (tx > 0 ∧ (hf = 0 ∨ hf = tx)) := ht
    obtain ⟨ht1, ht2⟩ := ht
    rcases ht2 with ht2 | ht2
    ·have ht2b : (hf == 0) = true := by simpa using ht2
     clear ht2
     go_wp2_with fail
     refine C7.mono ?_
     clear C7
     rintro r w7 ⟨s, rfl, hsz, os, hc7, hw7⟩
     have T7 := T6.drew hc7 ⟨hw7.os, hw7.tape, hw7.output, hw7.size, fun j hj hn => hw7.block j hj (fun hh => hn (by simp; omega))⟩
     have hB6 := T6.cur.lt
     have C8 := l7Set_any E e tx od s w7 T7.at' hd.sound.pool hod32 (fun u hu => OwnO.reads (SlotA.touch os hu (fun j hj hm => by
      have h1 := (SlotA.blocks_lt os j hj).1
      rcases List.mem_cons.1 hm with h2 | h2
      ·have := T6.at'.box.lt; omega
      ·have := T6.at'.lt j h2; omega))) (fun y hy => by rw [List.mem_singleton.1 hy]; exact ⟨by have := hsz.1; omega, by have := hsz.2; omega⟩) (by omega) (by omega) (by omega) HLV.out
     go_wp2_with fail
     refine C8.mono ?_
     clear C8
     rintro r w8 ⟨⟨v8, rfl⟩, e8, he8, s8⟩
     have T8 := T7.step s8
     have D8 : DrawE (i + 1) e8.v := by rw [he8.out]; exact drawE_set hd tx od hod32 s.v ⟨by have := hsz.1; omega, by have := hsz.2; omega⟩
     go_wp2
     go_end0
     exact ⟨⟨_, rfl⟩, e8, D8, T8⟩
    ·by_cases ht3 : hf = 0
     ·have ht3b : (hf == 0) = true := by simpa using ht3
      clear ht2 ht3
      go_wp2_with fail
      refine C7.mono ?_
      clear C7
      rintro r w7 ⟨s, rfl, hsz, os, hc7, hw7⟩
      have T7 := T6.drew hc7 ⟨hw7.os, hw7.tape, hw7.output, hw7.size, fun j hj hn => hw7.block j hj (fun hh => hn (by simp; omega))⟩
      have hB6 := T6.cur.lt
      have C8 := l7Set_any E e tx od s w7 T7.at' hd.sound.pool hod32 (fun u hu => OwnO.reads (SlotA.touch os hu (fun j hj hm => by
       have h1 := (SlotA.blocks_lt os j hj).1
       rcases List.mem_cons.1 hm with h2 | h2
       ·have := T6.at'.box.lt; omega
       ·have := T6.at'.lt j h2; omega))) (fun y hy => by rw [List.mem_singleton.1 hy]; exact ⟨by have := hsz.1; omega, by have := hsz.2; omega⟩) (by omega) (by omega) (by omega) HLV.out
      go_wp2_with fail
      refine C8.mono ?_
      clear C8
      rintro r w8 ⟨⟨v8, rfl⟩, e8, he8, s8⟩
      have T8 := T7.step s8
      have D8 : DrawE (i + 1) e8.v := by rw [he8.out]; exact drawE_set hd tx od hod32 s.v ⟨by have := hsz.1; omega, by have := hsz.2; omega⟩
      go_wp2
      go_end0
      exact ⟨⟨_, rfl⟩, e8, D8, T8⟩
     ·have ht3b : (hf == 0) = false := by simpa using ht3
      have ht2b : (hf == tx) = true := by simpa using ht2
      clear ht2 ht3
      go_wp2_with fail
      refine C7.mono ?_
      clear C7
      rintro r w7 ⟨s, rfl, hsz, os, hc7, hw7⟩
      have T7 := T6.drew hc7 ⟨hw7.os, hw7.tape, hw7.output, hw7.size, fun j hj hn => hw7.block j hj (fun hh => hn (by simp; omega))⟩
      have hB6 := T6.cur.lt
      have C8 := l7Set_any E e tx od s w7 T7.at' hd.sound.pool hod32 (fun u hu => OwnO.reads (SlotA.touch os hu (fun j hj hm => by
       have h1 := (SlotA.blocks_lt os j hj).1
       rcases List.mem_cons.1 hm with h2 | h2
       ·have := T6.at'.box.lt; omega
       ·have := T6.at'.lt j h2; omega))) (fun y hy => by rw [List.mem_singleton.1 hy]; exact ⟨by have := hsz.1; omega, by have := hsz.2; omega⟩) (by omega) (by omega) (by omega) HLV.out
      go_wp2_with fail
      refine C8.mono ?_
      clear C8
      rintro r w8 ⟨⟨v8, rfl⟩, e8, he8, s8⟩
      have T8 := T7.step s8
      have D8 : DrawE (i + 1) e8.v := by rw [he8.out]; exact drawE_set hd tx od hod32 s.v ⟨by have := hsz.1; omega, by have := hsz.2; omega⟩
      go_wp2
      go_end0
      exact ⟨⟨_, rfl⟩, e8, D8, T8⟩
   ·by_cases ht1 : tx > 0
    ·have ht3b : (hf == 0) = false := by simp; intro h1; exact ht ⟨ht1, .inl h1⟩
     have ht2b : (hf == tx) = false := by simp; intro h1; exact ht ⟨ht1, .inr h1⟩
     clear ht
     go_wp2
     go_end0
     exact ⟨⟨_, rfl⟩, e, hd.later, T6⟩
    ·clear ht
     go_wp2
     go_end0
     exact ⟨⟨_, rfl⟩, e, hd.later, T6⟩
end Go.Proofs.YtoboickdkednkaaGreatDoor
namespace Go.Proofs.YtoboickdkednkaaGreatDoor
open Go.RowKit
attribute [local go_sem ↓] Go.wp_at_zero Go.wp_at_succ
theorem SomeStep.after {B E : Nat} {zs : List Int} {e e' e'' : EngA} {w w' w'' : World} (s : SomeStep B E zs e w e' w') (t : SomeStep B E zs e' w' e'' w'') : SomeStep B E zs e w e'' w'' := by
 refine ⟨t.cur, t.at', t.low, ⟨t.touch.os.trans s.touch.os, t.touch.tape.trans s.touch.tape, t.touch.output.trans s.touch.output, Nat.le_trans s.touch.size t.touch.size, fun k hk hn => ?_⟩, fun k hk => ?_⟩
 ·refine (t.touch.block k (Nat.lt_of_lt_of_le hk s.touch.size) (fun h => ?_)).trans (s.touch.block k hk hn)
  rcases List.mem_cons.1 h with h | h
  ·exact hn (by simp [h])
  ·rcases List.mem_cons.1 h with h | h
   ·exact hn (by simp [h])
   ·rcases s.fresh k h with h | h
    ·exact hn (List.mem_cons_of_mem _ (List.mem_cons_of_mem _ h))
    ·omega
 ·rcases t.fresh k hk with h | h
  ·exact s.fresh k h
  ·exact .inr (Nat.le_trans s.touch.size h)
def EngAns (B : Nat) (zs : List Int) (w : World) (r : Ending) (w' : World) : Prop := ∃ (e : EngA) (i : Nat), r = .returned (.agg e.cells.toArray) ∧ i ≤ 16 ∧ DrawE i e.v ∧ e.shape ∧ e.own w' 0 w'.heap.size ∧ (∀ k ∈ e.blocks, w.heap.size ≤ k) ∧ CurAt w' B zs ∧ Within B (B + 1) w w'
theorem l7Draw_any (B : Nat) (zs : List Int) (n : Int) (w : World) (hc : CurAt w B zs) (hl : zs.length ≤ 70368744177664) (hn0 : 0 < n) (hn : n ≤ 17) :
  Calls Tryz.prog 84 #[.pointer (some ⟨B, 0, none⟩), .int .i64 n] w fun r w' => EngAns B zs w r w' := by
 obtain ⟨W, hW, b0, hbW, hsW⟩ := boxes1 w zeroE.cells TE
 obtain ⟨z, hz⟩ : ∃ z, Hid (zeroE = z) := ⟨_, rfl⟩
 obtain ⟨q, hq⟩ : ∃ q, Hid (newE = q) := ⟨_, rfl⟩
 have hzs : z.shape := by rw [← hz.out]; exact zeroE_shape
 have hqs : q.shape := by rw [← hq.out]; exact newE_shape
 have hqv : Hid (q.v = newV) := by rw [Hid, ← hq.out]; rfl
 have hqb : Hid (q.blocks = []) := by rw [Hid, ← hq.out]; rfl
 have hqo : ∀ u, q.own u 0 u.heap.size := fun u => by rw [← hq.out]; exact newE_own u
 have CN := engineNew_any W
 rw [hq.out] at CN
 rw [hz.out] at hW b0
 have hBw := hc.lt
 clear hsW
 go_enter Tryz.func84, Tryz.ntmps84
 go_wp2_with (first | (guard_target = wpList _ _ _ (Oper.mk (some 4) _ _ _ _ _ :: _) _ _; refine alloc_eng ?_; rw [hz.out, hW.out]) | fail)
 refine CN.mono ?_
 clear CN
 rintro r w1 ⟨rfl, hb1⟩
 have hs1 := hb1.size
 have bR1 := b0.below hb1 b0.lt
 obtain ⟨W2, hW2, b2, hb2, hs2⟩ := boxes1 w1 z.cells TE
 obtain ⟨W3, hW3, hw3, hs3, HT3, b3⟩ := eng_out hqs hzs b2
 have N13 : Below w1.heap.size w1 W3 := hb2.trans (hw3.below (Nat.le_refl _) (by omega))
 have bR3 := bR1.below N13 bR1.lt
 have N1 : Below w.heap.size w w1 := hbW.trans (hb1.mono hbW.size)
 have N3 : Below w.heap.size w W3 := N1.trans (N13.mono N1.size)
 have hc3 := hc.below N3
 have hR1 := bR1.lt
 have aE : EngAt W3 w1.heap.size q := ⟨b3, hqs, hqo W3, by rw [hqb.out]; simp⟩
 have T3 : SomeStep B w1.heap.size zs q W3 q W3 := SomeStep.refl hc3 aE ⟨by omega, by rw [hqb.out]; simp⟩
 have HI3 : Hid ((Tryz.prog.info? 128).map (·.size) = some q.cells.toArray.size) := eng_info hqs
 have HO := all_oneCell_toArray (oneE q)
 have C3 := l1Below_any B zs n W3 hc3 hl (by omega)
 have hW2' : Hid (w1.alloc (.cells z.cells.toArray TE) = W2) := hW2.out
 clear hs2 hs3 hw3 b2 hb2 hW2
 go_upto_region 2 with (first | (guard_target = wpList _ _ _ (Oper.mk (some 5) _ _ _ _ _ :: _) _ _; refine alloc_eng ?_; rw [hz.out, hW2'.out]) | (guard_target = wpList _ _ _ (Oper.mk none (Op.store _ (Operand.tmp 5) _) _ _ _ _ :: _) _ _; refine wpList_store_mid rfl 128 (.tmp 5) (.tmp 7) rfl w1.heap.size 0 q.cells.toArray rfl rfl HT3.out HI3.out HO ?_; rw [hW3.out]) | fail)
 clear hW2' hW3 HT3 HI3 HO
 go_wp2_with fail
 refine C3.mono ?_
 clear C3
 rintro r w4 ⟨x, rfl, hx, hc4, hg4⟩
 have hx16 : x ≤ 16 := by have := hx hn0; omega
 have T4 := T3.drew hc4 (touch_cur hg4)
 clear hx hc4 hg4 T3 hc3
 go_wp2_with fail
 go_loopw [6] (fun v wr => ∃ (k : Nat) (e : EngA), v = .int .i64 k ∧ k ≤ x ∧ DrawE (x - k) e.v ∧ SomeStep B w1.heap.size zs q W3 e wr) (fun v _ => (intOf v).toNat)
 case atStart => exact ⟨x, q, rfl, Nat.le_refl _, by rw [Nat.sub_self, hqv.out]; exact drawE_new, T4⟩
 case round =>
  obtain ⟨k, e, rfl, hk, hd, T⟩ := hrel
  clear T4
  cases k with
  | zero =>
   have hRoff : ∀ j ∈ w.heap.size :: [], j ∉ B :: w1.heap.size :: q.blocks := fun j hj => by
    rw [List.mem_singleton.1 hj, hqb.out]
    simp only [List.mem_cons, List.not_mem_nil, or_false, not_or]
    exact ⟨by omega, by omega⟩
   have bRr := bR3.touch T.touch (hRoff _ (by simp))
   obtain ⟨WF, hWF, hwF, hsF, HTF, bF⟩ := eng_out T.at'.shape hzs bRr
   have rE : wr.rangeAt w1.heap.size 0 e.cells := Box.range [] e.cells [] (by simpa using T.at'.box)
   have HIe : Hid ((Tryz.prog.info? 128).map (·.size) = some e.cells.length) := eng_info T.at'.shape
   have HIe' : Hid ((Tryz.prog.info? 128).map (·.size) = some e.cells.toArray.size) := eng_info T.at'.shape
   have HO := all_oneCell_toArray (oneE e)
   have HLD : Hid ((loadVar 128 ⟨w.heap.size, 0, none⟩).run Tryz.prog WF = .ok (.agg e.cells.toArray) WF) := eng_load T.at'.shape bF
   have hs3 := N3.size
   have hRb : ∀ j ∈ e.blocks, W3.heap.size ≤ j := fun j hj => (T.fresh j hj).elim (fun h1 => by rw [hqb.out] at h1; cases h1) id
   have hR3 := bR3.lt
   have hoF := (T.at'.within hwF (by omega) (fun j hj => by have := hRb j hj; omega)).own
   have hcF := T.cur.within hwF (by omega)
   have hWin : Within B (B + 1) w WF := ⟨hwF.os.trans (T.touch.os.trans N3.os), hwF.tape.trans (T.touch.tape.trans N3.tape), hwF.output.trans (T.touch.output.trans N3.output), Nat.le_trans hs3 (Nat.le_trans T.touch.size hwF.size), fun j hj hn1 => (hwF.block j (by have := T.touch.size; omega) (by omega)).trans ((T.touch.block j (by omega) (by
    rw [hqb.out]
    simp only [List.mem_cons, List.not_mem_nil, or_false, not_or]
    exact ⟨by omega, by omega⟩)).trans (N3.block j hj))⟩
   have HEND : Hid (EngAns B zs w (.returned (.agg e.cells.toArray)) WF) := ⟨e, x, rfl, hx16, hd, T.at'.shape, hoF, fun j hj => by have := hRb j hj; omega, hcF, hWin⟩
   clear hRoff hRb hoF hcF hWin bF bRr hwF hsF hd
   go_wp2_with (first | (guard_target = wpList _ _ _ (Oper.mk (some 17) _ _ _ _ _ :: _) _ _; refine wpList_load_mid rfl 128 (.tmp 5) rfl w1.heap.size 0 rfl e.cells _ rE Tryz.underlying128 rfl HIe.out ?_) | (guard_target = wpList _ _ _ (Oper.mk none (Op.store _ (Operand.tmp 4) _) _ _ _ _ :: _) _ _; refine wpList_store_mid rfl 128 (.tmp 4) (.tmp 17) rfl w.heap.size 0 e.cells.toArray rfl rfl HTF.out HIe'.out HO ?_; rw [hWF.out]) | fail)
   exact bodyPost_ret (v := .agg e.cells.toArray) (results_one Tryz.results84 rfl HLD.out) rfl HEND.out
  | succ k =>
   have C5 := l7Some_any (x - (k + 1)) B w1.heap.size zs e wr T.cur hl T.at' T.low hd (by omega)
   go_wp2_with fail
   refine C5.mono ?_
   clear C5
   rintro r w5 ⟨⟨v5, rfl⟩, e5, hd5, t5⟩
   have T5 := T.after t5
   have hd5' : DrawE (x - k) e5.v := by rw [show x - k = x - (k + 1) + 1 by omega]; exact hd5
   clear hd5 t5 T
   go_wp2_with fail
   go_roundw
   case rel => exact ⟨k, e5, by go_num, by omega, hd5', T5⟩
   case measure => simp [intOf]
end Go.Proofs.YtoboickdkednkaaGreatDoor
namespace Go.Proofs.YtoboickdkednkaaGreatDoor
open Go.RowKit
theorem readsI_box {w : World} {g : Nat} {t : TypeId} (ns : List Int) (b : Box w g (ns.map (Value.int .i64)) t) : ReadsI w (some ⟨g, 0, none⟩) ns := fun _ => ⟨g, 0, rfl, fun i hi => by
 rw [Nat.zero_add]
 exact b.cell i _ (by simp [List.getD, hi])⟩
def Drawn (w w' : World) (B : Nat) (zs : List Int) (e : Ending) : Prop := ∃ t : RecA, e = .returned (.agg t.cells.toArray) ∧ t.short 10 ∧ t.own w' w.heap.size w'.heap.size ∧ CurAt w' B zs ∧ Within B (B + 1) w w'
end Go.Proofs.YtoboickdkednkaaGreatDoor