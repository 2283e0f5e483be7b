/- Several texts in one, in their order. -/
import Derived.Test.YtickiokdcbeefaaGreatDoorPFnLogsx30
import Derived.Test.YtickiokdcbeefaaGreatDoorPFnLogsx11
import Derived.Test.YtickiokdcbeefaaGreatDoorPFnLogsx7
import Derived.RangeFuncNested
import Derived.RangeFuncBound
import Derived.RangeFuncCalls
import Derived.RangeFuncLeaves
import Derived.Shelf.Abstract
import Derived.Shelf.RegionOpen
import Derived.WalkKit
import Derived.OwnWalkIn
import Derived.TacticsInMore
import Derived.LoopNIn
import Derived.LoopIn
import Derived.Test.YtickiokdcbeefaaGreatDoorPFnLogsx1
import Derived.Deep.MidRow
import Derived.Test.YtickiokdcbeefaaGreatDoorPFnLogsx12
import Derived.Test.YtickiokdcbeefaaGreatDoorPFnLogsx16
import Derived.Sort.CutIn
/- What of a log's bytes, cut anywhere, comes back. -/
namespace Go.Proofs.YtickiokdcbeefaaGreatDoor
open Go.RowKit

theorem groups_take (m : Nat) (hm : m < 2 ^ 64) : ∀ c, c < (groups m).length → lead ((groups m).take c) = ((groups m).take c).length := by
  refine groups_ind (fun m => ∀ c, c < (groups m).length → lead ((groups m).take c) = ((groups m).take c).length) ?_ ?_ m hm
  · intro m h c hc
    rw [groups_small m h] at hc ⊢
    have : c = 0 := by simp at hc; omega
    subst this
    rfl
  · intro m h1 h2 h3 c hc
    rw [groups_big m h1 h2] at hc ⊢
    cases c with
    | zero => rfl
    | succ c =>
      simp only [List.take_succ_cons, lead, List.length_cons]
      rw [if_pos (by omega), h3 c (by simpa using hc)]
theorem frame_len4 (y : List Int) : (frameOf y).length = (putOf y.length).length + y.length + 4 := by
  have h4 : (four (crcOf y)).length = 4 := by simp [four, fourTo]
  simp only [frameOf, List.length_append, h4]
/-- A frame comes back wherever it stands. -/
theorem frame_at (P T y : List Int) (h : y.length ≤ 1000000) : unfOf (P ++ (frameOf y ++ T)) P.length = (y, (P.length : Int) + (frameOf y).length, 0) := by
  have hc : clampI (y.length : Int) = y.length := by unfold clampI; rw [if_neg (by omega), if_neg (by omega)]
  have h4 : (four (crcOf y)).length = 4 := by simp [four, fourTo]
  have e : P ++ (frameOf y ++ T) = P ++ (putOf y.length ++ (y ++ (four (crcOf y) ++ T))) := by simp [frameOf]
  have hg : getAt (P ++ (frameOf y ++ T)) P.length = some ((y.length : Int), P.length + (putOf y.length).length) := by
    have := back_int P (y ++ (four (crcOf y) ++ T)) (y.length : Int)
    rw [hc] at this
    rw [e]
    exact this
  have hl := frame_len4 y
  have hd : (P ++ (frameOf y ++ T)).drop (P.length + (putOf y.length).length) = y ++ (four (crcOf y) ++ T) := by
    rw [e, ← List.append_assoc, ← List.length_append, List.drop_left]
  have hd2 : (P ++ (frameOf y ++ T)).drop (P.length + (putOf y.length).length + y.length) = four (crcOf y) ++ T := by
    rw [e, ← List.append_assoc, ← List.append_assoc, ← List.length_append, ← List.length_append, List.drop_left]
  rw [unf_good _ _ y.length _ hg (by simp only [List.length_append, hl]; omega) (by rw [hd, hd2, List.take_left, List.take_append_of_le_length (by omega), List.take_of_length_le (by omega)]), hd, List.take_left, hl]
  simp only [Prod.mk.injEq, true_and, and_true]
  omega
theorem scanWhy_ne (zs : List Int) (p : Int) : scanWhy zs p ≠ 0 := by
  unfold scanWhy
  split <;> decide
/-- A frame that is cut is none. -/
theorem frame_cut_at (P y : List Int) (c : Nat) (hc : c < (frameOf y).length) (h : y.length ≤ 1000000) : (unfOf (P ++ (frameOf y).take c) P.length).2.2 ≠ 0 := by
  have hcl : clampI (y.length : Int) = y.length := by unfold clampI; rw [if_neg (by omega), if_neg (by omega)]
  have hl := frame_len4 y
  by_cases hp : c < (putOf y.length).length
  · have e : (frameOf y).take c = (putOf y.length).take c := by
      rw [frameOf, List.append_assoc, List.take_append_of_le_length (by omega)]
    have hg : getAt (P ++ (frameOf y).take c) P.length = none := by
      rw [e, getAt_nat, List.drop_left]
      show Option.map _ (getOf ((groups (zig y.length)).take c)) = _
      rw [getOf_none _ (.inl (groups_take (zig y.length) (zig_lt _) c hp))]
      rfl
    rw [unf_none _ _ hg]
    exact scanWhy_ne _ _
  · have e : (frameOf y).take c = putOf y.length ++ (y ++ four (crcOf y)).take (c - (putOf y.length).length) := by
      rw [frameOf, List.append_assoc, List.take_append, List.take_of_length_le (by omega)]
    have hg : getAt (P ++ (frameOf y).take c) P.length = some ((y.length : Int), P.length + (putOf y.length).length) := by
      rw [e]
      have := back_int P ((y ++ four (crcOf y)).take (c - (putOf y.length).length)) (y.length : Int)
      rw [hcl] at this
      exact this
    rw [unf_end _ _ y.length _ hg (by simp only [List.length_append, List.length_take]; omega)]
    show (1 : Int) ≠ 0
    decide
theorem none_at (P : List Int) : (unfOf P P.length).2.2 ≠ 0 := by
  have := frame_cut_at P [] 0 (by rw [frame_len4]; omega) (by simp)
  simpa using this

def framesV (rs : List RecV) : List Int := rs.flatMap (fun r => frameOf (putRecOf r))
theorem framesV_app (a b : List RecV) : framesV (a ++ b) = framesV a ++ framesV b := by simp [framesV]
theorem framesV_one (r : RecV) : framesV [r] = frameOf (putRecOf r) := by simp [framesV]
theorem next_at (A : List RecV) (r : RecV) (T : List Int) (hok : okR r = true) (hn : r.lsn = (A.length : Int) + 1) :
    nextB (framesV A ++ (frameOf (putRecOf r) ++ T)) A.length (framesV A).length = true ∧ (pairR (unfOf (framesV A ++ (frameOf (putRecOf r) ++ T)) (framesV A).length).1).1 = r ∧ (unfOf (framesV A ++ (frameOf (putRecOf r) ++ T)) (framesV A).length).2.1 = ((framesV (A ++ [r])).length : Int) := by
  have h := frame_at (framesV A) T (putRecOf r) (by have := putRec_len r; omega)
  have hp := pair_back hok
  refine ⟨?_, ?_, ?_⟩
  · unfold nextB
    rw [h]
    simp only [hp, hn]
    simp
  · rw [h, hp]
  · rw [h, framesV_app, framesV_one, List.length_append]
    simp only
    omega
/-- What is read: all records that are there whole. -/
theorem read_frames (T : List Int) : ∀ (B A : List RecV) (n : Nat), B.length ≤ n → (∀ k, k < B.length → okR (B.getD k noR) = true ∧ (B.getD k noR).lsn = (A.length : Int) + k + 1) →
    (unfOf (framesV (A ++ B) ++ T) (framesV (A ++ B)).length).2.2 ≠ 0 →
    readFrom (framesV (A ++ B) ++ T) n A (framesV A).length = (A ++ B, ((framesV (A ++ B)).length : Int)) := by
  intro B
  induction B with
  | nil =>
    intro A n _ _ hT
    rw [List.append_nil] at hT ⊢
    refine readFrom_no ?_
    unfold nextB
    have : ((unfOf (framesV A ++ T) (framesV A).length).2.2 == 0) = false := by simpa using hT
    rw [this]
    rfl
  | cons r B ih =>
    intro A n hn hB hT
    obtain ⟨m, rfl⟩ : ∃ m, n = m + 1 := ⟨n - 1, by simp at hn; omega⟩
    have h0 := hB 0 (by simp)
    simp only [List.getD_cons_zero] at h0
    have e : framesV (A ++ r :: B) ++ T = framesV A ++ (frameOf (putRecOf r) ++ (framesV B ++ T)) := by
      rw [framesV_app, show r :: B = [r] ++ B from rfl, framesV_app, framesV_one]
      simp
    obtain ⟨g1, g2, g3⟩ := next_at A r (framesV B ++ T) h0.1 (by have := h0.2; simpa using this)
    rw [← e] at g1 g2 g3
    rw [readFrom_yes g1, g2, g3]
    have e2 : A ++ r :: B = (A ++ [r]) ++ B := by simp
    rw [e2] at hT ⊢
    refine ih (A ++ [r]) m (by simp at hn; omega) (fun k hk => ?_) hT
    have h1 := hB (k + 1) (by simpa using hk)
    simp only [List.getD_cons_succ] at h1
    refine ⟨h1.1, ?_⟩
    rw [h1.2]
    simp only [List.length_append, List.length_singleton]
    omega
/-- A beginning of the frames: some whole ones, and one that is cut. -/
theorem frames_split (rs : List RecV) : ∀ cut, cut < (framesV rs).length → ∃ j c, j < rs.length ∧ c < (frameOf (putRecOf (rs.getD j noR))).length ∧ (framesV rs).take cut = framesV (rs.take j) ++ (frameOf (putRecOf (rs.getD j noR))).take c ∧ (framesV (rs.take j)).length ≤ cut := by
  induction rs with
  | nil => intro cut h; simp [framesV] at h
  | cons r B ih =>
    intro cut h
    have e : framesV (r :: B) = frameOf (putRecOf r) ++ framesV B := by rw [show r :: B = [r] ++ B from rfl, framesV_app, framesV_one]
    by_cases hc : cut < (frameOf (putRecOf r)).length
    · refine ⟨0, cut, by simp, by simpa using hc, ?_, by simp [framesV]⟩
      rw [e, List.take_append_of_le_length (by omega)]
      simp [framesV]
    · rw [e, List.length_append] at h
      obtain ⟨j, c, h1, h2, h3, h4⟩ := ih (cut - (frameOf (putRecOf r)).length) (by omega)
      refine ⟨j + 1, c, by simpa using h1, by simpa using h2, ?_, ?_⟩
      · rw [e, List.take_append, List.take_of_length_le (by omega), h3]
        simp only [List.take_succ_cons, List.getD_cons_succ]
        rw [show r :: B.take j = [r] ++ B.take j from rfl, framesV_app, framesV_one]
        simp
      · simp only [List.take_succ_cons]
        rw [show r :: B.take j = [r] ++ B.take j from rfl, framesV_app, framesV_one, List.length_append]
        omega
theorem ok_part {l : LogV} (h : okLog l = true) (j : Nat) : ∀ k, k < (l.recs.take j).length → okR ((l.recs.take j).getD k noR) = true ∧ ((l.recs.take j).getD k noR).lsn = (([] : List RecV).length : Int) + k + 1 := by
  intro k hk
  obtain ⟨_, _, _, h3⟩ := okLog_yes h
  have hk2 : k < j ∧ k < l.recs.length := by simp only [List.length_take] at hk; omega
  have e : (l.recs.take j).getD k noR = l.recs.getD k noR := by simp [List.getD, hk2.1]
  rw [e]
  obtain ⟨g1, g2⟩ := h3 k hk2.2
  refine ⟨g2, ?_⟩
  rw [g1]
  simp
theorem read_whole {l : LogV} (h : okLog l = true) : readLogOf (logBytesOf l) = (l.recs, ((logBytesOf l).length : Int)) := by
  have e : logBytesOf l = framesV l.recs := by rw [logBytesOf, if_pos h]; rfl
  have hp := ok_part h l.recs.length
  rw [List.take_length] at hp
  have := read_frames [] l.recs [] 4000 (okLog_yes h).1 hp (by rw [List.append_nil]; exact none_at _)
  rw [e, readLogOf]
  simpa [framesV] using this
/-- A beginning of a log's bytes tells the records that are there whole. -/
theorem read_cut {l : LogV} (h : okLog l = true) (cut : Nat) (hc : cut < (logBytesOf l).length) : ∃ j, j < l.recs.length ∧ (readLogOf ((logBytesOf l).take cut)).1 = l.recs.take j ∧ (readLogOf ((logBytesOf l).take cut)).2 ≤ cut := by
  have e : logBytesOf l = framesV l.recs := by rw [logBytesOf, if_pos h]; rfl
  rw [e] at hc ⊢
  obtain ⟨j, c, h1, h2, h3, h4⟩ := frames_split l.recs cut hc
  refine ⟨j, h1, ?_⟩
  have hlen := (okLog_yes h).1
  have := read_frames ((frameOf (putRecOf (l.recs.getD j noR))).take c) (l.recs.take j) [] 4000 (by simp only [List.length_take]; omega) (ok_part h j) (by
    rw [List.nil_append]
    exact frame_cut_at _ _ c h2 (by have := putRec_len (l.recs.getD j noR); omega))
  rw [List.nil_append] at this
  rw [h3, readLogOf]
  have e0 : (((framesV []).length : Nat) : Int) = 0 := by simp [framesV]
  rw [e0] at this
  rw [this]
  exact ⟨rfl, by simp only; omega⟩
end Go.Proofs.YtickiokdcbeefaaGreatDoor

/- Steps of a walk inside a fence; a range over a function: its record, one call of yield, how a round ends. -/
namespace Go.Proofs.YtickiokdcbeefaaGreatDoor
open Go.RowKit Go.Shelf

theorem stepIn_value {F : Fence} {n : Nat} {P : Program} {ops : Array Oper} {rest : List Oper} {o : Oper} {a : Act} {w w' : World} {Q : Exit → Act → World → Prop} {v : Value} (hgd : o.guard = none) (hF : ∀ f, F.fn f) (hs : o.semAt F.round a.eval = execOp a.eval o)
    (hrun : (execOp a.eval o).run P w = .ok (.value v) w') (h : wpListIn F n P ops Q rest (a.put o.dst v) w') : wpListIn F n P ops Q (o :: rest) a w :=
  wpListIn_plain hgd fun K hK => ⟨fun f _ => hF f, by rw [hs, hrun, Oper.uponIn_value]; exact hK _ _ h⟩
theorem stepIn_skip {F : Fence} {n : Nat} {P : Program} {ops : Array Oper} {rest : List Oper} {o : Oper} {a : Act} {w w' : World} {Q : Exit → Act → World → Prop} (hgd : o.guard = none) (hF : ∀ f, F.fn f) (hs : o.semAt F.round a.eval = execOp a.eval o)
    (hrun : (execOp a.eval o).run P w = .ok .skip w') (h : wpListIn F n P ops Q rest (a.put o.dst undef) w') : wpListIn F n P ops Q (o :: rest) a w :=
  wpListIn_plain hgd fun K hK => ⟨fun f _ => hF f, by rw [hs, hrun, Oper.uponIn_skip]; exact hK _ _ h⟩

theorem loadIn_mid {F : Fence} {n : Nat} {P : Program} {ops : Array Oper} {rest : List Oper} {op : Oper} {a : Act} {w : World} {Q : Exit → Act → World → Prop} (hgd : op.guard = none) (hF : ∀ f, F.fn f) (hs : op.semAt F.round a.eval = execOp a.eval op) (ty : TypeId) (x : Operand) (ho : op.op = .load ty x)
    (b o : Nat) (hx : a.eval x = .pointer (some ⟨b, o, none⟩)) (cs : List Value) (d : TypeDesc) (hc : w.rangeAt b o cs)
    (hu : P.underlying ty = some d) (hd : d.isRow = true) (hi : (P.info? ty).map (·.size) = some cs.length)
    (h : wpListIn F n P ops Q rest (a.put op.dst (.agg cs.toArray)) w) : wpListIn F n P ops Q (op :: rest) a w := by
  refine stepIn_value hgd hF hs (v := .agg cs.toArray) ?_ h
  unfold execOp
  simp only [ho, hx, Instr.loadAt, Instr.sureAddr, Sem.run_bind, Sem.run_pure, Result.andThen_ok, run_loadVar_mid w b o ty cs d hc hu hd hi]
theorem storeIn_mid {F : Fence} {n : Nat} {P : Program} {ops : Array Oper} {rest : List Oper} {op : Oper} {a : Act} {w : World} {Q : Exit → Act → World → Prop} (hgd : op.guard = none) (hF : ∀ f, F.fn f) (hs : op.semAt F.round a.eval = execOp a.eval op) (ty : TypeId) (x y : Operand) (ho : op.op = .store ty x y)
    (b o : Nat) (cs : Array Value) (hx : a.eval x = .pointer (some ⟨b, o, none⟩)) (hy : a.eval y = .agg cs) (ht : w.there b o cs.size)
    (hi : (P.info? ty).map (·.size) = some cs.size) (h1 : cs.all (·.oneCell') = true)
    (h : wpListIn F n P ops Q rest (a.put op.dst undef) (w.setCells b o cs.toList)) : wpListIn F n P ops Q (op :: rest) a w := by
  refine stepIn_skip hgd hF hs ?_ h
  unfold execOp
  simp only [ho, hx, hy, Sem.run_bind, Sem.run_pure, Result.andThen_ok, run_storeAt_mid w b o ty cs ht hi h1]

/-- A range over a function that was made here: its record is laid, and the function is called with yield. -/
theorem rangeFunc_here {n : Nat} {P : Program} {g : Operand} {ps : Array Tmp} {assign body : Code} {Q : Exit → Act → World → Prop} {a : Act} {w : World} {gf : Nat} {lb : Array Value} (hg : a.eval g = .func (.func gf) #[] lb) (eg : ∀ args w, (callFunc gf args).run P w = .ok (.enter gf args) w)
    (h : ∀ (r : Loop) (W1 : World), r.state = .ready → r.pending = none → r.tmps = a.tmps → r.params = ps → r.assign = assign → r.body = body → W1.heap[w.heap.size + 1]? = some (.loop r) → W1.heap[w.heap.size]? = some (.deferred (some [])) → Below w.heap.size w W1 → W1.heap.size = w.heap.size + 2 →
      CallsIn Fence.wide (n - 1) P gf (#[.func (.yield (w.heap.size + 1)) #[] #[]] ++ lb) W1 (rangePost Fence.wide n P (w.heap.size + 1) Q { a with defers := [{ target := .collected w.heap.size, args := #[] }] ++ a.defers })) :
    (Code.rangeFunc g ps assign body).wpIn Fence.wide n P Q a w := by
  refine wpIn_rangeFunc ?_
  intro fn _
  obtain ⟨r, hr⟩ : ∃ r : Loop, ({ state := .ready, pending := none, fn := fn, tmps := a.tmps, params := ps, assign := assign, body := body, defers := w.heap.size } : Loop) = r := ⟨_, rfl⟩
  obtain ⟨W1, hW1⟩ : ∃ W1, (w.alloc (.deferred (some []))).alloc (.loop r) = W1 := ⟨_, rfl⟩
  have hL : W1.heap[w.heap.size + 1]? = some (.loop r) := by
    rw [← hW1]
    have := World.alloc_heap_new (w.alloc (.deferred (some []))) (.loop r)
    rwa [World.size_alloc] at this
  have hD : W1.heap[w.heap.size]? = some (.deferred (some [])) := by
    rw [← hW1]
    exact (Below.heap_alloc _ _ _ (by simp)).trans (World.alloc_heap_new w _)
  have hB : Below w.heap.size w W1 := by
    rw [← hW1]
    exact ((Below.refl _ w).alloc (Nat.le_refl _) _).alloc (by simp) _
  have hS : W1.heap.size = w.heap.size + 2 := by rw [← hW1]; simp
  have hc := h r W1 (by rw [← hr]) (by rw [← hr]) (by rw [← hr]) (by rw [← hr]) (by rw [← hr]) (by rw [← hr]) hL hD hB hS
  refine ⟨w.heap.size + 1, [{ target := .collected w.heap.size, args := #[] }], W1, { target := .fn (.func gf) lb, args := #[.func (.yield (w.heap.size + 1)) #[] #[]] }, W1, gf, #[.func (.yield (w.heap.size + 1)) #[] #[]] ++ lb, W1, ?_, ?_, ?_, ?_, ?_, ?_⟩
  · rw [← hW1, ← hr]
    exact run_enterLoop_outer fn a.tmps ps assign body
  · simp only [resolve, hg]
    simp [go_sem]
  · intro f' _
    trivial
  · simp [invoke, go_sem, eg]
  · intro hh
    have hn : Fence.wide.depth.isSome = false := rfl
    rw [hn] at hh
    cases hh
  · exact hc
theorem within_putObj (w : World) (l : Nat) (o : Obj) : Within l (l + 1) w (w.putObj l o) ∧ (w.putObj l o).heap.size = w.heap.size := by
  refine ⟨⟨rfl, rfl, rfl, by simp [World.putObj], fun k _ hn => World.putObj_heap_other (by omega)⟩, by simp [World.putObj]⟩
/-- One call of yield: the loop's variables are given, the record is busy, the body runs. -/
theorem yield_here {m : Nat} {P : Program} {l : Nat} {r : Loop} {args : Array Value} {W : World} {R : Ending → World → Prop} (hL : W.heap[l]? = some (.loop r)) (hs : args.size = r.params.size) (hrd : r.state = .ready)
    (h : r.assign.wpIn (Fence.wide.inRound l) m P (Exit.then (fun a1 w1 => w1.heap[l]? = some (.loop r) ∧ ∀ V, V.heap[l]? = some (.loop { r with state := .busy }) → Within l (l + 1) w1 V → V.heap.size = w1.heap.size → r.body.wpIn (Fence.wide.inRound l) m P (roundPost P l R) a1 V) (fun _ _ _ => False))
      { tmps := (r.params.zip args).foldl (fun t (p, v) => t.setIfInBounds p v) r.tmps, defers := [] } W) : YieldAt Fence.wide m P l args W R := by
  refine ⟨r.fn, _, r.assign, r.body, run_yield hL hs, roundIn_of_wpIn trivial (wpIn_mono h ?_)⟩
  intro e a1 w1 hp
  cases e with
  | normal => exact ⟨_, run_beginRound hp.1 hrd, hp.2 _ (World.putObj_heap_same (Array.getElem?_eq_some_iff.1 hp.1).1) (within_putObj w1 l _).1 (within_putObj w1 l _).2⟩
  | exit id => exact hp.elim
  | goto t => exact hp.elim
  | ret => exact hp.elim
  | panic ch => exact hp.elim
  | outgrown => exact hp.elim
/-- A round ends: its record says how. -/
theorem end_here {P : Program} {l : Nat} {r : Loop} {V : World} (jump : Option Code) (hL : V.heap[l]? = some (.loop r)) :
    ∃ X, (Instr.endRound l jump).run P V = .ok (.bool jump.isNone) X ∧ X.heap[l]? = some (.loop { r with state := if jump.isNone then .ready else .done, pending := jump }) ∧ Within l (l + 1) V X ∧ X.heap.size = V.heap.size :=
  ⟨_, run_endRound jump hL, World.putObj_heap_same (Array.getElem?_eq_some_iff.1 hL).1, (within_putObj V l _).1, (within_putObj V l _).2⟩
/-- A round that leaves by a jump. -/
theorem end_break {P : Program} {l : Nat} {r : Loop} {V : World} (c : Code) (hL : V.heap[l]? = some (.loop { r with state := .busy })) :
    ∃ X, (Instr.endRound l (some c)).run P V = .ok (.bool false) X ∧ X.heap[l]? = some (.loop { r with state := .done, pending := some c }) ∧ Within l (l + 1) V X ∧ X.heap.size = V.heap.size :=
  end_here (r := { r with state := .busy }) (some c) hL
/-- A round that goes on. -/
theorem end_go {P : Program} {l : Nat} {r : Loop} {V : World} (hst : r.state = .ready) (hpd : r.pending = none) (hL : V.heap[l]? = some (.loop { r with state := .busy })) :
    ∃ X, (Instr.endRound l none).run P V = .ok (.bool true) X ∧ X.heap[l]? = some (.loop r) ∧ Within l (l + 1) V X ∧ X.heap.size = V.heap.size := by
  obtain ⟨X, h1, h2, h3, h4⟩ := end_here (P := P) (r := { r with state := .busy }) none hL
  refine ⟨X, h1, ?_, h3, h4⟩
  rw [h2]
  cases r
  simp only at hst hpd
  subst hst hpd
  rfl
end Go.Proofs.YtickiokdcbeefaaGreatDoor

/- The walk of impl.readFramed. -/
namespace Go.Proofs.YtickiokdcbeefaaGreatDoor
open Go.RowKit

/-- What stands at p: a record, the place behind it, and whether it is one. -/
def frmOf (zs : List Int) (p : Int) : RecV × Int × Bool := if (unfOf zs p).2.2 = 0 then ((pairR (unfOf zs p).1).1, (unfOf zs p).2.1, (pairR (unfOf zs p).1).2) else (noR, p, false)
theorem pairR_off {zs : List Int} (h : (pairR zs).2 = false) : (pairR zs).1 = noR := by
  unfold pairR at h ⊢
  cases hg : getR zs with
  | some x => rw [hg] at h; cases h
  | none => rfl
theorem frm_next (zs : List Int) (k : Nat) (p : Int) : nextB zs k p = ((frmOf zs p).1.lsn == (k : Int) + 1) := by
  unfold nextB frmOf
  by_cases h : (unfOf zs p).2.2 = 0
  · rw [if_pos h, h]
    cases h2 : (pairR (unfOf zs p).1).2 with
    | true => simp
    | false =>
      rw [pairR_off h2]
      simp only [noR]
      have : ((0 : Int) == (k : Int) + 1) = false := by simp only [beq_eq_false_iff_ne]; omega
      simp [this]
  · rw [if_neg h]
    have h0 : ((unfOf zs p).2.2 == 0) = false := by simpa using h
    have : ((0 : Int) == (k : Int) + 1) = false := by simp only [beq_eq_false_iff_ne]; omega
    simp [h0, noR, this]
theorem frm_go {zs : List Int} {k : Nat} {p : Int} (h : nextB zs k p = true) : (frmOf zs p).1 = (pairR (unfOf zs p).1).1 ∧ (frmOf zs p).2.1 = (unfOf zs p).2.1 ∧ (frmOf zs p).2.2 = true := by
  unfold nextB at h
  simp only [Bool.and_eq_true, beq_iff_eq] at h
  unfold frmOf
  rw [if_pos h.1]
  exact ⟨rfl, rfl, h.2.1⟩

theorem results_rec {P : Program} {fn : Func} {s s1 s2 : Nat} {ty : TypeId} {tmps : Array Value} {w : World} {v : Value} {ad : Addr} (hf : fn.results = #[.cell s ty, .tmp s1, .tmp s2]) (hl : (loadVar ty ad).run P w = .ok v w) (ht : tmps[s]?.getD undef = .pointer (some ad)) : (results fn tmps).run P w = .ok (.tuple #[v, tmps[s1]?.getD undef, tmps[s2]?.getD undef]) w := by
  unfold results
  rw [hf]
  simp [ht, asAddr, hl]

set_option maxHeartbeats 4000000 in
set_option maxRecDepth 100000 in
theorem readFramed_any (a : Option Addr) (c : Nat) (zs : List Int) (p : Int) (w : World) (hg : ErrT w) (hr : Reads w a zs) (hl : zs.length ≤ 1099511627776) (hcap : zs.length ≤ c) :
    Calls Tryz.prog 59 #[.slice a zs.length c, .int .i64 p] w fun e w' => ∃ t : RecA, e = .returned (.tuple #[.agg t.cells.toArray, .int .i64 (frmOf zs p).2.1, .bool (frmOf zs p).2.2]) ∧ Hid (t.v = (frmOf zs p).1) ∧ t.own w' w.heap.size w'.heap.size ∧ Below w.heap.size w w' := by
  obtain ⟨W, hW, b0, hbW, hsW⟩ := boxes1 w [.int .i64 0, .int .i64 0, .int .i64 0, .int .i64 0, .int .i64 0, .bool false, .int .i64 0, .slice none 0 0, .slice none 0 0, .bool false, .int .i64 0, .slice none 0 0, .slice none 0 0, .int .i64 0, .slice none 0 0] 42
  have hs0 := b0.lt
  clear hsW
  have HI : Hid ((Tryz.prog.info? 42).map (·.size) = some 15) := by rw [Hid]; kernel_rfl
  have C := implUnframe_any a c zs p W (hr.below hbW) (by omega) hcap
  have HBy : Hid (((unfOf zs p).1).length ≤ zs.length) := unf_len zs p
  have HNO : Hid (¬ (unfOf zs p).2.2 = 0 → frmOf zs p = (noR, p, false)) := fun h => by unfold frmOf; rw [if_neg h]
  have HYES : Hid ((unfOf zs p).2.2 = 0 → frmOf zs p = ((pairR (unfOf zs p).1).1, (unfOf zs p).2.1, (pairR (unfOf zs p).1).2)) := fun h => by unfold frmOf; rw [if_pos h]
  generalize frmOf zs p = FR at *
  go_enter Tryz.func59, Tryz.ntmps59
  go_wp2_with fail
  rw [hW.out]
  clear hW
  refine C.mono ?_
  clear C
  rintro e w1 ⟨a1, c1, ys, q, code, rfl, HUF, o1, hb1⟩
  have hs1 := hb1.size
  have HU2 : Hid (unfOf zs p = (ys, q, code)) := HUF.out
  rw [HU2.out] at HBy HNO HYES
  simp only at HBy HNO HYES
  have hyl := HBy.out
  have b01 := b0.below hb1 b0.lt
  have D1 : Below w.heap.size w w1 := hbW.trans (hb1.mono hbW.size)
  clear HUF HU2 b0
  by_cases h1 : code = 0
  case neg =>
    have h1b : (code != 0) = true := by simpa using h1
    have HV : Hid (FR = (noR, p, false)) := HNO.out h1
    obtain ⟨WF, hWF, hwF, hsF, HTF, HLF, bF⟩ := rec_out zeroR _ rfl b01
    have hoF : zeroR.own WF w.heap.size WF.heap.size := own_zeroR _ _ _ (Nat.le_refl _)
    have hbF : Below w.heap.size w WF := D1.trans (hwF.below (by omega) (by omega))
    have hOz := rec_one zeroR
    clear hwF hsF bF b01 HNO HYES
    go_wp2_with (first | (guard_target = wpList _ _ _ (Oper.mk none (Op.store _ (Operand.tmp 4) _) _ _ _ _ :: _) _ _; refine wpList_store_mid rfl 42 (.tmp 4) (.tmp 21) rfl w.heap.size 0 zeroR.cells.toArray rfl rfl HTF.out HI.out hOz ?_) | fail)
    have HW : Hid (w1.setCells w.heap.size 0 zeroR.cells.toArray.toList = WF) := hWF.out
    rw [HW.out]
    exact bodyPost_ret (v := .tuple #[.agg zeroR.cells.toArray, .int .i64 p, .bool false]) (results_rec Tryz.results59 HLF.out rfl) rfl ⟨zeroR, by rw [HV.out], by rw [Hid, HV.out]; rfl, hoF, hbF⟩
  case pos =>
    subst h1
    have HV : Hid (FR = ((pairR ys).1, q, (pairR ys).2)) := HYES.out rfl
    have C := implGetRec_any a1 c1 ys w1 (hg.keep D1) o1.reads (by omega) o1.cap
    unfold GotR at C
    generalize (pairR ys).2 = ok at *
    generalize (pairR ys).1 = rv at *
    clear HNO HYES
    go_wp2_with fail
    refine C.mono ?_
    clear C o1
    rintro e w2 ⟨t, rfl, hv, ot, hb2⟩
    have hs2 := hb2.size
    have b02 := b01.below hb2 b01.lt
    have D2 : Below w.heap.size w w2 := D1.trans (hb2.mono D1.size)
    obtain ⟨W3, hW3, z3, hb3, hs3⟩ := boxes1 w2 [.int .i64 0, .int .i64 0, .int .i64 0, .int .i64 0, .int .i64 0, .bool false, .int .i64 0, .slice none 0 0, .slice none 0 0, .bool false, .int .i64 0, .slice none 0 0, .slice none 0 0, .int .i64 0, .slice none 0 0] 42
    obtain ⟨W4, hW4, hw4, hs4, HT4, _, z4⟩ := rec_out t _ rfl z3
    have N4 : Below w2.heap.size w2 W4 := hb3.trans (hw4.below (Nat.le_refl _) (by omega))
    have b04 := b02.below N4 b02.lt
    have ot4 := ot.below N4
    have D4 : Below w.heap.size w W4 := D2.trans (N4.mono D2.size)
    have R4 : Hid (W4.rangeAt w2.heap.size 0 t.cells) := Box.range [] t.cells [] (by simpa using z4)
    obtain ⟨WF, hWF, hwF, hsF, HTF, HLF, bF⟩ := rec_out t _ rfl b04
    have hs4' := N4.size
    have hoF : t.own WF w.heap.size WF.heap.size := (ot4.within hwF (.inr (by omega))).widen (by omega) (by omega) (Nat.le_refl _)
    have hbF : Below w.heap.size w WF := D4.trans (hwF.below (by omega) (by omega))
    have hOt := rec_one t
    have HVT : Hid (t.v = rv) := hv.out
    clear hwF hsF bF z3 z4 hb3 hw4 hs3 hs4 hv ot ot4 b01 b02 b04 N4
    go_wp2_with (first | (guard_target = wpList _ _ _ (Oper.mk none (Op.store _ (Operand.tmp 10) _) _ _ _ _ :: _) _ _; refine wpList_store_mid rfl 42 (.tmp 10) (.tmp 26) rfl w2.heap.size 0 t.cells.toArray rfl rfl (by rw [hW3.out]; exact HT4.out) HI.out hOt ?_) | (guard_target = wpList _ _ _ (Oper.mk (some 28) _ _ _ _ _ :: _) _ _; refine wpList_load_mid rfl 42 (.tmp 10) rfl w2.heap.size 0 rfl t.cells _ (by rw [hW3.out, hW4.out]; exact R4.out) Tryz.underlying42 rfl HI.out ?_) | (guard_target = wpList _ _ _ (Oper.mk none (Op.store _ (Operand.tmp 4) _) _ _ _ _ :: _) _ _; refine wpList_store_mid rfl 42 (.tmp 4) (.tmp 28) rfl w.heap.size 0 t.cells.toArray rfl rfl (by rw [hW3.out, hW4.out]; exact HTF.out) HI.out hOt ?_) | fail)
    rw [hW3.out, hW4.out, hWF.out]
    exact bodyPost_ret (v := .tuple #[.agg t.cells.toArray, .int .i64 q, .bool ok]) (results_rec Tryz.results59 HLF.out rfl) rfl ⟨t, by rw [HV.out], by rw [Hid, HV.out]; exact HVT.out, hoF, hbF⟩
end Go.Proofs.YtickiokdcbeefaaGreatDoor

/- Records loaded, stored, laid and appended, as steps of a walk inside a fence. -/
namespace Go.Proofs.YtickiokdcbeefaaGreatDoor
open Go.RowKit Go.Shelf

set_option maxRecDepth 100000 in
theorem build_recIn {F : Fence} {n : Nat} {w : World} {ops : Array Oper} {rest : List Oper} {dst : Option Nat} {ty : TypeId} {pos : String} {aft : Array Edge} {act : Act} {Q : Exit → Act → World → Prop} (hF : ∀ f, F.fn f) (x : Operand)
    (hs : Oper.semAt F.round act.eval { dst := dst, op := .buildSlice 24 1 #[(0, x)], type := ty, pos := pos, after := aft, guard := none } = execOp act.eval { dst := dst, op := .buildSlice 24 1 #[(0, x)], type := ty, pos := pos, after := aft, guard := none })
    (q : RecA) (hx : act.eval x = .agg q.cells.toArray)
    (h : wpListIn F n Tryz.prog ops Q rest (act.put dst (.slice (some ⟨w.heap.size, 0, none⟩) 1 1)) (w.alloc (.cells q.cells.toArray 42))) :
    wpListIn F n Tryz.prog ops Q ({ dst := dst, op := .buildSlice 24 1 #[(0, x)], type := ty, pos := pos, after := aft, guard := none } :: rest) act w := by
  refine stepIn_value rfl hF hs (v := .slice (some ⟨w.heap.size, 0, none⟩) 1 1) ?_ h
  unfold execOp
  simp only [List.map_toArray, List.map_cons, List.map_nil, hx]
  go_simp
  simp only [cellsR_len, lit_rec, not_true_eq_false, Nat.lt_irrefl, or_self, if_false]
  go_simp
theorem append_recIn {F : Fence} {n : Nat} {w : World} {ops : Array Oper} {rest : List Oper} {o : Oper} {act : Act} {Q : Exit → Act → World → Prop} (hgd : o.guard = none) (hF : ∀ f, F.fn f) (hsm : o.semAt F.round act.eval = execOp act.eval o) (s x : Operand)
    (ho : o.op = .call { callee := .builtin .append, args := #[s, x], argTypes := #[24, 24] })
    (lo hi : Nat) (a : Option Addr) (c : Nat) (rs : List RecA) (hs : act.eval s = .slice a rs.length c) (hown : OwnRs w lo hi a c rs)
    (b off : Nat) (sc : Nat) (q : RecA) (hx : act.eval x = .slice (some ⟨b, off, none⟩) 1 sc) (hr : w.rangeAt b off q.cells) (l u : Nat) (hq : q.own w l u) (hl : hi ≤ l) (hu : u ≤ w.heap.size)
    (hb : rs.length + 1 ≤ 68719476736) (hlo : lo ≤ hi)
    (h : ∀ a' c' w', OwnRs w' lo w'.heap.size a' c' (rs ++ [q]) → w.grownBy w' (Value.slice a rs.length c).ownBlock → wpListIn F n Tryz.prog ops Q rest (act.put o.dst (.slice a' (rs ++ [q]).length c')) w') :
    wpListIn F n Tryz.prog ops Q (o :: rest) act w := by
  obtain ⟨a', c', w', hrun, h2, h3⟩ := run_append_rec (w := w) o.type lo hi a c rs hown b off sc q hr l u hq hl hu hb hlo
  refine stepIn_value hgd hF hsm ?_ (h a' c' w' h2 h3)
  unfold execOp
  simp only [ho, resolve, invoke, builtin, Sem.run_bind, Sem.run_pure, Result.andThen_ok, List.map_toArray, List.map_cons, List.map_nil, hs, hx, hrun]

end Go.Proofs.YtickiokdcbeefaaGreatDoor

/- The walk of the iterator that impl.framedRecs makes. -/
namespace Go.Proofs.YtickiokdcbeefaaGreatDoor
open Go.RowKit Go.Shelf
attribute [local go_sem] Oper.semAt_some

set_option maxHeartbeats 4000000 in
set_option maxRecDepth 100000 in
theorem framed_in (m L B3 : Nat) (a : Option Addr) (c : Nat) (zs : List Int) (hl : zs.length ≤ 1099511627776) (hcap : zs.length ≤ c) (M : World → Nat) (J : List RecA → Int → Nat → World → Prop) (Jx : World → Prop)
    (hJ : ∀ ts p h W, J ts p h W → Box W B3 [.slice a zs.length c] 22 ∧ ErrT W ∧ Reads W a zs ∧ M W = 4000 - ts.length ∧ h ≤ W.heap.size)
    (hJb : ∀ ts p h W W', J ts p h W → Below W.heap.size W W' → J ts p h W')
    (hY : ∀ ts p h (t : RecA) W l u, J ts p h W → t.v = (frmOf zs p).1 → t.own W l u → h ≤ l → u ≤ W.heap.size → YieldAt Fence.wide m Tryz.prog L #[.agg t.cells.toArray, .int .i64 (frmOf zs p).2.1] W fun e W' =>
      (e = .returned (.bool true) ∧ (frmOf zs p).2.2 = true ∧ ts.length < 4000 ∧ J (ts ++ [t]) (frmOf zs p).2.1 W'.heap.size W') ∨ (e = .returned (.bool false) ∧ Jx W'))
    (W : World) (h0 : J [] 0 W.heap.size W) :
    CallsIn Fence.wide (m + 1) Tryz.prog 58 #[.func (.yield L) #[] #[], .pointer (some ⟨B3, 0, none⟩)] W fun e W' => (∃ v, e = .returned v) ∧ Jx W' := by
  have HI : Hid ((Tryz.prog.info? 42).map (·.size) = some 15) := by rw [Hid]; kernel_rfl
  refine callsIn_of_wp Tryz.func58 rfl trivial ?_ rfl
  simp only [Tryz.ntmps58, List.size_toArray, List.length_cons, List.length_nil, Nat.reduceAdd, Nat.reduceSub, Array.replicate_succ, Array.replicate_zero, List.push_toArray, List.append_toArray, List.nil_append, List.cons_append]
  gi_wp2
  gi_loopw [3, 4] (fun v g wr => ∃ (ts : List RecA) (p : Int) (h : Nat), v = .int .i64 p ∧ g = .bool true ∧ J ts p h wr) (fun _ _ wr => M wr)
  case atStart => exact ⟨[], 0, _, rfl, rfl, h0⟩
  case round =>
    obtain ⟨ts, p, h, rfl, rfl, hj⟩ := hrel
    obtain ⟨bx, hg, hrd, hM, hh⟩ := hJ ts p h wr hj
    obtain ⟨W1, hW1, z1, hb1, hs1⟩ := boxes1 wr [.int .i64 0, .int .i64 0, .int .i64 0, .int .i64 0, .int .i64 0, .bool false, .int .i64 0, .slice none 0 0, .slice none 0 0, .bool false, .int .i64 0, .slice none 0 0, .slice none 0 0, .int .i64 0, .slice none 0 0] 42
    have hlt1 := z1.lt
    have hs1' := hb1.size
    clear hs1
    have bx1 := bx.below hb1 bx.lt
    have C := readFramed_any a c zs p W1 (hg.keep hb1) (hrd.below hb1) hl hcap
    have x0 := bx1.cell 0 _ rfl
    gi_upto_region 3 with fail
    rw [hW1.out]
    clear hW1
    gi_wp2_with fail
    refine ⟨trivial, ?_⟩
    gi_at_call 59
    refine (callsIn_wide.2 C).mono ?_
    clear C x0
    rintro e w2 ⟨t, rfl, hv, ot, hb2⟩
    have hs2 := hb2.size
    have z2 := z1.below hb2 z1.lt
    have bx2 := bx1.below hb2 bx1.lt
    obtain ⟨W3, hW3, hw3, hs3, HT3, _, z3⟩ := rec_out t _ rfl z2
    have hs3a := Nat.le_of_eq hs3
    have hs3b := Nat.le_of_eq hs3.symm
    clear hs3
    have R3 : Hid (W3.rangeAt wr.heap.size 0 t.cells) := Box.range [] t.cells [] (by simpa using z3)
    have ot3 : t.own W3 W1.heap.size w2.heap.size := ot.within hw3 (.inr (by omega))
    have B3' : Below wr.heap.size wr W3 := (hb1.trans (hb2.mono hs1')).trans (hw3.below (Nat.le_refl _) (by omega))
    have hj3 := hJb ts p h wr W3 hj B3'
    have hOt := rec_one t
    obtain ⟨fn, tmps, assign, body, hy, hR⟩ := hY ts p h t W3 W1.heap.size w2.heap.size hj3 hv.out ot3 (by omega) (by omega)
    have HN : Hid (∀ W' : World, J (ts ++ [t]) (frmOf zs p).2.1 W'.heap.size W' → M W' = 4000 - (ts.length + 1)) := fun W' hh => by have := (hJ _ _ _ _ hh).2.2.2.1; simpa using this
    clear hj hj3 bx bx1 bx2 z1 z2 z3 hb1 hb2 hw3 ot ot3 B3' hv hg hrd
    generalize (frmOf zs p).2.1 = q at *
    generalize (frmOf zs p).2.2 = ok at *
    gi_upto_region 4 with (first | (guard_target = wpListIn _ _ _ _ _ (Oper.mk none (Op.store _ (Operand.tmp 5) _) _ _ _ _ :: _) _ _; refine storeIn_mid rfl (fun _ => trivial) rfl 42 (.tmp 5) (.tmp 11) rfl wr.heap.size 0 t.cells.toArray rfl rfl HT3.out HI.out hOt ?_) | fail)
    rw [hW3.out]
    clear hW3 HT3 hOt
    gi_wp2_with (first | (guard_target = wpListIn _ _ _ _ _ (Oper.mk (some 15) _ _ _ _ _ :: _) _ _; refine loadIn_mid rfl (fun _ => trivial) rfl 42 (.tmp 5) rfl wr.heap.size 0 rfl t.cells _ R3.out Tryz.underlying42 rfl HI.out ?_) | fail)
    refine hR.mono ?_
    rintro e W4 (⟨rfl, rfl, hlt, hj4⟩ | ⟨rfl, hx4⟩)
    · have HMM : Hid (M W4 = 4000 - (ts.length + 1)) := HN.out W4 hj4
      have HMW : Hid (M wr = 4000 - ts.length) := hM
      clear hM
      gi_wp2
      go_roundw
      case rel => exact ⟨ts ++ [t], q, _, rfl, rfl, hj4⟩
      case measure => rw [HMM.out, HMW.out]; omega
    · gi_wp2
      exact bodyPost_ret (results_none rfl _ _ _) rfl ⟨⟨_, rfl⟩, hx4⟩
end Go.Proofs.YtickiokdcbeefaaGreatDoor
