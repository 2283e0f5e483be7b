/- Several texts in one, in their order. -/
import Derived.Test.YtickiokdcbeefabPCleanx20
import Derived.Deep.LoopGhost
import Derived.Test.YtickiokdcbeefabPCleanx17
import Derived.Test.YtickiokdcbeefabPCleanx13
import Derived.Deep.MidRow
import Derived.Laws.Tables
import Derived.Test.YtickiokdcbeefabPCleanx14
import Derived.Deep.RegionLaw
import Derived.Deep.DrawnRows
import Derived.Test.YtickiokdcbeefabPCleanx10
import Derived.Test.YtickiokdcbeefabPCleanx11
import Derived.Test.YtickiokdcbeefabPCleanx5
import Derived.Test.YtickiokdcbeefabPCleanx15
/- Who goes from a pool that is full: the walk of spec.l6Victim. -/
namespace Go.Proofs.Ytickiokdcbeefab
open Go.RowKit

def zeroStV : SeatV := zeroSt.v
def coldV (s : SeatV) : SeatV := { s with hot := false }
/-- From the hand on: a seat that is hot is so no longer; the first one that is not. -/
def victimV : Nat → List SeatV → Nat → List SeatV × Nat × Nat
  | 0, ss, h => (ss, h, 0)
  | n + 1, ss, h => if (ss.getD h zeroStV).hot = true then victimV n (ss.set h (coldV (ss.getD h zeroStV))) ((h + 1) % 3) else (ss, (h + 1) % 3, h)
def hots (ss : List SeatV) : Nat := (ss.filter (·.hot)).length
def SeatA.cold (s : SeatA) : SeatA := { s with hot := false }
theorem cold_v (s : SeatA) : s.cold.v = coldV s.v := rfl
theorem cold_cells (s : SeatA) : s.cold.cells = s.cells.set 19 (.bool false) := rfl
theorem seatV_at (ls : List SeatA) (k : Nat) : (ls.map SeatA.v).getD k zeroStV = (ls.getD k zeroSt).v := by
  simp only [List.getD, List.getElem?_map]
  cases ls[k]? <;> rfl
theorem seat_set (ls : List SeatA) (k : Nat) (s : SeatA) (hk : k < ls.length) : ls.set k s = ls.take k ++ s :: ls.drop (k + 1) := by
  rw [List.set_eq_take_append_cons_drop, if_pos hk]
theorem hots_set (ls : List SeatV) (k : Nat) (hk : k < ls.length) (hh : (ls.getD k zeroStV).hot = true) : hots (ls.set k (coldV (ls.getD k zeroStV))) + 1 = hots ls := by
  induction ls generalizing k with
  | nil => simp at hk
  | cons s r ih =>
    cases k with
    | zero =>
      simp only [List.getD_cons_zero] at hh
      simp [hots, coldV, hh]
    | succ k =>
      simp only [List.getD_cons_succ] at hh ⊢
      have := ih k (by simpa using hk) hh
      simp only [hots, List.set_cons_succ, List.filter_cons] at this ⊢
      split <;> simp_all <;> omega
theorem hots_le (ls : List SeatV) : hots ls ≤ ls.length := List.length_filter_le _ _
theorem victim_len (n : Nat) (ls : List SeatV) (h : Nat) : (victimV n ls h).1.length = ls.length := by
  induction n generalizing ls h with
  | zero => rfl
  | succ n ih =>
    rw [victimV]
    split
    · rw [ih]; simp
    · rfl
theorem victim_hand (n : Nat) (ls : List SeatV) (h : Nat) (hh : h < 3) : (victimV n ls h).2.1 < 3 ∧ (victimV n ls h).2.2 < 3 := by
  induction n generalizing ls h with
  | zero => exact ⟨hh, by show 0 < 3; omega⟩
  | succ n ih =>
    rw [victimV]
    split
    · exact ih _ _ (Nat.mod_lt _ (by omega))
    · exact ⟨Nat.mod_lt _ (by omega), hh⟩

theorem victim_step (n : Nat) (ts : List SeatA) (k : Nat) : victimV (n + 1) (ts.map SeatA.v) k = if (ts.getD k zeroSt).hot = true then victimV n ((ts.map SeatA.v).set k (coldV (ts.getD k zeroSt).v)) ((k + 1) % 3) else (ts.map SeatA.v, (k + 1) % 3, k) := by
  rw [victimV, seatV_at]
  rfl

structure PoolAt (w : World) (lo hi B o : Nat) (vs : List Value) (t : TypeId) (a : Option Addr) (c : Nat) (ss : List SeatA) (hand : Int) : Prop where
  box : Box w B vs t
  c0 : vs[o]? = some (.slice a ss.length c)
  c1 : vs[o + 1]? = some (.int .i64 hand)
  own : OwnSts w lo hi a c ss
  off : B ∉ blocksSts a c ss
theorem blocksSts_len {a : Option Addr} {c n : Nat} {ss ts : List SeatA} (h : ss.length = n) (h2 : ts.length = n) (hb : ss.flatMap SeatA.blocks = ts.flatMap SeatA.blocks) : blocksSts a c ss = blocksSts a c ts := by
  unfold blocksSts; rw [h, h2, hb]
theorem cold_blocks (ls : List SeatA) (k : Nat) (hk : k < ls.length) : (ls.set k (ls.getD k zeroSt).cold).flatMap SeatA.blocks = ls.flatMap SeatA.blocks := by
  rw [seat_set _ _ _ hk]
  conv => rhs; rw [seatD_split ls k hk]
  simp only [List.flatMap_append, List.flatMap_cons]
  rfl

end Go.Proofs.Ytickiokdcbeefab

/- Appending a seat, a record, as a step of a region that draws its order: where the row lies behind it. -/
namespace Go.Proofs.Ytickiokdcbeefab
open Go.RowKit

theorem run_append_seat {w : World} (ty : TypeId) (lo hi : Nat) (a : Option Addr) (c : Nat) (rs : List SeatA) (hown : OwnSts w lo hi a c rs)
    (b off : Nat) (sc : Nat) (q : SeatA) (hr : w.rangeAt b off q.cells) (l u : Nat) (hq : q.own w l u) (hl : hi ≤ l) (hu : u ≤ w.heap.size)
    (hb : rs.length + 1 ≤ 68719476736) (hlo : lo ≤ hi) :
    ∃ a' c' w', (Builtin.append_ #[27, 27] ty #[.slice a rs.length c, .slice (some ⟨b, off, none⟩) 1 sc]).run Try.prog w = .ok (.slice a' (rs ++ [q]).length c') w' ∧ OwnSts w' lo w'.heap.size a' c' (rs ++ [q]) ∧ w.grownBy w' (Value.slice a rs.length c).ownBlock ∧
      (∀ k, (Value.slice a' (rs ++ [q]).length c').ownBlock = some k → (Value.slice a rs.length c).ownBlock = some k ∨ k = w.heap.size) := by
  obtain ⟨i0, hi0, hz0, hz1, hz2⟩ := info_parts Try.infoSeat
  have hqb := hq.blocks_lt
  have htop := hown.top
  obtain ⟨v', w', hrun, h1, h2, _, h5⟩ := run_append_own_at (P := Try.prog) w lo 27 ty 44 i0 (.agg zeroSt.cells.toArray) 20 280 Try.underlying27 hi0 hz0 hz1 hz2 rfl (by decide) _ _ _ hown.row ⟨b, off, none⟩ 1 sc q.cells (by rfl) (by
    intro j v hj
    rw [Addr_add]
    exact hr j v hj) (oneSt q) (by simp only [maxLen]; omega) (by omega) (by omega)
  have e : cellsSts rs ++ q.cells = cellsSts (rs ++ [q]) := by rw [cellsSts_app, cellsSts_cons]; simp [cellsSts]
  have e2 : rs.length + 1 = (rs ++ [q]).length := by simp
  rw [e, e2] at h1
  have sh : ∃ a' c', v' = .slice a' (rs ++ [q]).length c' := by
    rcases h1.2 with ⟨rfl, h0⟩ | ⟨g, cap, cur, rfl, _⟩
    · simp at h0
    · exact ⟨_, _, rfl⟩
  obtain ⟨a', c', rfl⟩ := sh
  have hsz := h2.size
  have ht : Touch (Value.slice a rs.length c).ownBlock.toList w w' := Touch.of_grown h2 (fun k hk => Option.mem_toList.2 hk)
  have hrow := h1.lt
  have hold : ∀ r ∈ rs, r.own w' lo w'.heap.size := fun r hr => ((hown.each r hr).touch ht (fun k hk hk' => (List.nodup_append.1 hown.apart).2.2 k hk' k (List.mem_flatMap.2 ⟨r, hr, hk⟩) rfl)).widen (Nat.le_refl _) (by omega) (Nat.le_refl _)
  have hnew : q.own w' lo w'.heap.size := (hq.touch ht (fun k hk hk' => by have := hqb k hk; have := hown.blk k (Option.mem_toList.1 hk'); omega)).widen (by omega) (by omega) (Nat.le_refl _)
  refine ⟨a', c', w', hrun, ⟨h1, Nat.le_refl _, fun k hk => (hrow k hk).2, fun r hr => ?_, ?_⟩, h2, fun k hk => h5.elim (fun h5 => .inl (by rw [← h5]; exact hk)) (fun h5 => by rw [h5] at hk; exact .inr (Option.some.inj hk).symm)⟩
  · rcases List.mem_append.1 hr with hr | hr
    · exact hold r hr
    · obtain rfl := List.mem_singleton.1 hr
      exact hnew
  · rw [List.flatMap_append, List.nodup_append, List.nodup_append]
    have hap := (List.nodup_append.1 hown.apart).2.1
    have hin : ∀ x ∈ rs.flatMap SeatA.blocks, lo ≤ x ∧ x < hi := fun x hx => by
      obtain ⟨r, hr, hx⟩ := List.mem_flatMap.1 hx
      exact (hown.each r hr).blocks_lt x hx
    refine ⟨by cases (Value.slice a' (rs ++ [q]).length c').ownBlock <;> simp, ⟨hap, by simpa using hq.apart, fun x hx y hy e => ?_⟩, fun x hx y hy e => ?_⟩
    · have := hin x hx
      simp only [List.flatMap_cons, List.flatMap_nil, List.append_nil] at hy
      have := hqb y hy
      omega
    · have hx' := Option.mem_toList.1 hx
      subst e
      rcases List.mem_append.1 hy with hy | hy
      · obtain ⟨r, hr, hy⟩ := List.mem_flatMap.1 hy
        exact rowSt_apart h1 (hold r hr) x hx' hy
      · simp only [List.flatMap_cons, List.flatMap_nil, List.append_nil] at hy
        exact rowSt_apart h1 hnew x hx' hy

theorem step_append_seat {w : World} {ops : Array Oper} {o : Oper} {act : Act} {K : Act → World → Prop} {Q : Exit → Act → World → Prop} {E : Prop} (hgd : o.guard = none) (s x : Operand)
    (ho : o.op = .call { callee := .builtin .append, args := #[s, x], argTypes := #[27, 27] })
    (lo hi : Nat) (a : Option Addr) (c : Nat) (rs : List SeatA) (hs : act.eval s = .slice a rs.length c) (hown : OwnSts w lo hi a c rs)
    (b off : Nat) (sc : Nat) (q : SeatA) (hx : act.eval x = .slice (some ⟨b, off, none⟩) 1 sc) (hr : w.rangeAt b off q.cells) (l u : Nat) (hq : q.own w l u) (hl : hi ≤ l) (hu : u ≤ w.heap.size)
    (hb : rs.length + 1 ≤ 68719476736) (hlo : lo ≤ hi)
    (h : ∀ a' c' w', OwnSts w' lo w'.heap.size a' c' (rs ++ [q]) → w.grownBy w' (Value.slice a rs.length c).ownBlock → (∀ k, (Value.slice a' (rs ++ [q]).length c').ownBlock = some k → (Value.slice a rs.length c).ownBlock = some k ∨ k = w.heap.size) → K (act.put o.dst (.slice a' (rs ++ [q]).length c')) w') :
    if Region.wanted o (yielded ops act.tmps) = true then Oper.wp Try.prog o act w K Q else E := by
  have hw : Region.wanted o (yielded ops act.tmps) = true := by simp [Region.wanted, hgd]
  rw [if_pos hw]
  obtain ⟨a', c', w', hrun, h2, h3, h4⟩ := run_append_seat (w := w) o.type lo hi a c rs hown b off sc q hr l u hq hl hu hb hlo
  unfold Oper.wp
  simp [execOp, ho, resolve, invoke, builtin, hs, hx, hrun, Result.andThen]
  have := h a' c' w' h2 h3 h4
  rw [List.length_append, List.length_singleton] at this
  exact this
end Go.Proofs.Ytickiokdcbeefab

/- A seat made by a literal. -/
namespace Go.Proofs.Ytickiokdcbeefab
open Go.RowKit

set_option maxHeartbeats 1000000 in
set_option maxRecDepth 100000 in
theorem build_seat {w : World} {ops : Array Oper} {rest : List Oper} {dst : Option Nat} {ty : TypeId} {pos : String} {aft : Array Edge} {act : Act} {Q : Exit → Act → World → Prop} (x y : Operand) (no lsn : Int) (a b c d : SlotA)
    (hx : act.eval x = .int .i64 no) (hy : act.eval y = .agg (PageA.cells ⟨lsn, [a, b, c, d]⟩).toArray)
    (h : wpList Try.prog ops Q rest (act.put dst (.agg (SeatA.cells ⟨no, lsn, a, b, c, d, false, true⟩).toArray)) w) :
    wpList Try.prog ops Q ({ dst := dst, op := .build 44 #[(0, x), (1, y), (3, .const (.bool true))], type := ty, pos := pos, after := aft, guard := none } :: rest) act w := by
  refine wpList_plain rfl fun K hK => ?_
  unfold Oper.wp execOp
  simp only [List.map_toArray, List.map_cons, List.map_nil, hx, hy]
  have e : (Instr.build 44 #[(0, Value.int .i64 no), (1, Value.agg (PageA.cells ⟨lsn, [a, b, c, d]⟩).toArray), (3, Value.bool true)]).run Try.prog w = .ok (.agg (SeatA.cells ⟨no, lsn, a, b, c, d, false, true⟩).toArray) w := run_build w _ _ _ (by kernel_rfl)
  have ec : act.eval (.const (.bool true)) = .bool true := rfl
  rw [ec]
  simp only [Sem.run_bind, e, Result.andThen_ok, Sem.run_pure]
  exact hK _ _ h
theorem build_zero_seat {w : World} {ops : Array Oper} {rest : List Oper} {dst : Option Nat} {ty : TypeId} {pos : String} {aft : Array Edge} {act : Act} {Q : Exit → Act → World → Prop}
    (h : wpList Try.prog ops Q rest (act.put dst (.agg zeroSt.cells.toArray)) w) :
    wpList Try.prog ops Q ({ dst := dst, op := .build 44 #[], type := ty, pos := pos, after := aft, guard := none } :: rest) act w := by
  refine wpList_plain rfl fun K hK => ?_
  unfold Oper.wp execOp
  have e : (Instr.build 44 #[]).run Try.prog w = .ok (.agg zeroSt.cells.toArray) w := run_build w _ _ _ (by kernel_rfl)
  simp only [List.map_toArray, List.map_nil, Sem.run_bind, e, Result.andThen_ok, Sem.run_pure]
  exact hK _ _ h
theorem lit_seat (q : SeatA) : List.foldl (fun cs x => cs.setIfInBounds x.snd x.fst) (#[.int .i64 0, .int .i64 0, .bool false, .int .i64 0, .slice none 0 0, .slice none 0 0, .bool false, .int .i64 0, .slice none 0 0, .slice none 0 0, .bool false, .int .i64 0, .slice none 0 0, .slice none 0 0, .bool false, .int .i64 0, .slice none 0 0, .slice none 0 0, .bool false, .bool false] : Array Value) q.cells.zipIdx = q.cells.toArray := by simp [SeatA.cells, SlotA.cells, List.zipIdx]
theorem seat_one (q : SeatA) : q.cells.toArray.all (·.oneCell') = true := all_oneCell_toArray (oneSt q)
theorem seat_info (q : SeatA) : (Try.prog.info? 44).map (·.size) = some q.cells.length := by show _ = some 20; kernel_rfl
theorem seat_load {w : World} {C : Nat} (q : SeatA) (b : Box w C q.cells 44) : (loadVar 44 ⟨C, 0, none⟩).run Try.prog w = .ok (.agg q.cells.toArray) w :=
  run_loadVar_mid (P := Try.prog) w C 0 44 q.cells _ (Box.range [] q.cells [] (by simpa using b)) Try.underlying44 rfl (seat_info q)
theorem seat_out {w : World} {C : Nat} (q : SeatA) (old : List Value) (ho : old.length = 20) (bC : Box w C old 44) :
    ∃ WF, Hid (w.setCells C 0 q.cells = WF) ∧ Within C (C + 1) w WF ∧ WF.heap.size = w.heap.size ∧ Hid (w.there C 0 q.cells.toArray.size) ∧ Hid ((loadVar 44 ⟨C, 0, none⟩).run Try.prog WF = .ok (.agg q.cells.toArray) WF) ∧ Box WF C q.cells 44 := by
  obtain ⟨WF, hWF, bF, hwF, hsF⟩ := range_fill [] old q.cells [] (by simpa using bC) (by rw [ho]; rfl)
  have bF' : Box WF C q.cells 44 := by simpa using bF
  exact ⟨WF, hWF, hwF, hsF, bC.there 0 _ (by rw [ho]; show 0 + 20 ≤ 20; decide), seat_load q bF', bF'⟩
end Go.Proofs.Ytickiokdcbeefab

/- A page brought into a pool: the walk of spec.l6Bring. -/
namespace Go.Proofs.Ytickiokdcbeefab
open Go.RowKit
attribute [local go_sem ↓] Go.wp_at_zero Go.wp_at_succ

theorem four_slots {ts : List SlotA} (h : ts.length = 4) : ∃ a b c d, ts = [a, b, c, d] := by
  match ts, h with
  | [a, b, c, d], _ => exact ⟨a, b, c, d, rfl⟩
def newSt (no lsn : Int) (a b c d : SlotA) : SeatA := ⟨no, lsn, a, b, c, d, false, true⟩

def bringV (ss : List SeatV) (h : Nat) (new : SeatV) : List SeatV × Nat × SeatV × Bool :=
  if ss.length < 3 then (ss ++ [new], h, zeroStV, false) else ((victimV 4 ss h).1.set (victimV 4 ss h).2.2 new, (victimV 4 ss h).2.1, (victimV 4 ss h).1.getD (victimV 4 ss h).2.2 zeroStV, true)
/-- Behind Bring: the pool ts, and who went. -/
structure Brought (lo B o : Nat) (vs : List Value) (t : TypeId) (a : Option Addr) (c : Nat) (ss : List SeatA) (w w' : World) (ts : List SeatA) (a' : Option Addr) (c' hand' : Nat) (old : SeatA) : Prop where
  pool : PoolAt w' lo w'.heap.size B o ((vs.set o (.slice a' ts.length c')).set (o + 1) (.int .i64 hand')) t a' c' ts hand'
  fresh : ∀ k ∈ blocksSts a' c' ts, k ∈ blocksSts a c ss ∨ w.heap.size ≤ k
  touch : Touch (B :: blocksSts a c ss) w w'
  went : old.own w' lo w'.heap.size
  wentB : ∀ k ∈ old.blocks, k ∈ blocksSts a c ss
def BringAns (lo B o : Nat) (vs : List Value) (t : TypeId) (a : Option Addr) (c : Nat) (ss : List SeatA) (h : Nat) (new : SeatV) (w : World) (r : Ending) (w' : World) : Prop :=
  ∃ (ts : List SeatA) (a' : Option Addr) (c' hand' : Nat) (old : SeatA) (went : Bool), r = .returned (.tuple #[.agg old.cells.toArray, .bool went]) ∧ Hid (bringV (ss.map SeatA.v) h new = (ts.map SeatA.v, hand', old.v, went)) ∧ Brought lo B o vs t a c ss w w' ts a' c' hand' old
theorem PoolAt.below {w w' : World} {lo hi B o : Nat} {vs : List Value} {t : TypeId} {a : Option Addr} {c : Nat} {ss : List SeatA} {hand : Int} (h : PoolAt w lo hi B o vs t a c ss hand) (hb : Below w.heap.size w w') : PoolAt w' lo hi B o vs t a c ss hand :=
  ⟨h.box.below hb h.box.lt, h.c0, h.c1, h.own.below hb, h.off⟩
theorem zeroS_own (w : World) (lo hi : Nat) (h : hi ≤ w.heap.size) : zeroS.own w lo hi := ⟨ownI_nil w lo hi h, ownI_nil w lo hi h, fun k h1 _ => by cases h1⟩
theorem zeroSt_blocks : zeroSt.blocks = [] := rfl
theorem zeroSt_own (w : World) (lo hi : Nat) (h : hi ≤ w.heap.size) : zeroSt.own w lo hi := ⟨fun s hs => by
  simp only [SeatA.ss, zeroSt, List.mem_cons, List.not_mem_nil, or_false] at hs
  have : s = zeroS := by rcases hs with h | h | h | h <;> exact h
  subst this
  exact zeroS_own w lo hi h, by show ([] : List Nat).Nodup; simp⟩
theorem set_set_ne {vs : List Value} {o : Nat} {x y : Value} (h : vs[o + 1]? = some y) : (vs.set o x).set (o + 1) y = vs.set o x := by
  have h1 : (vs.set o x)[o + 1]? = some y := by rw [List.getElem?_set_ne (by omega)]; exact h
  obtain ⟨_, h2⟩ := List.getElem?_eq_some_iff.1 h1
  rw [← h2, List.set_getElem_self]

end Go.Proofs.Ytickiokdcbeefab

/- What a pool must be, and what its functions make of it. -/
namespace Go.Proofs.Ytickiokdcbeefab
open Go.RowKit

theorem seatFrom_at (ss : List SeatV) : ∀ (no : Int) (b k : Nat), k < ss.length → (ss.getD k zeroStV).no = no → (∀ j, j < k → (ss.getD j zeroStV).no ≠ no) → seatFrom no ss b = ((b + k : Nat) : Int) := by
  induction ss with
  | nil => intro no b k h; simp at h
  | cons s r ih =>
    intro no b k hk he hn
    rw [seatFrom]
    cases k with
    | zero => simp only [List.getD_cons_zero] at he; rw [if_pos he]; simp
    | succ k =>
      have h0 := hn 0 (by omega)
      simp only [List.getD_cons_zero] at h0
      simp only [List.getD_cons_succ] at he
      rw [if_neg h0, ih no (b + 1) k (by simpa using hk) he (fun j hj => by have := hn (j + 1) (by omega); simpa using this)]
      omega
theorem seatFrom_none (ss : List SeatV) : ∀ (no : Int) (b : Nat), (∀ j, j < ss.length → (ss.getD j zeroStV).no ≠ no) → seatFrom no ss b = -1 := by
  induction ss with
  | nil => intro no b _; rfl
  | cons s r ih =>
    intro no b hn
    have h0 := hn 0 (by simp)
    simp only [List.getD_cons_zero] at h0
    rw [seatFrom, if_neg h0, ih no (b + 1) (fun j hj => by have := hn (j + 1) (by simpa using hj); simpa using this)]
theorem seated_at {ss : List SeatV} {no : Int} {k : Nat} (hk : k < ss.length) (he : (ss.getD k zeroStV).no = no) (hn : ∀ j, j < k → (ss.getD j zeroStV).no ≠ no) : seatedOf ss no = k := by
  have := seatFrom_at ss no 0 k hk he hn
  simpa [seatedOf] using this
theorem seated_none {ss : List SeatV} {no : Int} (hn : ∀ j, j < ss.length → (ss.getD j zeroStV).no ≠ no) : seatedOf ss no = -1 := seatFrom_none ss no 0 hn
/-- Where the first of this No is, or that there is none. -/
theorem seated_cases (ss : List SeatV) (no : Int) : (∃ k : Nat, k < ss.length ∧ (ss.getD k zeroStV).no = no ∧ (∀ j, j < k → (ss.getD j zeroStV).no ≠ no) ∧ seatedOf ss no = k) ∨ ((∀ j, j < ss.length → (ss.getD j zeroStV).no ≠ no) ∧ seatedOf ss no = -1) := by
  by_cases h : ∃ k, k < ss.length ∧ (ss.getD k zeroStV).no = no
  · have hm : ∃ k, (k < ss.length ∧ (ss.getD k zeroStV).no = no) ∧ ∀ j, j < k → ¬ (j < ss.length ∧ (ss.getD j zeroStV).no = no) := by
      obtain ⟨k, hk⟩ := h
      induction k using Nat.strongRecOn with
      | _ k ih =>
        by_cases h2 : ∃ j, j < k ∧ (j < ss.length ∧ (ss.getD j zeroStV).no = no)
        · obtain ⟨j, hj, hp⟩ := h2
          exact ih j hj hp
        · exact ⟨k, hk, fun j hj hp => h2 ⟨j, hj, hp⟩⟩
    obtain ⟨k, ⟨h1, h2⟩, h3⟩ := hm
    have h4 : ∀ j, j < k → (ss.getD j zeroStV).no ≠ no := fun j hj e => h3 j hj ⟨by omega, e⟩
    exact .inl ⟨k, h1, h2, h4, seated_at h1 h2 h4⟩
  · have h2 : ∀ j, j < ss.length → (ss.getD j zeroStV).no ≠ no := fun j hj e => h ⟨j, hj, e⟩
    exact .inr ⟨h2, seated_none h2⟩

def seatB (s : SeatV) : Bool := inB s.no 0 7 && okP s.lsn s.ss
/-- One seat is right, and no other of its No stands ahead of it. -/
def freshAt (ss : List SeatV) (i : Nat) : Bool := seatB (ss.getD i zeroStV) && decide (seatedOf ss (ss.getD i zeroStV).no = i)
def okPool (p : PoolV) : Bool := decide (p.seats.length ≤ 3) && (inB p.hand 0 2 && (List.range p.seats.length).all (freshAt p.seats))
theorem okPool_long {p : PoolV} (h : ¬ p.seats.length ≤ 3) : okPool p = false := by simp [okPool, h]
theorem okPool_hand {p : PoolV} (h : inB p.hand 0 2 = false) : okPool p = false := by simp [okPool, h]
theorem okPool_no {p : PoolV} (k : Nat) (hk : k < p.seats.length) (h : freshAt p.seats k = false) : okPool p = false := by
  have : (List.range p.seats.length).all (freshAt p.seats) = false := by
    rw [List.all_eq_false]
    exact ⟨k, List.mem_range.2 hk, by simp [h]⟩
  simp [okPool, this]
theorem okPool_yes {p : PoolV} (h1 : p.seats.length ≤ 3) (h2 : inB p.hand 0 2 = true) (h : ∀ k, k < p.seats.length → freshAt p.seats k = true) : okPool p = true := by
  have : (List.range p.seats.length).all (freshAt p.seats) = true := by
    rw [List.all_eq_true]
    exact fun k hk => h k (List.mem_range.1 hk)
  simp [okPool, this, h1, h2]
theorem okPool_iff {p : PoolV} (h : okPool p = true) : p.seats.length ≤ 3 ∧ inB p.hand 0 2 = true ∧ ∀ k, k < p.seats.length → freshAt p.seats k = true := by
  simp only [okPool, Bool.and_eq_true, decide_eq_true_eq, List.all_eq_true] at h
  exact ⟨h.1, h.2.1, fun k hk => h.2.2 k (List.mem_range.2 hk)⟩
theorem fresh_bad {ss : List SeatV} {i : Nat} (h : seatB (ss.getD i zeroStV) = false) : freshAt ss i = false := by simp only [freshAt, h, Bool.false_and]
theorem fresh_dup {ss : List SeatV} {i k : Nat} (hk : k < i) (hi : i < ss.length) (he : (ss.getD k zeroStV).no = (ss.getD i zeroStV).no) : freshAt ss i = false := by
  have : seatedOf ss (ss.getD i zeroStV).no ≠ (i : Int) := by
    rcases seated_cases ss (ss.getD i zeroStV).no with ⟨j, h1, h2, h3, h4⟩ | ⟨h1, _⟩
    · rw [h4]
      intro e
      have : j = i := by omega
      subst this
      exact h3 k hk he
    · exact absurd rfl (h1 i hi)
  rw [freshAt, decide_eq_false this, Bool.and_false]
theorem fresh_yes {ss : List SeatV} {i : Nat} (hi : i < ss.length) (hb : seatB (ss.getD i zeroStV) = true) (h : ∀ k, k < i → (ss.getD k zeroStV).no ≠ (ss.getD i zeroStV).no) : freshAt ss i = true := by
  have := seated_at hi rfl h
  rw [freshAt, hb, decide_eq_true this]
  rfl

/-- The k-th seat becomes another. -/
def setSeatV (p : PoolV) (k : Nat) (f : SeatV → SeatV) : PoolV := ⟨p.seats.set k (f (p.seats.getD k zeroStV)), p.hand⟩
def usedV (s : SeatV) : SeatV := { s with hot := true }
def cleanV (s : SeatV) : SeatV := { s with dirty := false }
def usedOf (p : PoolV) (no : Int) : PoolV := if 0 ≤ seatedOf p.seats no then setSeatV p (seatedOf p.seats no).toNat usedV else p
def cleanOf (p : PoolV) (no : Int) : PoolV := if 0 ≤ seatedOf p.seats no then setSeatV p (seatedOf p.seats no).toNat cleanV else p
def mayChange (p : PoolV) (no lsn : Int) (ss : List SlotV) : Bool := okPool p && (decide (0 ≤ seatedOf p.seats no) && (okP lsn ss && decide ((p.seats.getD (seatedOf p.seats no).toNat zeroStV).lsn ≤ lsn)))
def changeOf6 (p : PoolV) (no lsn : Int) (ss : List SlotV) : PoolV × Bool :=
  if mayChange p no lsn ss = true then (setSeatV p (seatedOf p.seats no).toNat (fun _ => ⟨no, lsn, ss, true, true⟩), true) else (p, false)
def victimOf (p : PoolV) : PoolV × Int :=
  if okPool p = true ∧ p.seats.length = 3 then (⟨(victimV 4 p.seats p.hand.toNat).1, (victimV 4 p.seats p.hand.toNat).2.1⟩, (victimV 4 p.seats p.hand.toNat).2.2) else (p, -1)
def mayBring (p : PoolV) (no lsn : Int) (ss : List SlotV) : Bool := okPool p && (inB no 0 7 && (okP lsn ss && decide (seatedOf p.seats no < 0)))
def bringOf (p : PoolV) (no lsn : Int) (ss : List SlotV) : PoolV × SeatV × Bool :=
  if mayBring p no lsn ss = true then (⟨(bringV p.seats p.hand.toNat ⟨no, lsn, ss, false, true⟩).1, (bringV p.seats p.hand.toNat ⟨no, lsn, ss, false, true⟩).2.1⟩, (bringV p.seats p.hand.toNat ⟨no, lsn, ss, false, true⟩).2.2.1, (bringV p.seats p.hand.toNat ⟨no, lsn, ss, false, true⟩).2.2.2) else (p, zeroStV, false)
end Go.Proofs.Ytickiokdcbeefab

/- What the laws of pages share. -/
namespace Go.Proofs.Ytickiokdcbeefab
open Go.RowKit

theorem map_len4 {ss ts : List SlotA} (h : ts.map (·.v) = ss.map (·.v)) (h4 : ss.length = 4) : ts.length = 4 := by
  have := congrArg List.length h
  simp only [List.length_map] at this
  omega
theorem small_of {ss ts : List SlotA} (h : ts.map (·.v) = ss.map (·.v)) (hl : ∀ s ∈ ss, s.v.o.ints.length ≤ 1048576 ∧ s.v.o.refs.length ≤ 1048576) : ∀ s ∈ ts, s.v.o.ints.length ≤ 1048576 ∧ s.v.o.refs.length ≤ 1048576 := by
  intro t ht
  have : t.v ∈ ss.map (·.v) := by rw [← h]; exact List.mem_map.2 ⟨t, ht, rfl⟩
  obtain ⟨s, hs, e⟩ := List.mem_map.1 this
  rw [← e]
  exact hl s hs
theorem wide_of {ss : List SlotA} (hl : ∀ s ∈ ss, s.v.o.ints.length ≤ 1048576 ∧ s.v.o.refs.length ≤ 1048576) : ∀ s ∈ ss, s.v.o.ints.length ≤ 1099511627776 ∧ s.v.o.refs.length ≤ 1099511627776 := fun s hs => by have := hl s hs; omega

end Go.Proofs.Ytickiokdcbeefab
