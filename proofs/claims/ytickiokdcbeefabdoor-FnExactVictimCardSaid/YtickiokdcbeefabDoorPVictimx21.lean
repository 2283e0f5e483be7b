/- Several texts in one, in their order. -/
import Derived.Test.YtickiokdcbeefabDoorPVictimx20
import Derived.Deep.LoopGhost
import Derived.Test.YtickiokdcbeefabDoorPVictimx17
import Derived.Test.YtickiokdcbeefabDoorPVictimx13
import Derived.Deep.MidRow
import Derived.Laws.Tables
/- Who goes from a pool that is full: the walk of spec.l6Victim. -/
namespace Go.Proofs.YtickiokdcbeefabDoor
open Go.RowKit

def zeroStV : SeatV := zeroSt.v
def coldV (s : SeatV) : SeatV := { s with hot := false }
/-- From the hand on: a seat that is hot is so no longer; the first one that is not. -/
def victimV : Nat → List SeatV → Nat → List SeatV × Nat × Nat
  | 0, ss, h => (ss, h, 0)
  | n + 1, ss, h => if (ss.getD h zeroStV).hot = true then victimV n (ss.set h (coldV (ss.getD h zeroStV))) ((h + 1) % 3) else (ss, (h + 1) % 3, h)
def hots (ss : List SeatV) : Nat := (ss.filter (·.hot)).length
def SeatA.cold (s : SeatA) : SeatA := { s with hot := false }
theorem cold_v (s : SeatA) : s.cold.v = coldV s.v := rfl
theorem cold_cells (s : SeatA) : s.cold.cells = s.cells.set 19 (.bool false) := rfl
theorem seatV_at (ls : List SeatA) (k : Nat) : (ls.map SeatA.v).getD k zeroStV = (ls.getD k zeroSt).v := by
  simp only [List.getD, List.getElem?_map]
  cases ls[k]? <;> rfl
theorem seat_set (ls : List SeatA) (k : Nat) (s : SeatA) (hk : k < ls.length) : ls.set k s = ls.take k ++ s :: ls.drop (k + 1) := by
  rw [List.set_eq_take_append_cons_drop, if_pos hk]
theorem hots_set (ls : List SeatV) (k : Nat) (hk : k < ls.length) (hh : (ls.getD k zeroStV).hot = true) : hots (ls.set k (coldV (ls.getD k zeroStV))) + 1 = hots ls := by
  induction ls generalizing k with
  | nil => simp at hk
  | cons s r ih =>
    cases k with
    | zero =>
      simp only [List.getD_cons_zero] at hh
      simp [hots, coldV, hh]
    | succ k =>
      simp only [List.getD_cons_succ] at hh ⊢
      have := ih k (by simpa using hk) hh
      simp only [hots, List.set_cons_succ, List.filter_cons] at this ⊢
      split <;> simp_all <;> omega
theorem hots_le (ls : List SeatV) : hots ls ≤ ls.length := List.length_filter_le _ _
theorem victim_len (n : Nat) (ls : List SeatV) (h : Nat) : (victimV n ls h).1.length = ls.length := by
  induction n generalizing ls h with
  | zero => rfl
  | succ n ih =>
    rw [victimV]
    split
    · rw [ih]; simp
    · rfl
theorem victim_hand (n : Nat) (ls : List SeatV) (h : Nat) (hh : h < 3) : (victimV n ls h).2.1 < 3 ∧ (victimV n ls h).2.2 < 3 := by
  induction n generalizing ls h with
  | zero => exact ⟨hh, by show 0 < 3; omega⟩
  | succ n ih =>
    rw [victimV]
    split
    · exact ih _ _ (Nat.mod_lt _ (by omega))
    · exact ⟨Nat.mod_lt _ (by omega), hh⟩

theorem victim_step (n : Nat) (ts : List SeatA) (k : Nat) : victimV (n + 1) (ts.map SeatA.v) k = if (ts.getD k zeroSt).hot = true then victimV n ((ts.map SeatA.v).set k (coldV (ts.getD k zeroSt).v)) ((k + 1) % 3) else (ts.map SeatA.v, (k + 1) % 3, k) := by
  rw [victimV, seatV_at]
  rfl

structure PoolAt (w : World) (lo hi B o : Nat) (vs : List Value) (t : TypeId) (a : Option Addr) (c : Nat) (ss : List SeatA) (hand : Int) : Prop where
  box : Box w B vs t
  c0 : vs[o]? = some (.slice a ss.length c)
  c1 : vs[o + 1]? = some (.int .i64 hand)
  own : OwnSts w lo hi a c ss
  off : B ∉ blocksSts a c ss
theorem blocksSts_len {a : Option Addr} {c n : Nat} {ss ts : List SeatA} (h : ss.length = n) (h2 : ts.length = n) (hb : ss.flatMap SeatA.blocks = ts.flatMap SeatA.blocks) : blocksSts a c ss = blocksSts a c ts := by
  unfold blocksSts; rw [h, h2, hb]
theorem cold_blocks (ls : List SeatA) (k : Nat) (hk : k < ls.length) : (ls.set k (ls.getD k zeroSt).cold).flatMap SeatA.blocks = ls.flatMap SeatA.blocks := by
  rw [seat_set _ _ _ hk]
  conv => rhs; rw [seatD_split ls k hk]
  simp only [List.flatMap_append, List.flatMap_cons]
  rfl

set_option maxHeartbeats 2000000 in
set_option maxRecDepth 100000 in
theorem l6Victim_any (lo hi B o : Nat) (vs : List Value) (t : TypeId) (a : Option Addr) (c : Nat) (ss : List SeatA) (h : Nat) (w : World) (hp : PoolAt w lo hi B o vs t a c ss h) (h3 : ss.length = 3) (hh : h < 3) :
    Calls Tryd.prog 27 #[.pointer (some ⟨B, o, none⟩)] w fun r w' => ∃ (ts : List SeatA) (k hand : Nat), r = .returned (.int .i64 k) ∧ Hid (victimV 4 (ss.map SeatA.v) h = (ts.map SeatA.v, hand, k)) ∧ ts.length = 3 ∧ PoolAt w' lo hi B o (vs.set (o + 1) (.int .i64 hand)) t a c ts hand ∧ Hid (blocksSts a c ts = blocksSts a c ss) ∧ Touch (B :: blocksSts a c ss) w w' := by
  have hv1 : o + 1 < vs.length := (List.getElem?_eq_some_iff.1 hp.c1).1
  go_enter Tryd.func27, Tryd.ntmps27
  go_wp2_with fail
  go_loopg [2] 4 (fun n v wr => ∃ (ts : List SeatA) (k : Nat), v = .int .i64 0 ∧ k < 3 ∧ ts.length = 3 ∧ PoolAt wr lo hi B o (vs.set (o + 1) (.int .i64 (k : Int))) t a c ts k ∧ Hid (victimV 4 (ss.map SeatA.v) h = victimV n (ts.map SeatA.v) k) ∧ hots (ts.map SeatA.v) < n ∧ Hid (blocksSts a c ts = blocksSts a c ss) ∧ Touch (B :: blocksSts a c ss) w wr)
  case atStart =>
    have e : vs.set (o + 1) (.int .i64 (h : Int)) = vs := by
      obtain ⟨_, hg⟩ := List.getElem?_eq_some_iff.1 hp.c1
      rw [← hg]; simp
    refine ⟨ss, h, rfl, hh, h3, by rw [e]; exact hp, rfl, ?_, rfl, Touch.refl _ _⟩
    have := hots_le (ss.map SeatA.v)
    rw [List.length_map] at this
    omega
  case round =>
    obtain ⟨ts, k, rfl, hk, hlen, pt, hv, hhot, hbl, htc⟩ := hrel
    clear hp h3 hh
    have vlen : (vs.set (o + 1) (.int .i64 (k : Int))).length = vs.length := by simp
    have x1 : wr.cell? ⟨B, o + 1, none⟩ = some (.int .i64 (k : Int)) := pt.box.cell (o + 1) _ pt.c1
    have f1 := pt.box.frozen (o + 1)
    obtain ⟨g, rfl⟩ : ∃ g, a = some ⟨g, 0, none⟩ := by
      rcases pt.own.row.2 with ⟨_, h0⟩ | ⟨g, cap', cur, hv, _⟩
      · omega
      · simp only [Value.slice.injEq] at hv; exact ⟨g, hv.1⟩
    have hmem : g ∈ blocksSts (some ⟨g, 0, none⟩) c ts := by simp [blocksSts, Value.ownBlock]
    have hgB : B ≠ g := fun e => pt.off (e ▸ hmem)
    obtain ⟨W1, hW1, b1, hw1, hs1⟩ := box_set pt.box (o + 1) (.int .i64 (((k + 1) % 3 : Nat) : Int))
    rw [List.set_set] at b1
    have t1 : Touch [B] wr W1 := ⟨hw1.os, hw1.tape, hw1.output, hw1.size, fun j hj hn => hw1.block j hj (fun hh => hn (by simp; omega))⟩
    have o1 : OwnSts W1 lo hi (some ⟨g, 0, none⟩) c ts := pt.own.touch t1 (fun j hj hh => pt.off (by rw [← List.mem_singleton.1 hh]; exact hj))
    have c0 : (vs.set (o + 1) (.int .i64 (((k + 1) % 3 : Nat) : Int)))[o]? = some (.slice (some ⟨g, 0, none⟩) ts.length c) := by
      have := pt.c0
      rw [List.getElem?_set_ne (by omega)] at this ⊢
      exact this
    have c1 : (vs.set (o + 1) (.int .i64 (((k + 1) % 3 : Nat) : Int)))[o + 1]? = some (.int .i64 (((k + 1) % 3 : Nat) : Int)) := List.getElem?_set_self hv1
    have y0 := b1.cell o _ c0
    have C0 : Hid (_ = _) := c0
    have C1 : Hid (_ = _) := c1
    have r1 := (row_seat o1.row rfl k (by omega)).1 19 _ (show (ts.getD k zeroSt).cells[19]? = some (.bool (ts.getD k zeroSt).hot) from rfl)
    have rf1 := o1.row.frozenAt (k * 20 + 19)
    have HT1 : Hid (Touch (B :: blocksSts (some ⟨g, 0, none⟩) c ss) w W1) := htc.trans (t1.mono (by simp))
    have hoff : B ∉ blocksSts (some ⟨g, 0, none⟩) c ts := pt.off
    have HST : Hid (victimV 4 (ss.map SeatA.v) h = victimV gk (ts.map SeatA.v) k) := hv
    have hkb : (k : Int) < (ts.length : Int) := by omega
    have hk0 : (0 : Int) ≤ (k : Int) := by omega
    have HM : Hid (wr.setCell ⟨B, o + 1, none⟩ (.int .i64 (((k + 1) % 3 : Nat) : Int)) = W1) := hW1
    have HMOD : Hid (((k : Int) + 1) % 3 = (((k + 1) % 3 : Nat) : Int)) := by rw [Hid]; omega
    have hl1 : ts.length ≤ 3 := by omega
    have hl2 : 3 ≤ ts.length := by omega
    clear hW1 hw1 hs1 t1 pt hv htc vlen c0 c1 hlen hv1
    cases gk with
    | zero => exact absurd hhot (Nat.not_lt_zero _)
    | succ n =>
      have HST2 : Hid (victimV 4 (ss.map SeatA.v) h = if (ts.getD k zeroSt).hot = true then victimV n ((ts.map SeatA.v).set k (coldV (ts.getD k zeroSt).v)) ((k + 1) % 3) else (ts.map SeatA.v, (k + 1) % 3, k)) := by
        rw [Hid, HST.out]
        exact victim_step n ts k
      go_upto_region 3 with fail
      rw [HMOD.out, HM.out]
      clear HM HMOD HST x1 f1
      generalize hz : ts.getD k zeroSt = z at *
      cases hht : z.hot with
      | true =>
        rw [hht] at r1
        obtain ⟨o2, t2⟩ := OwnSts.cellSet (A := ts.take k) (z := z) (B := ts.drop (k + 1)) (z' := z.cold) (by rw [← hz, ← seatD_split ts k (by omega)]; exact o1) 19 (.bool false) (by omega) rfl rfl
        have hkl : (ts.take k).length = k := by rw [List.length_take]; omega
        rw [hkl, ← seat_set ts k _ (by omega)] at o2
        rw [hkl] at t2
        obtain ⟨W2, hW2⟩ : ∃ W2, Hid (W1.setCell ⟨g, k * 20 + 19, none⟩ (.bool false) = W2) := ⟨_, rfl⟩
        rw [hW2.out] at o2 t2
        have HO2 : Hid (_) := o2
        have b2 := b1.touch t2 (by simpa using hgB)
        have HST3 : Hid (victimV 4 (ss.map SeatA.v) h = victimV n ((ts.map SeatA.v).set k (coldV z.v)) ((k + 1) % 3)) := by
          have := HST2.out; rw [hht, if_pos rfl] at this; exact this
        have HH : Hid (hots ((ts.set k z.cold).map SeatA.v) < n) := by
          have e := hots_set (ts.map SeatA.v) k (by rw [List.length_map]; omega) (by rw [seatV_at, hz]; exact hht)
          rw [seatV_at, hz] at e
          rw [Hid, List.map_set, cold_v]
          omega
        have HB2 : Hid (blocksSts (some ⟨g, 0, none⟩) c (ts.set k z.cold) = blocksSts (some ⟨g, 0, none⟩) c ss) := by
          rw [Hid, ← hbl.out]
          have e := cold_blocks ts k (by omega)
          rw [hz] at e
          exact blocksSts_len (n := ts.length) (by simp) rfl e
        have HT2 : Hid (Touch (B :: blocksSts (some ⟨g, 0, none⟩) c ss) w W2) := HT1.out.trans (t2.mono (fun j hj => List.mem_cons_of_mem _ (by rw [← hbl.out, List.mem_singleton.1 hj]; exact hmem)))
        clear o1 o2 t2 HST2 hz HT1 hhot
        go_wp2_with fail
        rw [hW2.out]
        go_roundg n
        case measure => omega
        case rel => exact ⟨ts.set k z.cold, (k + 1) % 3, rfl, Nat.mod_lt _ (by omega), by rw [List.length_set]; omega, ⟨b2, by rw [List.length_set]; exact C0.out, C1.out, HO2.out, by rw [HB2.out, ← hbl.out]; exact hoff⟩, by rw [Hid, HST3.out, List.map_set, cold_v], HH.out, HB2, HT2.out⟩
      | false =>
        rw [hht] at r1
        have HST3 : Hid (victimV 4 (ss.map SeatA.v) h = (ts.map SeatA.v, (k + 1) % 3, k)) := by
          have := HST2.out; rw [hht, if_neg (by decide)] at this; exact this
        have HO1 : Hid (_) := o1
        clear HST2 hz o1
        go_wp2_with fail
        go_ret
        exact ⟨ts, k, (k + 1) % 3, rfl, HST3, by omega, ⟨b1, C0.out, C1.out, HO1.out, hoff⟩, hbl, HT1.out⟩
end Go.Proofs.YtickiokdcbeefabDoor

/- Appending a seat, a record, as a step of a region that draws its order: where the row lies behind it. -/
namespace Go.Proofs.YtickiokdcbeefabDoor
open Go.RowKit

theorem run_append_seat {w : World} (ty : TypeId) (lo hi : Nat) (a : Option Addr) (c : Nat) (rs : List SeatA) (hown : OwnSts w lo hi a c rs)
    (b off : Nat) (sc : Nat) (q : SeatA) (hr : w.rangeAt b off q.cells) (l u : Nat) (hq : q.own w l u) (hl : hi ≤ l) (hu : u ≤ w.heap.size)
    (hb : rs.length + 1 ≤ 68719476736) (hlo : lo ≤ hi) :
    ∃ a' c' w', (Builtin.append_ #[26, 26] ty #[.slice a rs.length c, .slice (some ⟨b, off, none⟩) 1 sc]).run Tryd.prog w = .ok (.slice a' (rs ++ [q]).length c') w' ∧ OwnSts w' lo w'.heap.size a' c' (rs ++ [q]) ∧ w.grownBy w' (Value.slice a rs.length c).ownBlock ∧
      (∀ k, (Value.slice a' (rs ++ [q]).length c').ownBlock = some k → (Value.slice a rs.length c).ownBlock = some k ∨ k = w.heap.size) := by
  obtain ⟨i0, hi0, hz0, hz1, hz2⟩ := info_parts Tryd.infoSeat
  have hqb := hq.blocks_lt
  have htop := hown.top
  obtain ⟨v', w', hrun, h1, h2, _, h5⟩ := run_append_own_at (P := Tryd.prog) w lo 26 ty 51 i0 (.agg zeroSt.cells.toArray) 20 280 Tryd.underlying26 hi0 hz0 hz1 hz2 rfl (by decide) _ _ _ hown.row ⟨b, off, none⟩ 1 sc q.cells (by rfl) (by
    intro j v hj
    rw [Addr_add]
    exact hr j v hj) (oneSt q) (by simp only [maxLen]; omega) (by omega) (by omega)
  have e : cellsSts rs ++ q.cells = cellsSts (rs ++ [q]) := by rw [cellsSts_app, cellsSts_cons]; simp [cellsSts]
  have e2 : rs.length + 1 = (rs ++ [q]).length := by simp
  rw [e, e2] at h1
  have sh : ∃ a' c', v' = .slice a' (rs ++ [q]).length c' := by
    rcases h1.2 with ⟨rfl, h0⟩ | ⟨g, cap, cur, rfl, _⟩
    · simp at h0
    · exact ⟨_, _, rfl⟩
  obtain ⟨a', c', rfl⟩ := sh
  have hsz := h2.size
  have ht : Touch (Value.slice a rs.length c).ownBlock.toList w w' := Touch.of_grown h2 (fun k hk => Option.mem_toList.2 hk)
  have hrow := h1.lt
  have hold : ∀ r ∈ rs, r.own w' lo w'.heap.size := fun r hr => ((hown.each r hr).touch ht (fun k hk hk' => (List.nodup_append.1 hown.apart).2.2 k hk' k (List.mem_flatMap.2 ⟨r, hr, hk⟩) rfl)).widen (Nat.le_refl _) (by omega) (Nat.le_refl _)
  have hnew : q.own w' lo w'.heap.size := (hq.touch ht (fun k hk hk' => by have := hqb k hk; have := hown.blk k (Option.mem_toList.1 hk'); omega)).widen (by omega) (by omega) (Nat.le_refl _)
  refine ⟨a', c', w', hrun, ⟨h1, Nat.le_refl _, fun k hk => (hrow k hk).2, fun r hr => ?_, ?_⟩, h2, fun k hk => h5.elim (fun h5 => .inl (by rw [← h5]; exact hk)) (fun h5 => by rw [h5] at hk; exact .inr (Option.some.inj hk).symm)⟩
  · rcases List.mem_append.1 hr with hr | hr
    · exact hold r hr
    · obtain rfl := List.mem_singleton.1 hr
      exact hnew
  · rw [List.flatMap_append, List.nodup_append, List.nodup_append]
    have hap := (List.nodup_append.1 hown.apart).2.1
    have hin : ∀ x ∈ rs.flatMap SeatA.blocks, lo ≤ x ∧ x < hi := fun x hx => by
      obtain ⟨r, hr, hx⟩ := List.mem_flatMap.1 hx
      exact (hown.each r hr).blocks_lt x hx
    refine ⟨by cases (Value.slice a' (rs ++ [q]).length c').ownBlock <;> simp, ⟨hap, by simpa using hq.apart, fun x hx y hy e => ?_⟩, fun x hx y hy e => ?_⟩
    · have := hin x hx
      simp only [List.flatMap_cons, List.flatMap_nil, List.append_nil] at hy
      have := hqb y hy
      omega
    · have hx' := Option.mem_toList.1 hx
      subst e
      rcases List.mem_append.1 hy with hy | hy
      · obtain ⟨r, hr, hy⟩ := List.mem_flatMap.1 hy
        exact rowSt_apart h1 (hold r hr) x hx' hy
      · simp only [List.flatMap_cons, List.flatMap_nil, List.append_nil] at hy
        exact rowSt_apart h1 hnew x hx' hy

theorem step_append_seat {w : World} {ops : Array Oper} {o : Oper} {act : Act} {K : Act → World → Prop} {Q : Exit → Act → World → Prop} {E : Prop} (hgd : o.guard = none) (s x : Operand)
    (ho : o.op = .call { callee := .builtin .append, args := #[s, x], argTypes := #[26, 26] })
    (lo hi : Nat) (a : Option Addr) (c : Nat) (rs : List SeatA) (hs : act.eval s = .slice a rs.length c) (hown : OwnSts w lo hi a c rs)
    (b off : Nat) (sc : Nat) (q : SeatA) (hx : act.eval x = .slice (some ⟨b, off, none⟩) 1 sc) (hr : w.rangeAt b off q.cells) (l u : Nat) (hq : q.own w l u) (hl : hi ≤ l) (hu : u ≤ w.heap.size)
    (hb : rs.length + 1 ≤ 68719476736) (hlo : lo ≤ hi)
    (h : ∀ a' c' w', OwnSts w' lo w'.heap.size a' c' (rs ++ [q]) → w.grownBy w' (Value.slice a rs.length c).ownBlock → (∀ k, (Value.slice a' (rs ++ [q]).length c').ownBlock = some k → (Value.slice a rs.length c).ownBlock = some k ∨ k = w.heap.size) → K (act.put o.dst (.slice a' (rs ++ [q]).length c')) w') :
    if Region.wanted o (yielded ops act.tmps) = true then Oper.wp Tryd.prog o act w K Q else E := by
  have hw : Region.wanted o (yielded ops act.tmps) = true := by simp [Region.wanted, hgd]
  rw [if_pos hw]
  obtain ⟨a', c', w', hrun, h2, h3, h4⟩ := run_append_seat (w := w) o.type lo hi a c rs hown b off sc q hr l u hq hl hu hb hlo
  unfold Oper.wp
  simp [execOp, ho, resolve, invoke, builtin, hs, hx, hrun, Result.andThen]
  have := h a' c' w' h2 h3 h4
  rw [List.length_append, List.length_singleton] at this
  exact this
end Go.Proofs.YtickiokdcbeefabDoor

/- A seat made by a literal. -/
namespace Go.Proofs.YtickiokdcbeefabDoor
open Go.RowKit

set_option maxHeartbeats 1000000 in
set_option maxRecDepth 100000 in
theorem build_seat {w : World} {ops : Array Oper} {rest : List Oper} {dst : Option Nat} {ty : TypeId} {pos : String} {aft : Array Edge} {act : Act} {Q : Exit → Act → World → Prop} (x y : Operand) (no lsn : Int) (a b c d : SlotA)
    (hx : act.eval x = .int .i64 no) (hy : act.eval y = .agg (PageA.cells ⟨lsn, [a, b, c, d]⟩).toArray)
    (h : wpList Tryd.prog ops Q rest (act.put dst (.agg (SeatA.cells ⟨no, lsn, a, b, c, d, false, true⟩).toArray)) w) :
    wpList Tryd.prog ops Q ({ dst := dst, op := .build 51 #[(0, x), (1, y), (3, .const (.bool true))], type := ty, pos := pos, after := aft, guard := none } :: rest) act w := by
  refine wpList_plain rfl fun K hK => ?_
  unfold Oper.wp execOp
  simp only [List.map_toArray, List.map_cons, List.map_nil, hx, hy]
  have e : (Instr.build 51 #[(0, Value.int .i64 no), (1, Value.agg (PageA.cells ⟨lsn, [a, b, c, d]⟩).toArray), (3, Value.bool true)]).run Tryd.prog w = .ok (.agg (SeatA.cells ⟨no, lsn, a, b, c, d, false, true⟩).toArray) w := run_build w _ _ _ (by kernel_rfl)
  have ec : act.eval (.const (.bool true)) = .bool true := rfl
  rw [ec]
  simp only [Sem.run_bind, e, Result.andThen_ok, Sem.run_pure]
  exact hK _ _ h
theorem build_zero_seat {w : World} {ops : Array Oper} {rest : List Oper} {dst : Option Nat} {ty : TypeId} {pos : String} {aft : Array Edge} {act : Act} {Q : Exit → Act → World → Prop}
    (h : wpList Tryd.prog ops Q rest (act.put dst (.agg zeroSt.cells.toArray)) w) :
    wpList Tryd.prog ops Q ({ dst := dst, op := .build 51 #[], type := ty, pos := pos, after := aft, guard := none } :: rest) act w := by
  refine wpList_plain rfl fun K hK => ?_
  unfold Oper.wp execOp
  have e : (Instr.build 51 #[]).run Tryd.prog w = .ok (.agg zeroSt.cells.toArray) w := run_build w _ _ _ (by kernel_rfl)
  simp only [List.map_toArray, List.map_nil, Sem.run_bind, e, Result.andThen_ok, Sem.run_pure]
  exact hK _ _ h
theorem lit_seat (q : SeatA) : List.foldl (fun cs x => cs.setIfInBounds x.snd x.fst) (#[.int .i64 0, .int .i64 0, .bool false, .int .i64 0, .slice none 0 0, .slice none 0 0, .bool false, .int .i64 0, .slice none 0 0, .slice none 0 0, .bool false, .int .i64 0, .slice none 0 0, .slice none 0 0, .bool false, .int .i64 0, .slice none 0 0, .slice none 0 0, .bool false, .bool false] : Array Value) q.cells.zipIdx = q.cells.toArray := by simp [SeatA.cells, SlotA.cells, List.zipIdx]
theorem seat_one (q : SeatA) : q.cells.toArray.all (·.oneCell') = true := all_oneCell_toArray (oneSt q)
theorem seat_info (q : SeatA) : (Tryd.prog.info? 51).map (·.size) = some q.cells.length := by show _ = some 20; kernel_rfl
theorem seat_load {w : World} {C : Nat} (q : SeatA) (b : Box w C q.cells 51) : (loadVar 51 ⟨C, 0, none⟩).run Tryd.prog w = .ok (.agg q.cells.toArray) w :=
  run_loadVar_mid (P := Tryd.prog) w C 0 51 q.cells _ (Box.range [] q.cells [] (by simpa using b)) Tryd.underlying51 rfl (seat_info q)
theorem seat_out {w : World} {C : Nat} (q : SeatA) (old : List Value) (ho : old.length = 20) (bC : Box w C old 51) :
    ∃ WF, Hid (w.setCells C 0 q.cells = WF) ∧ Within C (C + 1) w WF ∧ WF.heap.size = w.heap.size ∧ Hid (w.there C 0 q.cells.toArray.size) ∧ Hid ((loadVar 51 ⟨C, 0, none⟩).run Tryd.prog WF = .ok (.agg q.cells.toArray) WF) ∧ Box WF C q.cells 51 := by
  obtain ⟨WF, hWF, bF, hwF, hsF⟩ := range_fill [] old q.cells [] (by simpa using bC) (by rw [ho]; rfl)
  have bF' : Box WF C q.cells 51 := by simpa using bF
  exact ⟨WF, hWF, hwF, hsF, bC.there 0 _ (by rw [ho]; show 0 + 20 ≤ 20; decide), seat_load q bF', bF'⟩
end Go.Proofs.YtickiokdcbeefabDoor
