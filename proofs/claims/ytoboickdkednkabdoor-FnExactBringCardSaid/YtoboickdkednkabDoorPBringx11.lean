/- Several texts in one, in their order. -/
import Derived.Test.YtoboickdkednkabDoorPBringx10
import Derived.Deep.LoopGhost
import Derived.Test.YtoboickdkednkabDoorPBringx9
import Derived.Test.YtoboickdkednkabDoorPBringx7
import Derived.Deep.MidRow
import Derived.Laws.Tables
import Derived.Deep.RegionLaw
import Derived.Deep.DrawnRows
import Derived.Test.YtoboickdkednkabDoorPBringx5
import Derived.Test.YtoboickdkednkabDoorPBringx6
import Derived.Test.YtoboickdkednkabDoorPBringx3
import Derived.Test.YtoboickdkednkabDoorPBringx8
import Derived.Deep.RegionHeld3
import Derived.Test.YtoboickdkednkabDoorPBringx1
set_option maxHeartbeats 8000000
set_option maxRecDepth 100000
namespace Go.Proofs.YtoboickdkednkabDoor
open Go.RowKit
def zeroStV : SeatV := zeroSt.v
def coldV (s : SeatV) : SeatV := { s with hot := false }
def victimV : Nat → List SeatV → Nat → List SeatV × Nat × Nat
 | 0, ss, h => (ss, h, 0)
 | n + 1, ss, h => if (ss.getD h zeroStV).hot = true then victimV n (ss.set h (coldV (ss.getD h zeroStV))) ((h + 1) % 3) else (ss, (h + 1) % 3, h)
def hots (ss : List SeatV) : Nat := (ss.filter (·.hot)).length
def SeatA.cold (s : SeatA) : SeatA := { s with hot := false }
theorem cold_v (s : SeatA) : s.cold.v = coldV s.v := rfl
theorem seatV_at (ls : List SeatA) (k : Nat) : (ls.map SeatA.v).getD k zeroStV = (ls.getD k zeroSt).v := by
 simp only [List.getD, List.getElem?_map]
 cases ls[k]? <;> rfl
theorem seat_set (ls : List SeatA) (k : Nat) (s : SeatA) (hk : k < ls.length) : ls.set k s = ls.take k ++ s :: ls.drop (k + 1) := by
 rw [List.set_eq_take_append_cons_drop, if_pos hk]
theorem hots_set (ls : List SeatV) (k : Nat) (hk : k < ls.length) (hh : (ls.getD k zeroStV).hot = true) : hots (ls.set k (coldV (ls.getD k zeroStV))) + 1 = hots ls := by
 induction ls generalizing k with
 | nil => simp at hk
 | cons s r ih =>
  cases k with
  | zero =>
   simp only [List.getD_cons_zero] at hh
   simp [hots, coldV, hh]
  | succ k =>
   simp only [List.getD_cons_succ] at hh ⊢
   have := ih k (by simpa using hk) hh
   simp only [hots, List.set_cons_succ, List.filter_cons] at this ⊢
   split <;> simp_all <;> omega
theorem hots_le (ls : List SeatV) : hots ls ≤ ls.length := List.length_filter_le _ _
theorem victim_len (n : Nat) (ls : List SeatV) (h : Nat) : (victimV n ls h).1.length = ls.length := by
 induction n generalizing ls h with
 | zero => rfl
 | succ n ih =>
  rw [victimV]
  split
  ·rw [ih]; simp
  ·rfl
theorem victim_hand (n : Nat) (ls : List SeatV) (h : Nat) (hh : h < 3) : (victimV n ls h).2.1 < 3 ∧ (victimV n ls h).2.2 < 3 := by
 induction n generalizing ls h with
 | zero => exact ⟨hh, by show 0 < 3; omega⟩
 | succ n ih =>
  rw [victimV]
  split
  ·exact ih _ _ (Nat.mod_lt _ (by omega))
  ·exact ⟨Nat.mod_lt _ (by omega), hh⟩
theorem victim_step (n : Nat) (ts : List SeatA) (k : Nat) : victimV (n + 1) (ts.map SeatA.v) k = if (ts.getD k zeroSt).hot = true then victimV n ((ts.map SeatA.v).set k (coldV (ts.getD k zeroSt).v)) ((k + 1) % 3) else (ts.map SeatA.v, (k + 1) % 3, k) := by
 rw [victimV, seatV_at]
 rfl
structure PoolAt (w : World) (lo hi B o : Nat) (vs : List Value) (t : TypeId) (a : Option Addr) (c : Nat) (ss : List SeatA) (hand : Int) : Prop where
 box : Box w B vs t
 c0 : vs[o]? = some (.slice a ss.length c)
 c1 : vs[o + 1]? = some (.int .i64 hand)
 own : OwnSts w lo hi a c ss
 off : B ∉ blocksSts a c ss
theorem blocksSts_len {a : Option Addr} {c n : Nat} {ss ts : List SeatA} (h : ss.length = n) (h2 : ts.length = n) (hb : ss.flatMap SeatA.blocks = ts.flatMap SeatA.blocks) : blocksSts a c ss = blocksSts a c ts := by
 unfold blocksSts; rw [h, h2, hb]
theorem cold_blocks (ls : List SeatA) (k : Nat) (hk : k < ls.length) : (ls.set k (ls.getD k zeroSt).cold).flatMap SeatA.blocks = ls.flatMap SeatA.blocks := by
 rw [seat_set _ _ _ hk]
 conv => rhs; rw [seatD_split ls k hk]
 simp only [List.flatMap_append, List.flatMap_cons]
 rfl
theorem l6Victim_any (lo hi B o : Nat) (vs : List Value) (t : TypeId) (a : Option Addr) (c : Nat) (ss : List SeatA) (h : Nat) (w : World) (hp : PoolAt w lo hi B o vs t a c ss h) (h3 : ss.length = 3) (hh : h < 3) :
  Calls Tryd.prog 46 #[.pointer (some ⟨B, o, none⟩)] w fun r w' => ∃ (ts : List SeatA) (k hand : Nat), r = .returned (.int .i64 k) ∧ Hid (victimV 4 (ss.map SeatA.v) h = (ts.map SeatA.v, hand, k)) ∧ ts.length = 3 ∧ PoolAt w' lo hi B o (vs.set (o + 1) (.int .i64 hand)) t a c ts hand ∧ Hid (blocksSts a c ts = blocksSts a c ss) ∧ Touch (B :: blocksSts a c ss) w w' := by
 have hv1 : o + 1 < vs.length := (List.getElem?_eq_some_iff.1 hp.c1).1
 go_enter Tryd.func46, Tryd.ntmps46
 go_wp2_with fail
 go_loopg [2] 4 (fun n v wr => ∃ (ts : List SeatA) (k : Nat), v = .int .i64 0 ∧ k < 3 ∧ ts.length = 3 ∧ PoolAt wr lo hi B o (vs.set (o + 1) (.int .i64 (k : Int))) t a c ts k ∧ Hid (victimV 4 (ss.map SeatA.v) h = victimV n (ts.map SeatA.v) k) ∧ hots (ts.map SeatA.v) < n ∧ Hid (blocksSts a c ts = blocksSts a c ss) ∧ Touch (B :: blocksSts a c ss) w wr)
 case atStart =>
  have e : vs.set (o + 1) (.int .i64 (h : Int)) = vs := by
   obtain ⟨_, hg⟩ := List.getElem?_eq_some_iff.1 hp.c1
   rw [← hg]; simp
  refine ⟨ss, h, rfl, hh, h3, by rw [e]; exact hp, rfl, ?_, rfl, Touch.refl _ _⟩
  have := hots_le (ss.map SeatA.v)
  rw [List.length_map] at this
  omega
 case round =>
  obtain ⟨ts, k, rfl, hk, hlen, pt, hv, hhot, hbl, htc⟩ := hrel
  clear hp h3 hh
  have vlen : (vs.set (o + 1) (.int .i64 (k : Int))).length = vs.length := by simp
  have x1 : wr.cell? ⟨B, o + 1, none⟩ = some (.int .i64 (k : Int)) := pt.box.cell (o + 1) _ pt.c1
  have f1 := pt.box.frozen (o + 1)
  obtain ⟨g, rfl⟩ : ∃ g, a = some ⟨g, 0, none⟩ := by
   rcases pt.own.row.2 with ⟨_, h0⟩ | ⟨g, cap', cur, hv, _⟩
   ·omega
   ·simp only [Value.slice.injEq] at hv; exact ⟨g, hv.1⟩
  have hmem : g ∈ blocksSts (some ⟨g, 0, none⟩) c ts := by simp [blocksSts, Value.ownBlock]
  have hgB : B ≠ g := fun e => pt.off (e ▸ hmem)
  obtain ⟨W1, hW1, b1, hw1, hs1⟩ := box_set pt.box (o + 1) (.int .i64 (((k + 1) % 3 : Nat) : Int))
  rw [List.set_set] at b1
  have t1 : Touch [B] wr W1 := ⟨hw1.os, hw1.tape, hw1.output, hw1.size, fun j hj hn => hw1.block j hj (fun hh => hn (by simp; omega))⟩
  have o1 : OwnSts W1 lo hi (some ⟨g, 0, none⟩) c ts := pt.own.touch t1 (fun j hj hh => pt.off (by rw [← List.mem_singleton.1 hh]; exact hj))
  have c0 : (vs.set (o + 1) (.int .i64 (((k + 1) % 3 : Nat) : Int)))[o]? = some (.slice (some ⟨g, 0, none⟩) ts.length c) := by
   have := pt.c0
   rw [List.getElem?_set_ne (by omega)] at this ⊢
   exact this
  have c1 : (vs.set (o + 1) (.int .i64 (((k + 1) % 3 : Nat) : Int)))[o + 1]? = some (.int .i64 (((k + 1) % 3 : Nat) : Int)) := List.getElem?_set_self hv1
  have y0 := b1.cell o _ c0
  have C0 : Hid (_ = _) := c0
  have C1 : Hid (_ = _) := c1
  have r1 := (row_seat o1.row rfl k (by omega)).1 19 _ (show (ts.getD k zeroSt).cells[19]? = some (.bool (ts.getD k zeroSt).hot) from rfl)
  have rf1 := o1.row.frozenAt (k * 20 + 19)
  have HT1 : Hid (Touch (B :: blocksSts (some ⟨g, 0, none⟩) c ss) w W1) := htc.trans (t1.mono (by simp))
  have hoff : B ∉ blocksSts (some ⟨g, 0, none⟩) c ts := pt.off
  have HST : Hid (victimV 4 (ss.map SeatA.v) h = victimV gk (ts.map SeatA.v) k) := hv
  have hkb : (k : Int) < (ts.length : Int) := by omega
  have hk0 : (0 : Int) ≤ (k : Int) := by omega
  have HM : Hid (wr.setCell ⟨B, o + 1, none⟩ (.int .i64 (((k + 1) % 3 : Nat) : Int)) = W1) := hW1
  have HMOD : Hid (((k : Int) + 1) % 3 = (((k + 1) % 3 : Nat) : Int)) := by rw [Hid]; omega
  have hl1 : ts.length ≤ 3 := by omega
  have hl2 : 3 ≤ ts.length := by omega
  clear hW1 hw1 hs1 t1 pt hv htc vlen c0 c1 hlen hv1
  cases gk with
  | zero => exact absurd hhot (Nat.not_lt_zero _)
  | succ n =>
   have HST2 : Hid (victimV 4 (ss.map SeatA.v) h = if (ts.getD k zeroSt).hot = true then victimV n ((ts.map SeatA.v).set k (coldV (ts.getD k zeroSt).v)) ((k + 1) % 3) else (ts.map SeatA.v, (k + 1) % 3, k)) := by
    rw [Hid, HST.out]
    exact victim_step n ts k
   go_upto_region 3 with fail
   rw [HMOD.out, HM.out]
   clear HM HMOD HST x1 f1
   generalize hz : ts.getD k zeroSt = z at *
   cases hht : z.hot with
   | true =>
    rw [hht] at r1
    obtain ⟨o2, t2⟩ := OwnSts.cellSet (A := ts.take k) (z := z) (B := ts.drop (k + 1)) (z' := z.cold) (by rw [← hz, ← seatD_split ts k (by omega)]; exact o1) 19 (.bool false) (by omega) rfl rfl
    have hkl : (ts.take k).length = k := by rw [List.length_take]; omega
    rw [hkl, ← seat_set ts k _ (by omega)] at o2
    rw [hkl] at t2
    obtain ⟨W2, hW2⟩ : ∃ W2, Hid (W1.setCell ⟨g, k * 20 + 19, none⟩ (.bool false) = W2) := ⟨_, rfl⟩
    rw [hW2.out] at o2 t2
    have HO2 : Hid (_) := o2
    have b2 := b1.touch t2 (by simpa using hgB)
    have HST3 : Hid (victimV 4 (ss.map SeatA.v) h = victimV n ((ts.map SeatA.v).set k (coldV z.v)) ((k + 1) % 3)) := by
     have := HST2.out; rw [hht, if_pos rfl] at this; exact this
    have HH : Hid (hots ((ts.set k z.cold).map SeatA.v) < n) := by
     have e := hots_set (ts.map SeatA.v) k (by rw [List.length_map]; omega) (by rw [seatV_at, hz]; exact hht)
     rw [seatV_at, hz] at e
     rw [Hid, List.map_set, cold_v]
     omega
    have HB2 : Hid (blocksSts (some ⟨g, 0, none⟩) c (ts.set k z.cold) = blocksSts (some ⟨g, 0, none⟩) c ss) := by
     rw [Hid, ← hbl.out]
     have e := cold_blocks ts k (by omega)
     rw [hz] at e
     exact blocksSts_len (n := ts.length) (by simp) rfl e
    have HT2 : Hid (Touch (B :: blocksSts (some ⟨g, 0, none⟩) c ss) w W2) := HT1.out.trans (t2.mono (fun j hj => List.mem_cons_of_mem _ (by rw [← hbl.out, List.mem_singleton.1 hj]; exact hmem)))
    clear o1 o2 t2 HST2 hz HT1 hhot
    go_wp2_with fail
    rw [hW2.out]
    go_roundg n
    case measure => omega
    case rel => exact ⟨ts.set k z.cold, (k + 1) % 3, rfl, Nat.mod_lt _ (by omega), by rw [List.length_set]; omega, ⟨b2, by rw [List.length_set]; exact C0.out, C1.out, HO2.out, by rw [HB2.out, ← hbl.out]; exact hoff⟩, by rw [Hid, HST3.out, List.map_set, cold_v], HH.out, HB2, HT2.out⟩
   | false =>
    rw [hht] at r1
    have HST3 : Hid (victimV 4 (ss.map SeatA.v) h = (ts.map SeatA.v, (k + 1) % 3, k)) := by
     have := HST2.out; rw [hht, if_neg (by decide)] at this; exact this
    have HO1 : Hid (_) := o1
    clear HST2 hz o1
    go_wp2_with fail
    go_ret
    exact ⟨ts, k, (k + 1) % 3, rfl, HST3, by omega, ⟨b1, C0.out, C1.out, HO1.out, hoff⟩, hbl, HT1.out⟩
theorem run_append_seat {w : World} (ty : TypeId) (lo hi : Nat) (a : Option Addr) (c : Nat) (rs : List SeatA) (hown : OwnSts w lo hi a c rs)
  (b off : Nat) (sc : Nat) (q : SeatA) (hr : w.rangeAt b off q.cells) (l u : Nat) (hq : q.own w l u) (hl : hi ≤ l) (hu : u ≤ w.heap.size)
  (hb : rs.length + 1 ≤ 68719476736) (hlo : lo ≤ hi) :
  ∃ a' c' w', (Builtin.append_ #[35, 35] ty #[.slice a rs.length c, .slice (some ⟨b, off, none⟩) 1 sc]).run Tryd.prog w = .ok (.slice a' (rs ++ [q]).length c') w' ∧ OwnSts w' lo w'.heap.size a' c' (rs ++ [q]) ∧ w.grownBy w' (Value.slice a rs.length c).ownBlock ∧
   (∀ k, (Value.slice a' (rs ++ [q]).length c').ownBlock = some k → (Value.slice a rs.length c).ownBlock = some k ∨ k = w.heap.size) := by
 obtain ⟨i0, hi0, hz0, hz1, hz2⟩ := info_parts Tryd.infoSeat
 have hqb := hq.blocks_lt
 have htop := hown.top
 obtain ⟨v', w', hrun, h1, h2, _, h5⟩ := run_append_own_at (P := Tryd.prog) w lo 35 ty 45 i0 (.agg zeroSt.cells.toArray) 20 280 Tryd.underlying35 hi0 hz0 hz1 hz2 rfl (by decide) _ _ _ hown.row ⟨b, off, none⟩ 1 sc q.cells (by rfl) (by
  intro j v hj
  rw [Addr_add]
  exact hr j v hj) (oneSt q) (by simp only [maxLen]; omega) (by omega) (by omega)
 have e : cellsSts rs ++ q.cells = cellsSts (rs ++ [q]) := by rw [cellsSts_app, cellsSts_cons]; simp [cellsSts]
 have e2 : rs.length + 1 = (rs ++ [q]).length := by simp
 rw [e, e2] at h1
 have sh : ∃ a' c', v' = .slice a' (rs ++ [q]).length c' := by
  rcases h1.2 with ⟨rfl, h0⟩ | ⟨g, cap, cur, rfl, _⟩
  ·simp at h0
  ·exact ⟨_, _, rfl⟩
 obtain ⟨a', c', rfl⟩ := sh
 have hsz := h2.size
 have ht : Touch (Value.slice a rs.length c).ownBlock.toList w w' := Touch.of_grown h2 (fun k hk => Option.mem_toList.2 hk)
 have hrow := h1.lt
 have hold : ∀ r ∈ rs, r.own w' lo w'.heap.size := fun r hr => ((hown.each r hr).touch ht (fun k hk hk' => (List.nodup_append.1 hown.apart).2.2 k hk' k (List.mem_flatMap.2 ⟨r, hr, hk⟩) rfl)).widen (Nat.le_refl _) (by omega) (Nat.le_refl _)
 have hnew : q.own w' lo w'.heap.size := (hq.touch ht (fun k hk hk' => by have := hqb k hk; have := hown.blk k (Option.mem_toList.1 hk'); omega)).widen (by omega) (by omega) (Nat.le_refl _)
 refine ⟨a', c', w', hrun, ⟨h1, Nat.le_refl _, fun k hk => (hrow k hk).2, fun r hr => ?_, ?_⟩, h2, fun k hk => h5.elim (fun h5 => .inl (by rw [← h5]; exact hk)) (fun h5 => by rw [h5] at hk; exact .inr (Option.some.inj hk).symm)⟩
 ·rcases List.mem_append.1 hr with hr | hr
  ·exact hold r hr
  ·obtain rfl := List.mem_singleton.1 hr
   exact hnew
 ·rw [List.flatMap_append, List.nodup_append, List.nodup_append]
  have hap := (List.nodup_append.1 hown.apart).2.1
  have hin : ∀ x ∈ rs.flatMap SeatA.blocks, lo ≤ x ∧ x < hi := fun x hx => by
   obtain ⟨r, hr, hx⟩ := List.mem_flatMap.1 hx
   exact (hown.each r hr).blocks_lt x hx
  refine ⟨by cases (Value.slice a' (rs ++ [q]).length c').ownBlock <;> simp, ⟨hap, by simpa using hq.apart, fun x hx y hy e => ?_⟩, fun x hx y hy e => ?_⟩
  ·have := hin x hx
   simp only [List.flatMap_cons, List.flatMap_nil, List.append_nil] at hy
   have := hqb y hy
   omega
  ·have hx' := Option.mem_toList.1 hx
   subst e
   rcases List.mem_append.1 hy with hy | hy
   ·obtain ⟨r, hr, hy⟩ := List.mem_flatMap.1 hy
    exact rowSt_apart h1 (hold r hr) x hx' hy
   ·simp only [List.flatMap_cons, List.flatMap_nil, List.append_nil] at hy
    exact rowSt_apart h1 hnew x hx' hy
theorem step_append_seat {w : World} {ops : Array Oper} {o : Oper} {act : Act} {K : Act → World → Prop} {Q : Exit → Act → World → Prop} {E : Prop} (hgd : o.guard = none) (s x : Operand)
  (ho : o.op = .call { callee := .builtin .append, args := #[s, x], argTypes := #[35, 35] })
  (lo hi : Nat) (a : Option Addr) (c : Nat) (rs : List SeatA) (hs : act.eval s = .slice a rs.length c) (hown : OwnSts w lo hi a c rs)
  (b off : Nat) (sc : Nat) (q : SeatA) (hx : act.eval x = .slice (some ⟨b, off, none⟩) 1 sc) (hr : w.rangeAt b off q.cells) (l u : Nat) (hq : q.own w l u) (hl : hi ≤ l) (hu : u ≤ w.heap.size)
  (hb : rs.length + 1 ≤ 68719476736) (hlo : lo ≤ hi)
  (h : ∀ a' c' w', OwnSts w' lo w'.heap.size a' c' (rs ++ [q]) → w.grownBy w' (Value.slice a rs.length c).ownBlock → (∀ k, (Value.slice a' (rs ++ [q]).length c').ownBlock = some k → (Value.slice a rs.length c).ownBlock = some k ∨ k = w.heap.size) → K (act.put o.dst (.slice a' (rs ++ [q]).length c')) w') :
  if Region.wanted o (yielded ops act.tmps) = true then Oper.wp Tryd.prog o act w K Q else E := by
 have hw : Region.wanted o (yielded ops act.tmps) = true := by simp [Region.wanted, hgd]
 rw [if_pos hw]
 obtain ⟨a', c', w', hrun, h2, h3, h4⟩ := run_append_seat (w := w) o.type lo hi a c rs hown b off sc q hr l u hq hl hu hb hlo
 unfold Oper.wp
 simp [execOp, ho, resolve, invoke, builtin, hs, hx, hrun, Result.andThen]
 have := h a' c' w' h2 h3 h4
 rw [List.length_append, List.length_singleton] at this
 exact this
theorem build_seat {w : World} {ops : Array Oper} {rest : List Oper} {dst : Option Nat} {ty : TypeId} {pos : String} {aft : Array Edge} {act : Act} {Q : Exit → Act → World → Prop} (x y : Operand) (no lsn : Int) (a b c d : SlotA)
  (hx : act.eval x = .int .i64 no) (hy : act.eval y = .agg (PageA.cells ⟨lsn, [a, b, c, d]⟩).toArray)
  (h : wpList Tryd.prog ops Q rest (act.put dst (.agg (SeatA.cells ⟨no, lsn, a, b, c, d, false, true⟩).toArray)) w) :
  wpList Tryd.prog ops Q ({ dst := dst, op := .build 45 #[(0, x), (1, y), (3, .const (.bool true))], type := ty, pos := pos, after := aft, guard := none } :: rest) act w := by
 refine wpList_plain rfl fun K hK => ?_
 unfold Oper.wp execOp
 simp only [List.map_toArray, List.map_cons, List.map_nil, hx, hy]
 have e : (Instr.build 45 #[(0, Value.int .i64 no), (1, Value.agg (PageA.cells ⟨lsn, [a, b, c, d]⟩).toArray), (3, Value.bool true)]).run Tryd.prog w = .ok (.agg (SeatA.cells ⟨no, lsn, a, b, c, d, false, true⟩).toArray) w := run_build w _ _ _ (by kernel_rfl)
 have ec : act.eval (.const (.bool true)) = .bool true := rfl
 rw [ec]
 simp only [Sem.run_bind, e, Result.andThen_ok, Sem.run_pure]
 exact hK _ _ h
theorem build_zero_seat {w : World} {ops : Array Oper} {rest : List Oper} {dst : Option Nat} {ty : TypeId} {pos : String} {aft : Array Edge} {act : Act} {Q : Exit → Act → World → Prop}
  (h : wpList Tryd.prog ops Q rest (act.put dst (.agg zeroSt.cells.toArray)) w) :
  wpList Tryd.prog ops Q ({ dst := dst, op := .build 45 #[], type := ty, pos := pos, after := aft, guard := none } :: rest) act w := by
 refine wpList_plain rfl fun K hK => ?_
 unfold Oper.wp execOp
 have e : (Instr.build 45 #[]).run Tryd.prog w = .ok (.agg zeroSt.cells.toArray) w := run_build w _ _ _ (by kernel_rfl)
 simp only [List.map_toArray, List.map_nil, Sem.run_bind, e, Result.andThen_ok, Sem.run_pure]
 exact hK _ _ h
theorem lit_seat (q : SeatA) : List.foldl (fun cs x => cs.setIfInBounds x.snd x.fst) (#[.int .i64 0, .int .i64 0, .bool false, .int .i64 0, .slice none 0 0, .slice none 0 0, .bool false, .int .i64 0, .slice none 0 0, .slice none 0 0, .bool false, .int .i64 0, .slice none 0 0, .slice none 0 0, .bool false, .int .i64 0, .slice none 0 0, .slice none 0 0, .bool false, .bool false] : Array Value) q.cells.zipIdx = q.cells.toArray := by simp [SeatA.cells, SlotA.cells, List.zipIdx]
theorem seat_one (q : SeatA) : q.cells.toArray.all (·.oneCell') = true := all_oneCell_toArray (oneSt q)
theorem seat_info (q : SeatA) : (Tryd.prog.info? 45).map (·.size) = some q.cells.length := by show _ = some 20; kernel_rfl
theorem seat_load {w : World} {C : Nat} (q : SeatA) (b : Box w C q.cells 45) : (loadVar 45 ⟨C, 0, none⟩).run Tryd.prog w = .ok (.agg q.cells.toArray) w :=
 run_loadVar_mid (P := Tryd.prog) w C 0 45 q.cells _ (Box.range [] q.cells [] (by simpa using b)) Tryd.underlying45 rfl (seat_info q)
theorem seat_out {w : World} {C : Nat} (q : SeatA) (old : List Value) (ho : old.length = 20) (bC : Box w C old 45) :
  ∃ WF, Hid (w.setCells C 0 q.cells = WF) ∧ Within C (C + 1) w WF ∧ WF.heap.size = w.heap.size ∧ Hid (w.there C 0 q.cells.toArray.size) ∧ Hid ((loadVar 45 ⟨C, 0, none⟩).run Tryd.prog WF = .ok (.agg q.cells.toArray) WF) ∧ Box WF C q.cells 45 := by
 obtain ⟨WF, hWF, bF, hwF, hsF⟩ := range_fill [] old q.cells [] (by simpa using bC) (by rw [ho]; rfl)
 have bF' : Box WF C q.cells 45 := by simpa using bF
 exact ⟨WF, hWF, hwF, hsF, bC.there 0 _ (by rw [ho]; show 0 + 20 ≤ 20; decide), seat_load q bF', bF'⟩
end Go.Proofs.YtoboickdkednkabDoor
namespace Go.Proofs.YtoboickdkednkabDoor
open Go.RowKit
attribute [local go_sem ↓] Go.wp_at_zero Go.wp_at_succ
theorem four_slots {ts : List SlotA} (h : ts.length = 4) : ∃ a b c d, ts = [a, b, c, d] := by
 match ts, h with
 | [a, b, c, d], _ => exact ⟨a, b, c, d, rfl⟩
def bringV (ss : List SeatV) (h : Nat) (new : SeatV) : List SeatV × Nat × SeatV × Bool :=
 if ss.length < 3 then (ss ++ [new], h, zeroStV, false) else ((victimV 4 ss h).1.set (victimV 4 ss h).2.2 new, (victimV 4 ss h).2.1, (victimV 4 ss h).1.getD (victimV 4 ss h).2.2 zeroStV, true)
structure Brought (lo B o : Nat) (vs : List Value) (t : TypeId) (a : Option Addr) (c : Nat) (ss : List SeatA) (w w' : World) (ts : List SeatA) (a' : Option Addr) (c' hand' : Nat) (old : SeatA) : Prop where
 pool : PoolAt w' lo w'.heap.size B o ((vs.set o (.slice a' ts.length c')).set (o + 1) (.int .i64 hand')) t a' c' ts hand'
 fresh : ∀ k ∈ blocksSts a' c' ts, k ∈ blocksSts a c ss ∨ w.heap.size ≤ k
 touch : Touch (B :: blocksSts a c ss) w w'
 went : old.own w' lo w'.heap.size
 wentB : ∀ k ∈ old.blocks, k ∈ blocksSts a c ss
def BringAns (lo B o : Nat) (vs : List Value) (t : TypeId) (a : Option Addr) (c : Nat) (ss : List SeatA) (h : Nat) (new : SeatV) (w : World) (r : Ending) (w' : World) : Prop :=
 ∃ (ts : List SeatA) (a' : Option Addr) (c' hand' : Nat) (old : SeatA) (went : Bool), r = .returned (.tuple #[.agg old.cells.toArray, .bool went]) ∧ Hid (bringV (ss.map SeatA.v) h new = (ts.map SeatA.v, hand', old.v, went)) ∧ Brought lo B o vs t a c ss w w' ts a' c' hand' old
theorem PoolAt.below {w w' : World} {lo hi B o : Nat} {vs : List Value} {t : TypeId} {a : Option Addr} {c : Nat} {ss : List SeatA} {hand : Int} (h : PoolAt w lo hi B o vs t a c ss hand) (hb : Below w.heap.size w w') : PoolAt w' lo hi B o vs t a c ss hand :=
 ⟨h.box.below hb h.box.lt, h.c0, h.c1, h.own.below hb, h.off⟩
theorem zeroS_own (w : World) (lo hi : Nat) (h : hi ≤ w.heap.size) : zeroS.own w lo hi := ⟨ownI_nil w lo hi h, ownI_nil w lo hi h, fun k h1 _ => by cases h1⟩
theorem zeroSt_blocks : zeroSt.blocks = [] := rfl
theorem zeroSt_own (w : World) (lo hi : Nat) (h : hi ≤ w.heap.size) : zeroSt.own w lo hi := ⟨fun s hs => by
 simp only [SeatA.ss, zeroSt, List.mem_cons, List.not_mem_nil, or_false] at hs
 have : s = zeroS := by rcases hs with h | h | h | h <;> exact h
 subst this
 exact zeroS_own w lo hi h, by show ([] : List Nat).Nodup; simp⟩
theorem set_set_ne {vs : List Value} {o : Nat} {x y : Value} (h : vs[o + 1]? = some y) : (vs.set o x).set (o + 1) y = vs.set o x := by
 have h1 : (vs.set o x)[o + 1]? = some y := by rw [List.getElem?_set_ne (by omega)]; exact h
 obtain ⟨_, h2⟩ := List.getElem?_eq_some_iff.1 h1
 rw [← h2, List.set_getElem_self]
theorem l6Bring_any (lo hi B o : Nat) (vs : List Value) (t : TypeId) (a : Option Addr) (c : Nat) (ss : List SeatA) (h : Nat) (no : Int) (pg : PageA) (w : World) (hp : PoolAt w lo hi B o vs t a c ss h) (hlo : lo ≤ hi) (h3 : ss.length ≤ 3) (hh : h < 3) (h4 : pg.ss.length = 4) (hr : ReadsS w pg.ss) (hl : Fit pg.ss) :
  Calls Tryd.prog 25 #[.pointer (some ⟨B, o, none⟩), .int .i64 no, .agg pg.cells.toArray] w fun r w' => BringAns lo B o vs t a c ss h ⟨no, pg.lsn, pg.ss.map (·.v), false, true⟩ w r w' := by
 obtain ⟨W, hW, b0, b1, hbW, hsW⟩ := boxes2 w pg.cells zeroSt.cells 43 45
 have HIP : Hid ((Tryd.prog.info? 43).map (·.size) = some pg.cells.length) := by rw [Hid, page_len pg h4]; kernel_rfl
 have HRG : Hid (W.rangeAt w.heap.size 0 pg.cells) := Box.range [] pg.cells [] (by simpa using b0)
 have hws : w.heap.size + 1 < W.heap.size := by omega
 have hW' : Hid ((w.alloc (.cells pg.cells.toArray 43)).alloc (.cells #[.int .i64 0, .int .i64 0, .bool false, .int .i64 0, .slice none 0 0, .slice none 0 0, .bool false, .int .i64 0, .slice none 0 0, .slice none 0 0, .bool false, .int .i64 0, .slice none 0 0, .slice none 0 0, .bool false, .int .i64 0, .slice none 0 0, .slice none 0 0, .bool false, .bool false] 45) = W) := hW.out
 have htop := hp.own.top
 have hBlt := hp.box.lt
 clear hsW hW b0
 go_enter Tryd.func25, Tryd.ntmps25
 go_upto_region 1 with fail
 rw [hW'.out]
 clear hW'
 go_wp2_with (first | (guard_target = wpList _ _ _ (Oper.mk (some 12) _ _ _ _ _ :: _) _ _; refine wpList_load_mid rfl 43 (.tmp 5) rfl w.heap.size 0 rfl pg.cells _ HRG.out Tryd.underlying43 rfl HIP.out ?_) | fail)
 refine (l3Copy_own pg h4 W (hr.below hbW) hl).mono ?_
 rintro e w2 ⟨ts, rfl, hts, ho2, hb2⟩
 obtain ⟨x0, x1, x2, x3, rfl⟩ := four_slots (ts := ts) (by have := congrArg List.length hts.out; simpa [h4] using this)
 obtain ⟨q, hq⟩ : ∃ q : SeatA, Hid ((⟨no, pg.lsn, x0, x1, x2, x3, false, true⟩ : SeatA) = q) := ⟨_, rfl⟩
 have HQV : Hid (q.v = ⟨no, pg.lsn, pg.ss.map (·.v), false, true⟩) := by rw [Hid, ← hq.out, ← hts.out]; rfl
 have oq2 : q.own w2 W.heap.size w2.heap.size := by rw [← hq.out]; exact ho2
 have hs2 := hb2.size
 obtain ⟨W3, hW3, b3, hb3, hs3⟩ := boxes1 w2 zeroSt.cells 45
 obtain ⟨W4, hW4, hw4, hs4, HT4, _, b4⟩ := seat_out q _ rfl b3
 have HO4 := seat_one q
 have HI : Hid ((Tryd.prog.info? 45).map (·.size) = some q.cells.length) := seat_info q
 have N34 : Below w2.heap.size w2 W4 := hb3.trans (hw4.below (Nat.le_refl _) (by omega))
 have hW3' : Hid (w2.alloc (.cells #[.int .i64 0, .int .i64 0, .bool false, .int .i64 0, .slice none 0 0, .slice none 0 0, .bool false, .int .i64 0, .slice none 0 0, .slice none 0 0, .bool false, .int .i64 0, .slice none 0 0, .slice none 0 0, .bool false, .int .i64 0, .slice none 0 0, .slice none 0 0, .bool false, .bool false] 45) = W3) := hW3.out
 have hW4' : Hid (W3.setCells w2.heap.size 0 q.cells.toArray.toList = W4) := hW4.out
 have N2 : Below w.heap.size w w2 := hbW.trans (hb2.mono hbW.size)
 have N4 : Below w.heap.size w W4 := N2.trans (N34.mono N2.size)
 have b6 : Box W4 (w.heap.size + 1) zeroSt.cells 45 := (b1.below hb2 b1.lt).below N34 (by omega)
 have oq4 := oq2.below N34
 have p4 := hp.below N4
 have hz4 := b4.lt
 clear hW3 hW4 hs3 hs4 hw4 hb3 b3 ho2 hts b1 oq2 hp
 go_upto_region 2 with (first | (guard_target = wpList _ _ _ (Oper.mk (some 14) _ _ _ _ _ :: _) _ _; refine build_seat (.tmp 11) (.tmp 13) no pg.lsn x0 x1 x2 x3 rfl rfl ?_; rw [hq.out]) | (guard_target = wpList _ _ _ (Oper.mk none (Op.store _ (Operand.tmp 8) _) _ _ _ _ :: _) _ _; refine wpList_store_mid rfl 45 (.tmp 8) (.tmp 14) rfl w2.heap.size 0 q.cells.toArray rfl rfl (by rw [hW3'.out]; exact HT4.out) HI.out HO4 ?_; rw [hW3'.out, hW4'.out]) | fail)
 clear hq hW3' hW4' HT4
 have y0 := p4.box.cell o _ p4.c0
 by_cases hlt : ss.length < 3
 ·have hltb : (ss.length : Int) < 3 := by omega
  go_upto_region 3 with fail
  clear y0
  have d4 : Box W4.drew B vs t := p4.box.drewN 1
  have e4 : Box W4.drew w2.heap.size q.cells 45 := b4.drewN 1
  have y0 := d4.cell o _ p4.c0
  have r4 : W4.drew.rangeAt w2.heap.size 0 q.cells := Box.range [] q.cells [] (by simpa using e4)
  refine wp_region_held_drew (S := fun w' => w'.rangeAt w2.heap.size 0 q.cells ∧ True) (by kernel_rfl) ?_ (fun hHeld => ?_)
  ·exact ⟨r4, trivial⟩
  refine tk 0 (v := .pointer (some ⟨B, o, none⟩)) rfl (Or.inl ⟨by rfl, ?_⟩) hHeld ?_
  ·intro w' hSw
   go_simp <;> rfl
  try simp only [Act.put, zA, zB, zD, zE, zF]
  refine tk 1 (v := .pointer (some ⟨B, o, none⟩)) rfl (Or.inl ⟨by rfl, ?_⟩) hHeld ?_
  ·intro w' hSw
   go_simp <;> rfl
  try simp only [Act.put, zA, zB, zC, zD, zE, zF]
  refine tk 2 (v := .pointer (some ⟨B, o, none⟩)) rfl (Or.inl ⟨by rfl, ?_⟩) hHeld ?_
  ·intro w' hSw
   go_simp <;> rfl
  try simp only [Act.put, zA, zB, zC, zD, zE, zF]
  refine tk 3 (v := .pointer (some ⟨B, o, none⟩)) rfl (Or.inl ⟨by rfl, ?_⟩) hHeld ?_
  ·intro w' hSw
   go_simp <;> rfl
  try simp only [Act.put, zA, zB, zC, zD, zE, zF]
  refine tk 5 rfl (yieldsIf_load_mid (by rfl) _ _ rfl _ _ rfl q.cells _ (fun _ h => h.1) Tryd.underlying45 rfl HI.out) hHeld ?_
  try simp only [Act.put, zA, zB, zC, zD, zE, zF]
  refine wpAnyH_ready (rs := [4, 6]) (by kernel_rfl) (by simp) ?_
  refine AllReadyH.cons rfl (fun K hK => ?_) (AllReadyH.cons rfl (fun K hK => ?_) AllReadyH.nil)
  ·go_simp
   refine hK.out _ _ (hHeld) (fun hHeld => ?_)
   clear hK K
   try simp only [Act.put, zA, zB, zC, zD, zE, zF]
   refine wpAnyH_ready (rs := [6]) (by kernel_rfl) (by simp) ?_
   refine AllReadyH.cons rfl (fun K hK => ?_) AllReadyH.nil
   go_simp
   simp only [cellsSt_len, lit_seat, not_true_eq_false, Nat.lt_irrefl, or_self, if_false]
   go_simp
   obtain ⟨V5, hV5, b5', hb5, hs5⟩ := boxes1 W4 q.cells 45
   rw [hV5.out]
   obtain ⟨W5, hW5⟩ : ∃ W5, Hid (V5.drew = W5) := ⟨_, rfl⟩
   rw [hW5.out]
   have b5 : Box W5 W4.heap.size q.cells 45 := by rw [← hW5.out]; exact b5'.drewN 1
   have ND : Below W4.heap.size W4 W5 := by rw [← hW5.out]; exact hb5.drew
   have p5 := p4.below ND
   have oq5 := oq4.below ND
   have b65 := b6.below ND b6.lt
   have b45 := b4.below ND b4.lt
   have r5 : W5.rangeAt W4.heap.size 0 q.cells := Box.range [] q.cells [] (by simpa using b5)
   have r45 : W5.rangeAt w2.heap.size 0 q.cells := Box.range [] q.cells [] (by simpa using b45)
   have N5 : Below w.heap.size w W5 := N4.trans (ND.mono N4.size)
   have hs45 := ND.size
   clear hs5 hb5 hW5 hV5 b5 b5' b45
   refine hK.out _ _ (⟨r45, trivial⟩) (fun hHeld => ?_)
   clear hK K
   try simp only [Act.put, zA, zB, zC, zD, zE, zF]
   refine wpAnyH_ready (rs := [7]) (by kernel_rfl) (by simp) ?_
   refine AllReadyH.cons rfl (fun K hK => ?_) AllReadyH.nil
   refine step_append_seat rfl (.tmp 25) (.tmp 27) rfl lo hi a c ss rfl p5.own W4.heap.size 0 1 q rfl r5 W.heap.size w2.heap.size oq5 (by omega) (by omega) (by omega) hlo ?_
   intro a9 c9 w9 o9 g9 f9
   obtain ⟨ys, hys⟩ : ∃ ys, Hid (ss ++ [q] = ys) := ⟨_, rfl⟩
   have HOB : Hid (∀ k ∈ blocksSts a9 c9 (ss ++ [q]), k ∈ blocksSts a c ss ∨ W.heap.size ≤ k) := fun k hk => by
    simp only [blocksSts, List.mem_append, Option.mem_toList, List.flatMap_append, List.flatMap_cons, List.flatMap_nil, List.append_nil] at hk ⊢
    rcases hk with hk | hk | hk
    ·rcases f9 k hk with h | h
     ·exact .inl (.inl h)
     ·exact .inr (by have := ND.size; omega)
    ·exact .inl (.inr hk)
    ·exact .inr (by have := (oq5.blocks_lt k hk).1; omega)
   rw [hys.out] at o9 HOB ⊢
   have t9 : Touch (blocksSts a c ss) W5 w9 := Touch.of_grown g9 (fun k hk => List.mem_append.2 (.inl (Option.mem_toList.2 hk)))
   have hltb : ∀ k ∈ blocksSts a c ss, k < w.heap.size := fun k hk => by have := (p5.own.blocks_lt k hk).2; omega
   have k9 := p5.box.touch t9 p5.off
   have b69 := b65.touch t9 (fun hk => by have := hltb _ hk; omega)
   have hs9 := t9.size
   have hw2n : w2.heap.size ∉ blocksSts a c ss := fun hk => by have := hltb _ hk; omega
   have r49 : w9.rangeAt w2.heap.size 0 q.cells := rangeAt_block r45 (t9.block _ (by omega) hw2n)
   have T9 : Touch (B :: blocksSts a c ss) w w9 := (Touch.of_below N5).trans (t9.mono (fun k hk => List.mem_cons_of_mem _ hk))
   refine hK.out _ _ (⟨r49, trivial⟩) (fun hHeld => ?_)
   clear hK K g9 f9
   try simp only [Act.put, zA, zB, zC, zD, zE, zF]
   refine tk 8 (v := .pointer (some ⟨B, o, none⟩)) rfl (Or.inl ⟨by rfl, ?_⟩) hHeld ?_
   ·intro w' hSw
    go_simp <;> rfl
   try simp only [Act.put, zA, zB, zC, zD, zE, zF]
   refine tk 9 (v := .pointer (some ⟨B, o, none⟩)) rfl (Or.inl ⟨by rfl, ?_⟩) hHeld ?_
   ·intro w' hSw
    go_simp <;> rfl
   try simp only [Act.put, zA, zB, zC, zD, zE, zF]
   have m0 := k9.cell o _ p4.c0
   have mf0 := k9.frozen o
   obtain ⟨WF, hWF, kF, hwF, hsF⟩ := box_set k9 o (.slice a9 ys.length c9)
   have hsFa := Nat.le_of_eq hsF
   have hsFb := Nat.le_of_eq hsF.symm
   clear hsF
   have tF : Touch [B] w9 WF := ⟨hwF.os, hwF.tape, hwF.output, hwF.size, fun j hj hn => hwF.block j hj (fun hh => hn (by simp; omega))⟩
   have hBw : B < w.heap.size := by have := p4.box.lt; exact hBlt
   have hBy : B ∉ blocksSts a9 c9 ys := fun hk => (HOB.out B hk).elim p4.off (fun h => by omega)
   have oF := o9.touch tF (fun k hk hk' => hBy (by rw [← List.mem_singleton.1 hk']; exact hk))
   have b6F := b69.touch tF (by simp; omega)
   have r4F : WF.rangeAt w2.heap.size 0 q.cells := rangeAt_block r49 (tF.block _ (by omega) (by simp; omega))
   have TF : Touch (B :: blocksSts a c ss) w WF := T9.trans (tF.mono (by simp))
   refine wpAnyH_ready (rs := [10]) (by kernel_rfl) (by simp) ?_
   refine AllReadyH.cons rfl (fun K hK => ?_) AllReadyH.nil
   go_simp
   rw [hWF.out]
   refine hK.out _ _ (⟨r4F, trivial⟩) (fun hHeld => ?_)
   clear hK K
   try simp only [Act.put, zA, zB, zC, zD, zE, zF]
   refine wpAnyH_done (by kernel_rfl) ?_ _
   clear m0 mf0 hWF
   obtain ⟨WG, hWG, hwG, hsG, HTG, HLG, bG⟩ := seat_out zeroSt _ rfl b6F
   have hsGa := Nat.le_of_eq hsG
   have hsGb := Nat.le_of_eq hsG.symm
   clear hsG
   have hWG' : Hid (WF.setCells (w.heap.size + 1) 0 zeroSt.cells.toArray.toList = WG) := hWG.out
   have tG : Touch [w.heap.size + 1] WF WG := ⟨hwG.os, hwG.tape, hwG.output, hwG.size, fun j hj hn => hwG.block j hj (fun hh => hn (by simp; omega))⟩
   have hn1 : w.heap.size + 1 ∉ blocksSts a9 c9 ys := fun hk => (HOB.out _ hk).elim (fun h => by have := hltb _ h; omega) (fun h => by omega)
   have kG := kF.touch tG (by simp; omega)
   have oG := (oF.touch tG (fun k hk hk' => hn1 (by rw [← List.mem_singleton.1 hk']; exact hk))).widen (Nat.le_refl _) (show w9.heap.size ≤ WG.heap.size by omega) (Nat.le_refl _)
   have TG : Touch (B :: blocksSts a c ss) w WG := ⟨tG.os.trans TF.os, tG.tape.trans TF.tape, tG.output.trans TF.output, Nat.le_trans TF.size tG.size, fun j hj hn => (tG.block j (by have := TF.size; omega) (by simp; omega)).trans (TF.block j hj hn)⟩
   have HEND : Hid (bringV (ss.map SeatA.v) h ⟨no, pg.lsn, pg.ss.map (·.v), false, true⟩ = (ys.map SeatA.v, h, zeroSt.v, false)) := by
    rw [Hid, bringV, if_pos (by rw [List.length_map]; exact hlt), ← hys.out, List.map_append, ← HQV.out]
    rfl
   have HPL : Hid (Brought lo B o vs t a c ss w WG ys a9 c9 h zeroSt) := by
    refine ⟨⟨?_, ?_, ?_, oG, hBy⟩, fun k hk => (HOB.out k hk).imp id (fun h => by omega), TG, zeroSt_own _ _ _ (Nat.le_refl _), fun k hk => by simp [zeroSt_blocks] at hk⟩
    ·rw [set_set_ne p4.c1]; exact kG
    ·rw [List.getElem?_set_ne (by omega), List.getElem?_set_self (List.getElem?_eq_some_iff.1 p4.c0).1]
    ·rw [List.getElem?_set_self (by rw [List.length_set]; exact (List.getElem?_eq_some_iff.1 p4.c1).1)]
   have HTG' : WF.there (w.heap.size + 1) 0 zeroSt.cells.toArray.size := HTG.out
   have HIz : (Tryd.prog.info? 45).map (·.size) = some zeroSt.cells.toArray.size := seat_info zeroSt
   have HOz := seat_one zeroSt
   clear kG oG TG kF oF b6F TF tG tF
   obtain ⟨Zs, hZs⟩ : ∃ Zs, Hid (zeroSt = Zs) := ⟨_, rfl⟩
   rw [hZs.out] at HTG' HIz HOz hWG' HLG HPL HEND
   go_wp2_with (first | (guard_target = wpList _ _ _ (Oper.mk (some 31) _ _ _ _ _ :: _) _ _; refine build_zero_seat ?_; rw [hZs.out]) | (guard_target = wpList _ _ _ (Oper.mk none (Op.store _ (Operand.tmp 6) _) _ _ _ _ :: _) _ _; refine wpList_store_mid rfl 45 (.tmp 6) (.tmp 31) rfl (w.heap.size + 1) 0 Zs.cells.toArray rfl rfl HTG' HIz HOz ?_; rw [hWG'.out]) | fail)
   exact bodyPost_ret (v := .tuple #[.agg Zs.cells.toArray, .bool false]) (results_cell_flag Tryd.results25 rfl HLG.out rfl) rfl ⟨ys, a9, c9, h, Zs, false, rfl, HEND, HPL.out⟩
  ·go_simp
   simp only [cellsSt_len, lit_seat, not_true_eq_false, Nat.lt_irrefl, or_self, if_false]
   go_simp
   obtain ⟨V5, hV5, b5', hb5, hs5⟩ := boxes1 W4 q.cells 45
   rw [hV5.out]
   obtain ⟨W5, hW5⟩ : ∃ W5, Hid (V5.drew = W5) := ⟨_, rfl⟩
   rw [hW5.out]
   have b5 : Box W5 W4.heap.size q.cells 45 := by rw [← hW5.out]; exact b5'.drewN 1
   have ND : Below W4.heap.size W4 W5 := by rw [← hW5.out]; exact hb5.drew
   have p5 := p4.below ND
   have oq5 := oq4.below ND
   have b65 := b6.below ND b6.lt
   have b45 := b4.below ND b4.lt
   have r5 : W5.rangeAt W4.heap.size 0 q.cells := Box.range [] q.cells [] (by simpa using b5)
   have r45 : W5.rangeAt w2.heap.size 0 q.cells := Box.range [] q.cells [] (by simpa using b45)
   have N5 : Below w.heap.size w W5 := N4.trans (ND.mono N4.size)
   have hs45 := ND.size
   clear hs5 hb5 hW5 hV5 b5 b5' b45
   refine hK.out _ _ (⟨r45, trivial⟩) (fun hHeld => ?_)
   clear hK K
   try simp only [Act.put, zA, zB, zC, zD, zE, zF]
   clear y0
   have y0 := p5.box.cell o _ p4.c0
   refine wpAnyH_ready (rs := [4]) (by kernel_rfl) (by simp) ?_
   refine AllReadyH.cons rfl (fun K hK => ?_) AllReadyH.nil
   go_simp
   refine hK.out _ _ (hHeld) (fun hHeld => ?_)
   clear hK K
   try simp only [Act.put, zA, zB, zC, zD, zE, zF]
   refine wpAnyH_ready (rs := [7]) (by kernel_rfl) (by simp) ?_
   refine AllReadyH.cons rfl (fun K hK => ?_) AllReadyH.nil
   refine step_append_seat rfl (.tmp 25) (.tmp 27) rfl lo hi a c ss rfl p5.own W4.heap.size 0 1 q rfl r5 W.heap.size w2.heap.size oq5 (by omega) (by omega) (by omega) hlo ?_
   intro a9 c9 w9 o9 g9 f9
   obtain ⟨ys, hys⟩ : ∃ ys, Hid (ss ++ [q] = ys) := ⟨_, rfl⟩
   have HOB : Hid (∀ k ∈ blocksSts a9 c9 (ss ++ [q]), k ∈ blocksSts a c ss ∨ W.heap.size ≤ k) := fun k hk => by
    simp only [blocksSts, List.mem_append, Option.mem_toList, List.flatMap_append, List.flatMap_cons, List.flatMap_nil, List.append_nil] at hk ⊢
    rcases hk with hk | hk | hk
    ·rcases f9 k hk with h | h
     ·exact .inl (.inl h)
     ·exact .inr (by have := ND.size; omega)
    ·exact .inl (.inr hk)
    ·exact .inr (by have := (oq5.blocks_lt k hk).1; omega)
   rw [hys.out] at o9 HOB ⊢
   have t9 : Touch (blocksSts a c ss) W5 w9 := Touch.of_grown g9 (fun k hk => List.mem_append.2 (.inl (Option.mem_toList.2 hk)))
   have hltb : ∀ k ∈ blocksSts a c ss, k < w.heap.size := fun k hk => by have := (p5.own.blocks_lt k hk).2; omega
   have k9 := p5.box.touch t9 p5.off
   have b69 := b65.touch t9 (fun hk => by have := hltb _ hk; omega)
   have hs9 := t9.size
   have hw2n : w2.heap.size ∉ blocksSts a c ss := fun hk => by have := hltb _ hk; omega
   have r49 : w9.rangeAt w2.heap.size 0 q.cells := rangeAt_block r45 (t9.block _ (by omega) hw2n)
   have T9 : Touch (B :: blocksSts a c ss) w w9 := (Touch.of_below N5).trans (t9.mono (fun k hk => List.mem_cons_of_mem _ hk))
   refine hK.out _ _ (⟨r49, trivial⟩) (fun hHeld => ?_)
   clear hK K g9 f9
   try simp only [Act.put, zA, zB, zC, zD, zE, zF]
   refine tk 8 (v := .pointer (some ⟨B, o, none⟩)) rfl (Or.inl ⟨by rfl, ?_⟩) hHeld ?_
   ·intro w' hSw
    go_simp <;> rfl
   try simp only [Act.put, zA, zB, zC, zD, zE, zF]
   refine tk 9 (v := .pointer (some ⟨B, o, none⟩)) rfl (Or.inl ⟨by rfl, ?_⟩) hHeld ?_
   ·intro w' hSw
    go_simp <;> rfl
   try simp only [Act.put, zA, zB, zC, zD, zE, zF]
   have m0 := k9.cell o _ p4.c0
   have mf0 := k9.frozen o
   obtain ⟨WF, hWF, kF, hwF, hsF⟩ := box_set k9 o (.slice a9 ys.length c9)
   have hsFa := Nat.le_of_eq hsF
   have hsFb := Nat.le_of_eq hsF.symm
   clear hsF
   have tF : Touch [B] w9 WF := ⟨hwF.os, hwF.tape, hwF.output, hwF.size, fun j hj hn => hwF.block j hj (fun hh => hn (by simp; omega))⟩
   have hBw : B < w.heap.size := by have := p4.box.lt; exact hBlt
   have hBy : B ∉ blocksSts a9 c9 ys := fun hk => (HOB.out B hk).elim p4.off (fun h => by omega)
   have oF := o9.touch tF (fun k hk hk' => hBy (by rw [← List.mem_singleton.1 hk']; exact hk))
   have b6F := b69.touch tF (by simp; omega)
   have r4F : WF.rangeAt w2.heap.size 0 q.cells := rangeAt_block r49 (tF.block _ (by omega) (by simp; omega))
   have TF : Touch (B :: blocksSts a c ss) w WF := T9.trans (tF.mono (by simp))
   refine wpAnyH_ready (rs := [10]) (by kernel_rfl) (by simp) ?_
   refine AllReadyH.cons rfl (fun K hK => ?_) AllReadyH.nil
   go_simp
   rw [hWF.out]
   refine hK.out _ _ (⟨r4F, trivial⟩) (fun hHeld => ?_)
   clear hK K
   try simp only [Act.put, zA, zB, zC, zD, zE, zF]
   refine wpAnyH_done (by kernel_rfl) ?_ _
   clear m0 mf0 hWF
   obtain ⟨WG, hWG, hwG, hsG, HTG, HLG, bG⟩ := seat_out zeroSt _ rfl b6F
   have hsGa := Nat.le_of_eq hsG
   have hsGb := Nat.le_of_eq hsG.symm
   clear hsG
   have hWG' : Hid (WF.setCells (w.heap.size + 1) 0 zeroSt.cells.toArray.toList = WG) := hWG.out
   have tG : Touch [w.heap.size + 1] WF WG := ⟨hwG.os, hwG.tape, hwG.output, hwG.size, fun j hj hn => hwG.block j hj (fun hh => hn (by simp; omega))⟩
   have hn1 : w.heap.size + 1 ∉ blocksSts a9 c9 ys := fun hk => (HOB.out _ hk).elim (fun h => by have := hltb _ h; omega) (fun h => by omega)
   have kG := kF.touch tG (by simp; omega)
   have oG := (oF.touch tG (fun k hk hk' => hn1 (by rw [← List.mem_singleton.1 hk']; exact hk))).widen (Nat.le_refl _) (show w9.heap.size ≤ WG.heap.size by omega) (Nat.le_refl _)
   have TG : Touch (B :: blocksSts a c ss) w WG := ⟨tG.os.trans TF.os, tG.tape.trans TF.tape, tG.output.trans TF.output, Nat.le_trans TF.size tG.size, fun j hj hn => (tG.block j (by have := TF.size; omega) (by simp; omega)).trans (TF.block j hj hn)⟩
   have HEND : Hid (bringV (ss.map SeatA.v) h ⟨no, pg.lsn, pg.ss.map (·.v), false, true⟩ = (ys.map SeatA.v, h, zeroSt.v, false)) := by
    rw [Hid, bringV, if_pos (by rw [List.length_map]; exact hlt), ← hys.out, List.map_append, ← HQV.out]
    rfl
   have HPL : Hid (Brought lo B o vs t a c ss w WG ys a9 c9 h zeroSt) := by
    refine ⟨⟨?_, ?_, ?_, oG, hBy⟩, fun k hk => (HOB.out k hk).imp id (fun h => by omega), TG, zeroSt_own _ _ _ (Nat.le_refl _), fun k hk => by simp [zeroSt_blocks] at hk⟩
    ·rw [set_set_ne p4.c1]; exact kG
    ·rw [List.getElem?_set_ne (by omega), List.getElem?_set_self (List.getElem?_eq_some_iff.1 p4.c0).1]
    ·rw [List.getElem?_set_self (by rw [List.length_set]; exact (List.getElem?_eq_some_iff.1 p4.c1).1)]
   have HTG' : WF.there (w.heap.size + 1) 0 zeroSt.cells.toArray.size := HTG.out
   have HIz : (Tryd.prog.info? 45).map (·.size) = some zeroSt.cells.toArray.size := seat_info zeroSt
   have HOz := seat_one zeroSt
   clear kG oG TG kF oF b6F TF tG tF
   obtain ⟨Zs, hZs⟩ : ∃ Zs, Hid (zeroSt = Zs) := ⟨_, rfl⟩
   rw [hZs.out] at HTG' HIz HOz hWG' HLG HPL HEND
   go_wp2_with (first | (guard_target = wpList _ _ _ (Oper.mk (some 31) _ _ _ _ _ :: _) _ _; refine build_zero_seat ?_; rw [hZs.out]) | (guard_target = wpList _ _ _ (Oper.mk none (Op.store _ (Operand.tmp 6) _) _ _ _ _ :: _) _ _; refine wpList_store_mid rfl 45 (.tmp 6) (.tmp 31) rfl (w.heap.size + 1) 0 Zs.cells.toArray rfl rfl HTG' HIz HOz ?_; rw [hWG'.out]) | fail)
   exact bodyPost_ret (v := .tuple #[.agg Zs.cells.toArray, .bool false]) (results_cell_flag Tryd.results25 rfl HLG.out rfl) rfl ⟨ys, a9, c9, h, Zs, false, rfl, HEND, HPL.out⟩
 ·have h33 : ss.length = 3 := by omega
  have C := l6Victim_any lo hi B o vs t a c ss h W4 p4 h33 hh
  have hge : ¬ (ss.length : Int) < 3 := by omega
  clear h33
  go_wp2_with fail
  refine C.mono ?_
  clear C y0
  rintro e w5 ⟨us, k, hand', rfl, hvic, hul, p5, hbl, t5⟩
  have HN4 : Hid (∀ j, W4.heap.size ≤ j → j ∉ blocksSts a c us) := fun j hj hk => by have := (p5.own.blocks_lt j hk).2; have := N4.size; omega
  have hltb : ∀ j ∈ blocksSts a c us, j < w.heap.size := fun j hk => by have := (p5.own.blocks_lt j hk).2; omega
  have hk3 : k < 3 := by have h := (victim_hand 4 (ss.map SeatA.v) h hh).2; rw [hvic.out] at h; exact h
  obtain ⟨g, rfl⟩ : ∃ g, a = some ⟨g, 0, none⟩ := by
   rcases p5.own.row.2 with ⟨_, h0⟩ | ⟨g, cap', cur, hv, _⟩
   ·omega
   ·simp only [Value.slice.injEq] at hv; exact ⟨g, hv.1⟩
  have hmem : g ∈ blocksSts (some ⟨g, 0, none⟩) c us := by simp [blocksSts, Value.ownBlock]
  have hgB : B ≠ g := fun e => p5.off (e ▸ hmem)
  have hgw := hltb g hmem
  have r5 := (row_seat p5.own.row rfl k (by omega)).1
  have b65 := b6.touch t5 (by rw [← hbl.out]; exact not_part (by omega) (fun hk => by have := hltb _ hk; omega))
  have b45 := b4.touch t5 (by rw [← hbl.out]; exact not_part (by omega) (fun hk => by have := hltb _ hk; have := N2.size; omega))
  have oq5 := oq4.touch t5 (fun j hj hk => by have hj1 := (oq4.blocks_lt j hj).1; rcases List.mem_cons.1 hk with rfl | hk; omega; rw [← hbl.out] at hk; have := hltb _ hk; omega)
  have oold := p5.own.each (us.getD k zeroSt) (seatD_mem us k (by omega))
  have HOV : Hid (us.map SeatA.v = (victimV 4 (ss.map SeatA.v) h).1 ∧ hand' = (victimV 4 (ss.map SeatA.v) h).2.1 ∧ k = (victimV 4 (ss.map SeatA.v) h).2.2) := by rw [Hid, hvic.out]; exact ⟨rfl, rfl, rfl⟩
  obtain ⟨old, hold⟩ : ∃ old, Hid (us.getD k zeroSt = old) := ⟨_, rfl⟩
  rw [hold.out] at r5 oold
  have T5 : Touch (B :: blocksSts (some ⟨g, 0, none⟩) c ss) w w5 := (Touch.of_below N4).trans t5
  have hs5 := t5.size
  have z5 := p5.box.cell o _ p5.c0
  obtain ⟨W6, hW6, b10, hb6, hs6⟩ := boxes1 w5 zeroSt.cells 45
  obtain ⟨W7, hW7, hw7, hs7, HT7, _, b7⟩ := seat_out old _ rfl b10
  have hW6' : Hid (w5.alloc (.cells #[.int .i64 0, .int .i64 0, .bool false, .int .i64 0, .slice none 0 0, .slice none 0 0, .bool false, .int .i64 0, .slice none 0 0, .slice none 0 0, .bool false, .int .i64 0, .slice none 0 0, .slice none 0 0, .bool false, .int .i64 0, .slice none 0 0, .slice none 0 0, .bool false, .bool false] 45) = W6) := hW6.out
  have hW7' : Hid (W6.setCells w5.heap.size 0 old.cells.toArray.toList = W7) := hW7.out
  have N57 : Below w5.heap.size w5 W7 := hb6.trans (hw7.below (Nat.le_refl _) (by omega))
  have HO7 := seat_one old
  have HI7 : Hid ((Tryd.prog.info? 45).map (·.size) = some old.cells.length) := seat_info old
  have p7 := p5.below N57
  have b67 := b65.below N57 b65.lt
  have b47 := b45.below N57 b45.lt
  have oq7 := oq5.below N57
  have oold7 := oold.below N57
  have T7 := T5.trans (Touch.of_below N57)
  have hs57 := N57.size
  have hlt7 := b7.lt
  have hkb : (k : Int) < (us.length : Int) := by omega
  have hk0 : (0 : Int) ≤ (k : Int) := by omega
  have hul1 : us.length ≤ 3 := by omega
  have hul2 : 3 ≤ us.length := by omega
  clear hW6 hW7 hs6 hs7 hw7 hb6 b10 hul p4 p5 b6 b4 oq4 b65 b45 oq5 oold T5 t5 N57 hvic
  go_upto_region 7 with (first | (guard_target = wpList _ _ _ (Oper.mk (some 40) _ _ _ _ _ :: _) _ _; refine wpList_load_mid rfl 45 (.tmp 39) rfl g (k * 20) rfl old.cells _ r5 Tryd.underlying45 rfl HI7.out ?_) | (guard_target = wpList _ _ _ (Oper.mk none (Op.store _ (Operand.tmp 10) _) _ _ _ _ :: _) _ _; refine wpList_store_mid rfl 45 (.tmp 10) (.tmp 40) rfl w5.heap.size 0 old.cells.toArray rfl rfl (by rw [hW6'.out]; exact HT7.out) HI7.out HO7 ?_; rw [hW6'.out, hW7'.out]) | fail)
  simp only [Act.put]
  clear r5 z5 hW6' hW7' HT7 HO7
  have ND : Below W7.heap.size W7 W7.drew := (Below.refl _ _).drew
  have p8 := p7.below ND
  have b68 := b67.below ND b67.lt
  have b48 := b47.below ND b47.lt
  have b78 := b7.below ND b7.lt
  have oq8 := oq7.below ND
  have oold8 := oold7.below ND
  have T8 := T7.trans (Touch.of_below ND)
  have hs78 := ND.size
  clear p7 b67 b47 b7 oq7 oold7 T7
  have hkl : (us.take k).length = k := by rw [List.length_take]; omega
  obtain ⟨WF, hWF, oF, tF, hsF⟩ := OwnSts.fill (A := us.take k) (z := us.getD k zeroSt) (B := us.drop (k + 1)) (by rw [← seatD_split us k (by omega)]; exact p8.own) q oq8 (by omega) hlo (by omega)
  rw [hkl] at hWF
  rw [← seat_set us k q (by omega)] at oF
  have hsFa := Nat.le_of_eq hsF
  have hsFb := Nat.le_of_eq hsF.symm
  clear hsF hkl
  have hgn : g < w.heap.size := hgw
  have HWF : Hid (W7.drew.setCells g (k * 20) q.cells.toArray.toList = WF) := hWF.out
  have HTH : Hid (W7.drew.there g (k * 20) q.cells.toArray.size) := (row_seat p8.own.row rfl k (by omega)).2
  have S8 : W7.drew.cell? ⟨B, o, none⟩ = some (.slice (some ⟨g, 0, none⟩) us.length c) := p8.box.cell o _ p8.c0
  have R8 : W7.drew.rangeAt w2.heap.size 0 q.cells := Box.range [] q.cells [] (by simpa using b48)
  have bBF := p8.box.touch tF (by simpa using hgB)
  have SF : WF.cell? ⟨B, o, none⟩ = some (.slice (some ⟨g, 0, none⟩) us.length c) := bBF.cell o _ p8.c0
  have b4F := b48.touch tF (by simp; have := N2.size; omega)
  have RF : WF.rangeAt w2.heap.size 0 q.cells := Box.range [] q.cells [] (by simpa using b4F)
  have b6F := b68.touch tF (by simp; omega)
  have b7F := b78.touch tF (by simp; omega)
  have TF : Touch (B :: blocksSts (some ⟨g, 0, none⟩) c ss) w WF := T8.trans (tF.mono (fun j hj => List.mem_cons_of_mem _ (by rw [← hbl.out, List.mem_singleton.1 hj]; exact hmem)))
  have hng : g ∉ old.blocks := fun hk => rowSt_apart p8.own.row oold8 g rfl hk
  have HOB : Hid (∀ j ∈ blocksSts (some ⟨g, 0, none⟩) c (us.set k q), j ∈ blocksSts (some ⟨g, 0, none⟩) c ss ∨ W.heap.size ≤ j) := fun j hj => by
   simp only [blocksSts, List.mem_append, Option.mem_toList, List.length_set] at hj
   rcases hj with hj | hj
   ·exact .inl (by rw [← hbl.out]; exact List.mem_append.2 (.inl (Option.mem_toList.2 hj)))
   ·obtain ⟨r, hr, hj2⟩ := List.mem_flatMap.1 hj
    rcases List.mem_or_eq_of_mem_set hr with hr | rfl
    ·exact .inl (by rw [← hbl.out]; exact List.mem_append.2 (.inr (List.mem_flatMap.2 ⟨r, hr, hj2⟩)))
    ·exact .inr (oq8.blocks_lt j hj2).1
  refine wp_region_held_drew (S := fun w' => w'.cell? ⟨B, o, none⟩ = some (.slice (some ⟨g, 0, none⟩) us.length c) ∧ w'.rangeAt w2.heap.size 0 q.cells) (by kernel_rfl) ?_ (fun hHeld => ?_)
  ·exact ⟨S8, R8⟩
  refine tk 0 (v := .pointer (some ⟨B, o, none⟩)) rfl (Or.inl ⟨by rfl, ?_⟩) hHeld ?_
  ·intro w' hSw
   go_simp <;> rfl
  try simp only [Act.put, zA, zB, zD, zE, zF]
  refine tk 1 (v := .pointer (some ⟨B, o, none⟩)) rfl (Or.inl ⟨by rfl, ?_⟩) hHeld ?_
  ·intro w' hSw
   go_simp <;> rfl
  try simp only [Act.put, zA, zB, zC, zD, zE, zF]
  refine tk 2 (v := .pointer (some ⟨B, o, none⟩)) rfl (Or.inl ⟨by rfl, ?_⟩) hHeld ?_
  ·intro w' hSw
   go_simp <;> rfl
  try simp only [Act.put, zA, zB, zC, zD, zE, zF]
  refine tk 3 (v := .slice (some ⟨g, 0, none⟩) us.length c) rfl (Or.inl ⟨by rfl, ?_⟩) hHeld ?_
  ·intro w' hSw
   have hx := hSw.1
   go_simp <;> rfl
  try simp only [Act.put, zA, zB, zC, zD, zE, zF]
  refine tk 4 (v := .int .i64 k) rfl (Or.inl ⟨by rfl, ?_⟩) hHeld ?_
  ·intro w' hSw
   go_simp <;> rfl
  try simp only [Act.put, zA, zB, zC, zD, zE, zF]
  refine tk 5 rfl (yieldsIf_load_mid (by rfl) _ _ rfl _ _ rfl q.cells _ (fun _ h => h.2) Tryd.underlying45 rfl HI.out) hHeld ?_
  try simp only [Act.put, zA, zB, zC, zD, zE, zF]
  refine tk 6 (v := .pointer (some ⟨g, k * 20, none⟩)) rfl (Or.inl ⟨by rfl, ?_⟩) hHeld ?_
  ·intro w' hSw
   go_simp <;> rfl
  try simp only [Act.put, zA, zB, zC, zD, zE, zF]
  refine wpAnyH_ready (rs := [7]) (by kernel_rfl) (by simp) ?_
  refine AllReadyH.cons rfl (fun K hK => ?_) AllReadyH.nil
  rw [if_pos (by rfl)]
  refine wp_store_mid 45 (.tmp 47) (.tmp 46) rfl g (k * 20) q.cells.toArray rfl rfl HTH.out HI.out (seat_one q) ?_
  rw [HWF.out]
  refine hK.out _ _ (⟨SF, RF⟩) (fun hHeld => ?_)
  clear hK K
  try simp only [Act.put, zA, zB, zC]
  refine wpAnyH_done (by kernel_rfl) ?_ _
  clear HWF HTH S8 R8 SF RF hHeld
  obtain ⟨WG, hWG, hwG, hsG, HTG, HLG, bG⟩ := seat_out old _ rfl b6F
  have hsGa := Nat.le_of_eq hsG
  have hsGb := Nat.le_of_eq hsG.symm
  clear hsG
  have hWG' : Hid (WF.setCells (w.heap.size + 1) 0 old.cells.toArray.toList = WG) := hWG.out
  have tG : Touch [w.heap.size + 1] WF WG := ⟨hwG.os, hwG.tape, hwG.output, hwG.size, fun j hj hn => hwG.block j hj (fun hh => hn (by simp; omega))⟩
  have hBy : B ∉ blocksSts (some ⟨g, 0, none⟩) c (us.set k q) := fun hk => (HOB.out B hk).elim (fun h => p8.off (by rw [hbl.out]; exact h)) (fun h => by omega)
  have hn1 : w.heap.size + 1 ∉ blocksSts (some ⟨g, 0, none⟩) c (us.set k q) := fun hk => (HOB.out _ hk).elim (fun h => by rw [← hbl.out] at h; have := hltb _ h; omega) (fun h => by omega)
  have kG := bBF.touch tG (by simp; omega)
  have oG := (oF.touch tG (fun j hk hk' => hn1 (by rw [← List.mem_singleton.1 hk']; exact hk))).widen (Nat.le_refl _) (show max hi w2.heap.size ≤ WG.heap.size by omega) (Nat.le_refl _)
  have TG : Touch (B :: blocksSts (some ⟨g, 0, none⟩) c ss) w WG := ⟨tG.os.trans TF.os, tG.tape.trans TF.tape, tG.output.trans TF.output, Nat.le_trans TF.size tG.size, fun j hj hn => (tG.block j (by have := TF.size; omega) (by simp; omega)).trans (TF.block j hj hn)⟩
  have hnold : ∀ j ∈ old.blocks, j ∉ [w.heap.size + 1] := fun j hj hk => by have h1 := (oold8.blocks_lt j hj).2; have h2 := List.mem_singleton.1 hk; omega
  have oG2 := ((oold8.touch tF (fun j hj hk => hng (by rw [← List.mem_singleton.1 hk]; exact hj))).touch tG hnold).widen (Nat.le_refl lo) (show hi ≤ WG.heap.size by omega) (Nat.le_refl _)
  have hoB : ∀ j ∈ old.blocks, j ∈ blocksSts (some ⟨g, 0, none⟩) c ss := fun j hj => by rw [← hbl.out]; exact List.mem_append.2 (.inr (List.mem_flatMap.2 ⟨old, by rw [← hold.out]; exact seatD_mem us k (by omega), hj⟩))
  have HEND : Hid (bringV (ss.map SeatA.v) h ⟨no, pg.lsn, pg.ss.map (·.v), false, true⟩ = ((us.set k q).map SeatA.v, hand', old.v, true)) := by
   obtain ⟨e1, e2, e3⟩ := HOV.out
   rw [Hid, bringV, if_neg (by rw [List.length_map]; exact hlt), ← e1, ← e2, ← e3, seatV_at, hold.out, List.map_set, HQV.out]
  have HPL : Hid (Brought lo B o vs t (some ⟨g, 0, none⟩) c ss w WG (us.set k q) (some ⟨g, 0, none⟩) c hand' old) := by
   refine ⟨⟨?_, ?_, ?_, oG, hBy⟩, fun j hk => (HOB.out j hk).imp id (fun h => by omega), TG, oG2, hoB⟩
   ·have e : vs.set o (.slice (some ⟨g, 0, none⟩) (us.set k q).length c) = vs := by
     have hc := p8.c0
     rw [List.getElem?_set_ne (by omega)] at hc
     obtain ⟨_, h2⟩ := List.getElem?_eq_some_iff.1 hc
     rw [List.length_set, ← h2, List.set_getElem_self]
    rw [e]; exact kG
   ·have hc := p8.c0
    rw [List.getElem?_set_ne (by omega)] at hc ⊢
    rw [List.getElem?_set_self (List.getElem?_eq_some_iff.1 hc).1]
   ·have hc := (List.getElem?_eq_some_iff.1 p8.c1).1
    rw [List.length_set] at hc
    rw [List.getElem?_set_self (by rw [List.length_set]; exact hc)]
  have HTG' : WF.there (w.heap.size + 1) 0 old.cells.toArray.size := HTG.out
  have HOz := seat_one old
  have rL : WF.rangeAt w5.heap.size 0 old.cells := Box.range [] old.cells [] (by simpa using b7F)
  clear kG oG TG bBF oF b6F b4F b7F TF tG tF T8 p8 oq8 oold8 b68 b48 b78
  go_wp2_with (first | (guard_target = wpList _ _ _ (Oper.mk (some 48) _ _ _ _ _ :: _) _ _; refine wpList_load_mid rfl 45 (.tmp 10) rfl w5.heap.size 0 rfl old.cells _ rL Tryd.underlying45 rfl HI7.out ?_) | (guard_target = wpList _ _ _ (Oper.mk none (Op.store _ (Operand.tmp 6) _) _ _ _ _ :: _) _ _; refine wpList_store_mid rfl 45 (.tmp 6) (.tmp 48) rfl (w.heap.size + 1) 0 old.cells.toArray rfl rfl HTG' HI7.out HOz ?_; rw [hWG'.out]) | fail)
  exact bodyPost_ret (v := .tuple #[.agg old.cells.toArray, .bool true]) (results_cell_flag Tryd.results25 rfl HLG.out rfl) rfl ⟨us.set k q, some ⟨g, 0, none⟩, c, hand', old, true, rfl, HEND, HPL.out⟩
end Go.Proofs.YtoboickdkednkabDoor
namespace Go.Proofs.YtoboickdkednkabDoor
open Go.RowKit
theorem seatFrom_at (ss : List SeatV) : ∀ (no : Int) (b k : Nat), k < ss.length → (ss.getD k zeroStV).no = no → (∀ j, j < k → (ss.getD j zeroStV).no ≠ no) → seatFrom no ss b = ((b + k : Nat) : Int) := by
 induction ss with
 | nil => intro no b k h; simp at h
 | cons s r ih =>
  intro no b k hk he hn
  rw [seatFrom]
  cases k with
  | zero => simp only [List.getD_cons_zero] at he; rw [if_pos he]; simp
  | succ k =>
   have h0 := hn 0 (by omega)
   simp only [List.getD_cons_zero] at h0
   simp only [List.getD_cons_succ] at he
   rw [if_neg h0, ih no (b + 1) k (by simpa using hk) he (fun j hj => by have := hn (j + 1) (by omega); simpa using this)]
   omega
theorem seatFrom_none (ss : List SeatV) : ∀ (no : Int) (b : Nat), (∀ j, j < ss.length → (ss.getD j zeroStV).no ≠ no) → seatFrom no ss b = -1 := by
 induction ss with
 | nil => intro no b _; rfl
 | cons s r ih =>
  intro no b hn
  have h0 := hn 0 (by simp)
  simp only [List.getD_cons_zero] at h0
  rw [seatFrom, if_neg h0, ih no (b + 1) (fun j hj => by have := hn (j + 1) (by simpa using hj); simpa using this)]
theorem seated_at {ss : List SeatV} {no : Int} {k : Nat} (hk : k < ss.length) (he : (ss.getD k zeroStV).no = no) (hn : ∀ j, j < k → (ss.getD j zeroStV).no ≠ no) : seatedOf ss no = k := by
 have := seatFrom_at ss no 0 k hk he hn
 simpa [seatedOf] using this
theorem seated_none {ss : List SeatV} {no : Int} (hn : ∀ j, j < ss.length → (ss.getD j zeroStV).no ≠ no) : seatedOf ss no = -1 := seatFrom_none ss no 0 hn
theorem seated_cases (ss : List SeatV) (no : Int) : (∃ k : Nat, k < ss.length ∧ (ss.getD k zeroStV).no = no ∧ (∀ j, j < k → (ss.getD j zeroStV).no ≠ no) ∧ seatedOf ss no = k) ∨ ((∀ j, j < ss.length → (ss.getD j zeroStV).no ≠ no) ∧ seatedOf ss no = -1) := by
 by_cases h : ∃ k, k < ss.length ∧ (ss.getD k zeroStV).no = no
 ·have hm : ∃ k, (k < ss.length ∧ (ss.getD k zeroStV).no = no) ∧ ∀ j, j < k → ¬ (j < ss.length ∧ (ss.getD j zeroStV).no = no) := by
   obtain ⟨k, hk⟩ := h
   induction k using Nat.strongRecOn with
   | _ k ih =>
    by_cases h2 : ∃ j, j < k ∧ (j < ss.length ∧ (ss.getD j zeroStV).no = no)
    ·obtain ⟨j, hj, hp⟩ := h2
     exact ih j hj hp
    ·exact ⟨k, hk, fun j hj hp => h2 ⟨j, hj, hp⟩⟩
  obtain ⟨k, ⟨h1, h2⟩, h3⟩ := hm
  have h4 : ∀ j, j < k → (ss.getD j zeroStV).no ≠ no := fun j hj e => h3 j hj ⟨by omega, e⟩
  exact .inl ⟨k, h1, h2, h4, seated_at h1 h2 h4⟩
 ·have h2 : ∀ j, j < ss.length → (ss.getD j zeroStV).no ≠ no := fun j hj e => h ⟨j, hj, e⟩
  exact .inr ⟨h2, seated_none h2⟩
def seatB (s : SeatV) : Bool := inB s.no 0 7 && okP s.lsn s.ss
def freshAt (ss : List SeatV) (i : Nat) : Bool := seatB (ss.getD i zeroStV) && decide (seatedOf ss (ss.getD i zeroStV).no = i)
def okPool (p : PoolV) : Bool := decide (p.seats.length ≤ 3) && (inB p.hand 0 2 && (List.range p.seats.length).all (freshAt p.seats))
theorem okPool_long {p : PoolV} (h : ¬ p.seats.length ≤ 3) : okPool p = false := by simp [okPool, h]
theorem okPool_hand {p : PoolV} (h : inB p.hand 0 2 = false) : okPool p = false := by simp [okPool, h]
theorem okPool_no {p : PoolV} (k : Nat) (hk : k < p.seats.length) (h : freshAt p.seats k = false) : okPool p = false := by
 have : (List.range p.seats.length).all (freshAt p.seats) = false := by
  rw [List.all_eq_false]
  exact ⟨k, List.mem_range.2 hk, by simp [h]⟩
 simp [okPool, this]
theorem okPool_yes {p : PoolV} (h1 : p.seats.length ≤ 3) (h2 : inB p.hand 0 2 = true) (h : ∀ k, k < p.seats.length → freshAt p.seats k = true) : okPool p = true := by
 have : (List.range p.seats.length).all (freshAt p.seats) = true := by
  rw [List.all_eq_true]
  exact fun k hk => h k (List.mem_range.1 hk)
 simp [okPool, this, h1, h2]
theorem okPool_iff {p : PoolV} (h : okPool p = true) : p.seats.length ≤ 3 ∧ inB p.hand 0 2 = true ∧ ∀ k, k < p.seats.length → freshAt p.seats k = true := by
 simp only [okPool, Bool.and_eq_true, decide_eq_true_eq, List.all_eq_true] at h
 exact ⟨h.1, h.2.1, fun k hk => h.2.2 k (List.mem_range.2 hk)⟩
theorem fresh_bad {ss : List SeatV} {i : Nat} (h : seatB (ss.getD i zeroStV) = false) : freshAt ss i = false := by simp only [freshAt, h, Bool.false_and]
theorem fresh_dup {ss : List SeatV} {i k : Nat} (hk : k < i) (hi : i < ss.length) (he : (ss.getD k zeroStV).no = (ss.getD i zeroStV).no) : freshAt ss i = false := by
 have : seatedOf ss (ss.getD i zeroStV).no ≠ (i : Int) := by
  rcases seated_cases ss (ss.getD i zeroStV).no with ⟨j, h1, h2, h3, h4⟩ | ⟨h1, _⟩
  ·rw [h4]
   intro e
   have : j = i := by omega
   subst this
   exact h3 k hk he
  ·exact absurd rfl (h1 i hi)
 rw [freshAt, decide_eq_false this, Bool.and_false]
theorem fresh_yes {ss : List SeatV} {i : Nat} (hi : i < ss.length) (hb : seatB (ss.getD i zeroStV) = true) (h : ∀ k, k < i → (ss.getD k zeroStV).no ≠ (ss.getD i zeroStV).no) : freshAt ss i = true := by
 have := seated_at hi rfl h
 rw [freshAt, hb, decide_eq_true this]
 rfl
def victimOf (p : PoolV) : PoolV × Int :=
 if okPool p = true ∧ p.seats.length = 3 then (⟨(victimV 4 p.seats p.hand.toNat).1, (victimV 4 p.seats p.hand.toNat).2.1⟩, (victimV 4 p.seats p.hand.toNat).2.2) else (p, -1)
def mayBring (p : PoolV) (no lsn : Int) (ss : List SlotV) : Bool := okPool p && (inB no 0 7 && (okP lsn ss && decide (seatedOf p.seats no < 0)))
def bringOf (p : PoolV) (no lsn : Int) (ss : List SlotV) : PoolV × SeatV × Bool :=
 if mayBring p no lsn ss = true then (⟨(bringV p.seats p.hand.toNat ⟨no, lsn, ss, false, true⟩).1, (bringV p.seats p.hand.toNat ⟨no, lsn, ss, false, true⟩).2.1⟩, (bringV p.seats p.hand.toNat ⟨no, lsn, ss, false, true⟩).2.2.1, (bringV p.seats p.hand.toNat ⟨no, lsn, ss, false, true⟩).2.2.2) else (p, zeroStV, false)
theorem wide_of {ss : List SlotA} (hl : ∀ s ∈ ss, s.v.o.ints.length ≤ 1048576 ∧ s.v.o.refs.length ≤ 1048576) : ∀ s ∈ ss, s.v.o.ints.length ≤ 1099511627776 ∧ s.v.o.refs.length ≤ 1099511627776 := fun s hs => by have := hl s hs; omega
end Go.Proofs.YtoboickdkednkabDoor
namespace Go.Proofs.YtoboickdkednkabDoor
open Go.RowKit
theorem Tryd.infoPg (p : PageA) (h : p.ss.length = 4) : (Tryd.prog.info? 43).map (·.size) = some p.cells.length := by rw [page_len p h]; kernel_rfl
theorem Tryd.infoLPg (p : PageA) (h : p.ss.length = 4) : (Tryd.prog.info? 32).map (·.size) = some p.cells.length := by rw [page_len p h]; kernel_rfl
theorem page_one (p : PageA) : p.cells.toArray.all (·.oneCell') = true := all_oneCell_toArray (oneP p)
theorem seat_page {w : World} {B : Nat} {t : TypeId} (s : SeatA) (b : Box w B s.cells t) : w.rangeAt B 1 s.page.cells := by
 rw [SeatA.cells_page] at b
 exact Box.range [.int .i64 s.no] s.page.cells [.bool s.dirty, .bool s.hot] b
theorem seat_fill {w : World} {B : Nat} {t : TypeId} (s : SeatA) (b : Box w B s.cells t) (lsn : Int) (a b' c d : SlotA) :
  ∃ W, Hid (w.setCells B 1 (PageA.cells ⟨lsn, [a, b', c, d]⟩) = W) ∧ Box W B (SeatA.cells ⟨s.no, lsn, a, b', c, d, s.dirty, s.hot⟩) t ∧ Within B (B + 1) w W ∧ W.heap.size = w.heap.size ∧ w.there B 1 (PageA.cells ⟨lsn, [a, b', c, d]⟩).toArray.size := by
 have hth : w.there B 1 (PageA.cells ⟨lsn, [a, b', c, d]⟩).toArray.size := b.there 1 _ (by rw [List.size_toArray]; show 1 + 17 ≤ 20; decide)
 rw [SeatA.cells_page] at b
 obtain ⟨W, hW, bW, hw, hs⟩ := range_fill [.int .i64 s.no] s.page.cells (PageA.cells ⟨lsn, [a, b', c, d]⟩) [.bool s.dirty, .bool s.hot] b rfl
 refine ⟨W, hW, ?_, hw, hs, hth⟩
 rw [SeatA.cells_page]
 exact bW
theorem toSeat_any (s : SeatA) (w : World) (hr : s.reads w) (hl : s.short 1048576) :
  Calls Tryd.prog 47 #[.agg s.cells.toArray] w fun e w' => ∃ t : SeatA, e = .returned (.agg t.cells.toArray) ∧ Hid (t.v = s.v) ∧ t.own w' w.heap.size w'.heap.size ∧ Below w.heap.size w w' := by
 obtain ⟨V, hV, a0, a1, a2, hbV, hsV⟩ := boxes3 w s.cells [.int .i64 0, .int .i64 0, .bool false, .int .i64 0, .slice none 0 0, .slice none 0 0, .bool false, .int .i64 0, .slice none 0 0, .slice none 0 0, .bool false, .int .i64 0, .slice none 0 0, .slice none 0 0, .bool false, .int .i64 0, .slice none 0 0, .slice none 0 0, .bool false, .bool false] [.int .i64 0, .int .i64 0, .bool false, .int .i64 0, .slice none 0 0, .slice none 0 0, .bool false, .int .i64 0, .slice none 0 0, .slice none 0 0, .bool false, .int .i64 0, .slice none 0 0, .slice none 0 0, .bool false, .int .i64 0, .slice none 0 0, .slice none 0 0, .bool false, .bool false] 78 45 45
 have hs0V : w.heap.size + 1 + 1 < V.heap.size := by omega
 have b1V : Box V (w.heap.size + 1) zeroSt.cells 45 := a1
 obtain ⟨W, hW, b2', hwW, hsW⟩ := box_set a2 0 (.int .i64 s.no)
 have b0 := a0.within hwW (by omega)
 have b1' := b1V.within hwW (by omega)
 have hbW : Below w.heap.size w W := hbV.trans (hwW.below (by omega) (by omega))
 have hs0 : w.heap.size + 1 + 1 < W.heap.size := by omega
 have b2' : Box W (w.heap.size + 1 + 1) (SeatA.cells { zeroSt with no := s.no }) 45 := b2'
 have hc0 : V.cell? ⟨w.heap.size, 0, none⟩ = some (.int .i64 s.no) := a0.cell 0 _ rfl
 have hx0 := a2.cell 0 _ rfl
 have hf0 := a2.frozen 0
 have hrg0 : W.rangeAt w.heap.size 1 s.page.cells := seat_page s b0
 have HL := Tryd.infoLPg s.page rfl
 have C := toPage_own s.page rfl W (hr.below hbW) (wide_of hl)
 clear hsV hsW hwW b1V a0 a1 a2 hbV hs0V
 go_enter Tryd.func47, Tryd.ntmps47
 go_upto_region 2 with fail
 rw [hV.out]
 clear hV
 go_wp2_with (first | (guard_target = wpList _ _ _ (Oper.mk (some 8) _ _ _ _ _ :: _) _ _; rw [hW.out]; refine wpList_load_mid rfl 32 (.tmp 7) rfl w.heap.size 1 rfl s.page.cells _ hrg0 Tryd.underlying32 rfl HL ?_) | fail)
 clear hW hrg0 hc0 HL hx0 hf0
 refine C.mono ?_
 clear C
 rintro e w1 ⟨ts, rfl, hv, ho, hb1⟩
 obtain ⟨y0, y1, y2, y3, rfl⟩ := four_slots' (ts := ts) (by have := congrArg List.length hv.out; simpa [SeatA.page, SeatA.ss] using this)
 have hs1 := hb1.size
 have b01 := b0.below hb1 b0.lt
 have b11 := b1'.below hb1 b1'.lt
 have b21 := b2'.below hb1 b2'.lt
 obtain ⟨W2, hW2, b22, hw2, hs2, hth2⟩ := seat_fill _ b21 s.page.lsn y0 y1 y2 y3
 obtain ⟨W3, hW3, b33, hw3, hs3⟩ := box_set b22 18 (.bool s.dirty)
 obtain ⟨W4, hW4, b44, hw4, hs4⟩ := box_set b33 19 (.bool s.hot)
 obtain ⟨q, hq⟩ : ∃ q : SeatA, Hid ((⟨s.no, s.page.lsn, y0, y1, y2, y3, s.dirty, s.hot⟩ : SeatA) = q) := ⟨_, rfl⟩
 have b4q : Box W4 (w.heap.size + 1 + 1) q.cells 45 := by rw [← hq.out]; exact b44
 have b02 := b01.within hw2 (by omega)
 have b14 := ((b11.within hw2 (by omega)).within hw3 (by omega)).within hw4 (by omega)
 obtain ⟨WF, hWF, hwF, hsF, HTF, HLF, bF⟩ := seat_out q _ rfl b14
 have d18 : W2.cell? ⟨w.heap.size, 18, none⟩ = some (.bool s.dirty) := b02.cell 18 _ rfl
 have d19 : W2.cell? ⟨w.heap.size, 19, none⟩ = some (.bool s.hot) := b02.cell 19 _ rfl
 have x18 := b22.cell 18 _ rfl
 have x19 := b22.cell 19 _ rfl
 have f18 := b22.frozen 18
 have f19 := b22.frozen 19
 have r4 : W4.rangeAt (w.heap.size + 1 + 1) 0 q.cells := Box.range [] q.cells [] (by simpa using b4q)
 have oq : q.own w1 W.heap.size w1.heap.size := by rw [← hq.out]; exact ho
 have HV : Hid (q.v = s.v) := by rw [Hid, ← hq.out]; simp only [SeatA.v, SeatA.ss]; rw [show List.map (fun x : SlotA => x.v) [y0, y1, y2, y3] = s.page.ss.map (·.v) from hv.out]; rfl
 have HFIN : Hid (q.own WF w.heap.size WF.heap.size ∧ Below w.heap.size w WF) := ⟨((((oq.within hw2 (.inr (by omega))).within hw3 (.inr (by omega))).within hw4 (.inr (by omega))).within hwF (.inr (by omega))).widen (by omega) (by omega) (Nat.le_refl _), ((((hbW.trans (hb1.mono (by omega))).trans (hw2.below (by omega) (by omega))).trans (hw3.below (by omega) (by omega))).trans (hw4.below (by omega) (by omega))).trans (hwF.below (by omega) (by omega))⟩
 have H34 : Hid ((W2.setCell ⟨w.heap.size + 1 + 1, 18, none⟩ (.bool s.dirty)).setCell ⟨w.heap.size + 1 + 1, 19, none⟩ (.bool s.hot) = W4) := by rw [Hid, hW3.out, hW4.out]
 have HI1 := Tryd.infoPg ⟨s.page.lsn, [y0, y1, y2, y3]⟩ rfl
 have HO1 := page_one ⟨s.page.lsn, [y0, y1, y2, y3]⟩
 have HI2 := seat_info q
 have HO2 := seat_one q
 have HW2 : Hid (w1.setCells (w.heap.size + 1 + 1) 1 (PageA.cells ⟨s.page.lsn, [y0, y1, y2, y3]⟩).toArray.toList = W2) := hW2.out
 have HWF : Hid (W4.setCells (w.heap.size + 1) 0 q.cells.toArray.toList = WF) := hWF.out
 have HTF' : W4.there (w.heap.size + 1) 0 q.cells.toArray.size := HTF.out
 clear hW2 hW3 hW4 hWF HTF hq hs1 hs2 hs3 hs4 hsF hw2 hw3 hw4 hwF b01 b11 b21 b22 b33 b44 b4q b02 b14 bF oq ho hv hb1 b0 b1' b2' hbW
 generalize PageA.cells ⟨s.page.lsn, [y0, y1, y2, y3]⟩ = pc at *
 go_wp2_with (first | (guard_target = wpList _ _ _ (Oper.mk none (Op.store _ (Operand.tmp 10) _) _ _ _ _ :: _) _ _; refine wpList_store_mid rfl 43 (.tmp 10) (.tmp 9) rfl (w.heap.size + 1 + 1) 1 pc.toArray rfl rfl hth2 (by rw [List.size_toArray]; exact HI1) HO1 ?_; rw [HW2.out]) | (guard_target = wpList _ _ _ (Oper.mk (some 17) _ _ _ _ _ :: _) _ _; rw [H34.out]; refine wpList_load_mid rfl 45 (.tmp 3) rfl (w.heap.size + 1 + 1) 0 rfl q.cells _ r4 Tryd.underlying45 rfl HI2 ?_) | (guard_target = wpList _ _ _ (Oper.mk none (Op.store _ (Operand.tmp 2) _) _ _ _ _ :: _) _ _; refine wpList_store_mid rfl 45 (.tmp 2) (.tmp 17) rfl (w.heap.size + 1) 0 q.cells.toArray rfl rfl HTF' (by rw [List.size_toArray]; exact HI2) HO2 ?_; rw [HWF.out]) | fail)
 exact bodyPost_ret (v := .agg q.cells.toArray) (results_one Tryd.results47 rfl HLF.out) rfl ⟨q, rfl, HV, HFIN.out.1, HFIN.out.2⟩
theorem szSeat_any (s : SeatA) (left : Int) (w : World) (hn : s.short 9223372036854775807) (h0 : 0 ≤ left ∧ left ≤ 1048576) :
  Calls Tryd.prog 41 #[.agg s.cells.toArray, .int .i64 left] w fun e w' => ∃ z, e = .returned (.int .i64 z) ∧ (z < 0 ∨ (0 ≤ z ∧ z ≤ left ∧ s.short 1048576)) ∧ Below w.heap.size w w' := by
 obtain ⟨W, hW, b0, hbW, hsW⟩ := boxes1 w s.cells 78
 have hrg0 : W.rangeAt w.heap.size 1 s.page.cells := seat_page s b0
 have HL := Tryd.infoLPg s.page rfl
 have C := szPage_any s.page rfl left W hn h0
 clear hsW b0
 go_enter Tryd.func41, Tryd.ntmps41
 go_wp2_with (first | (guard_target = wpList _ _ _ (Oper.mk (some 6) _ _ _ _ _ :: _) _ _; refine wpList_load_mid rfl 32 (.tmp 5) rfl w.heap.size 1 rfl s.page.cells _ (by rw [hW.out]; exact hrg0) Tryd.underlying32 rfl HL ?_) | fail)
 rw [hW.out]
 clear hW hrg0 HL
 refine C.mono ?_
 clear C
 rintro e w1 ⟨z, rfl, hz, hb1⟩
 have HZ : Hid (z < 0 ∨ (0 ≤ z ∧ z ≤ left ∧ s.short 1048576)) := hz
 clear hz
 by_cases hneg : z < 0
 ·go_wp2
  go_ret
  exact ⟨-1, rfl, .inl (by omega), hbW.trans (hb1.mono hbW.size)⟩
 ·go_wp2
  go_ret
  exact ⟨z, rfl, HZ.out, hbW.trans (hb1.mono hbW.size)⟩
theorem eqSeat_same (s t : SeatA) (he : t.v = s.v) (w : World) (hs : s.reads w) (ht : t.reads w) (hl : s.short 1099511627776) :
  Calls Tryd.prog 11 #[.agg s.cells.toArray, .agg t.cells.toArray] w fun e w' => e = .returned (.bool true) ∧ Below w.heap.size w w' := by
 obtain ⟨W, hW, b0, b1, hbW, hsW⟩ := boxes2 w s.cells t.cells 45 45
 have HEQ : Hid (t.no = s.no ∧ t.lsn = s.lsn ∧ t.ss.map (·.v) = s.ss.map (·.v) ∧ t.dirty = s.dirty ∧ t.hot = s.hot) := by
  simp only [SeatA.v, SeatV.mk.injEq] at he
  exact he
 have hrg0 : W.rangeAt w.heap.size 1 s.page.cells := seat_page s b0
 have hrg1 : W.rangeAt (w.heap.size + 1) 1 t.page.cells := seat_page t b1
 have HI0 := Tryd.infoPg s.page rfl
 have HI1 := Tryd.infoPg t.page rfl
 have C := eqPage_same s.lsn s.ss t.ss rfl HEQ.out.2.2.1 W (hs.below hbW) (ht.below hbW) hl
 have e1 : PageA.cells ⟨s.lsn, t.ss⟩ = t.page.cells := by rw [SeatA.page, HEQ.out.2.1]
 rw [e1] at C
 have c0 : W.cell? ⟨w.heap.size, 0, none⟩ = some (.int .i64 s.no) := b0.cell 0 _ rfl
 have c1 : W.cell? ⟨w.heap.size + 1, 0, none⟩ = some (.int .i64 s.no) := (b1.cell 0 _ rfl).trans (by rw [HEQ.out.1])
 have HC : Hid (∀ u, Below W.heap.size W u → u.cell? ⟨w.heap.size, 18, none⟩ = some (.bool s.dirty) ∧ u.cell? ⟨w.heap.size, 19, none⟩ = some (.bool s.hot) ∧ u.cell? ⟨w.heap.size + 1, 18, none⟩ = some (.bool s.dirty) ∧ u.cell? ⟨w.heap.size + 1, 19, none⟩ = some (.bool s.hot)) := fun u hu => ⟨(b0.below hu b0.lt).cell 18 _ rfl, (b0.below hu b0.lt).cell 19 _ rfl, ((b1.below hu b1.lt).cell 18 _ rfl).trans (by rw [HEQ.out.2.2.2.1]), ((b1.below hu b1.lt).cell 19 _ rfl).trans (by rw [HEQ.out.2.2.2.2])⟩
 clear hsW b0 b1 he HEQ e1
 generalize hsc : s.cells = cs0 at *
 generalize htc : t.cells = cs1 at *
 clear hsc htc
 go_enter Tryd.func11, Tryd.ntmps11
 go_upto_region 1 with fail
 rw [hW.out]
 clear hW
 go_wp2_with (first | (guard_target = wpList _ _ _ (Oper.mk (some 11) _ _ _ _ _ :: _) _ _; refine wpList_load_mid rfl 43 (.tmp 10) rfl w.heap.size 1 rfl s.page.cells _ hrg0 Tryd.underlying43 rfl HI0 ?_) | (guard_target = wpList _ _ _ (Oper.mk (some 13) _ _ _ _ _ :: _) _ _; refine wpList_load_mid rfl 43 (.tmp 12) rfl (w.heap.size + 1) 1 rfl t.page.cells _ hrg1 Tryd.underlying43 rfl HI1 ?_) | fail)
 refine C.mono ?_
 clear C hrg0 hrg1 HI0 HI1 c0 c1
 rintro e w1 ⟨rfl, hb1⟩
 obtain ⟨d0, d1, d2, d3⟩ := HC.out w1 hb1
 clear HC
 generalize s.dirty = sd at *
 generalize s.hot = sh at *
 go_wp2
 go_ret
 exact ⟨rfl, hbW.trans (hb1.mono hbW.size)⟩
end Go.Proofs.YtoboickdkednkabDoor