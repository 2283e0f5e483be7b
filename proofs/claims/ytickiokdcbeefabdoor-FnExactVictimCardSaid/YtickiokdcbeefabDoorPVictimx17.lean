/- Several texts in one, in their order. -/
import Derived.Test.YtickiokdcbeefabDoorPVictimx15
import Derived.Test.YtickiokdcbeefabDoorPVictimx12
import Derived.Test.YtickiokdcbeefabDoorPVictimx16
/- Undone: what the model and the landed code make of a record, in common. -/
namespace Go.Proofs.YtickiokdcbeefabDoor
open Go.RowKit

/-- The record that undoes r, if all is right. -/
def backV (r : RecV) (n p : Int) : RecV := ⟨n, r.tx, p, 4, r.oid, noS, r.bf, r.prev, []⟩
def undoV (r : RecV) (n p : Int) : RecV := if okR r = true ∧ r.kind = 1 ∧ okR (backV r n p) = true then backV r n p else noR
theorem undoV_bad {r : RecV} {n p : Int} (h : okR r = false) : undoV r n p = noR := by unfold undoV; rw [if_neg]; rintro ⟨h1, _⟩; rw [h] at h1; cases h1
theorem undoV_kind {r : RecV} {n p : Int} (h : ¬ r.kind = 1) : undoV r n p = noR := by unfold undoV; rw [if_neg]; rintro ⟨_, h1, _⟩; exact h h1
theorem undoV_no {r : RecV} {n p : Int} (h : okR (backV r n p) = false) : undoV r n p = noR := by unfold undoV; rw [if_neg]; rintro ⟨_, _, h1⟩; rw [h] at h1; cases h1
theorem undoV_yes {r : RecV} {n p : Int} (h1 : okR r = true) (h2 : r.kind = 1) (h3 : okR (backV r n p) = true) : undoV r n p = backV r n p := by unfold undoV; rw [if_pos ⟨h1, h2, h3⟩]
theorem noR_bad : okR noR = false := rfl
theorem zero_own (w : World) (lo hi : Nat) (h : hi ≤ w.heap.size) : zeroS.own w lo hi := ⟨ownI_nil _ _ _ h, ownI_nil _ _ _ h, fun k hk => by cases hk⟩
/-- The record that undoes: only its slot has lists. -/
def backA (n tx p oid : Int) (t : SlotA) (x : Int) : RecA := ⟨n, tx, p, 4, oid, zeroS, t, x, [], none, 0⟩
theorem rec_one (q : RecA) : q.cells.toArray.all (·.oneCell') = true := all_oneCell_toArray (oneR q)
end Go.Proofs.YtickiokdcbeefabDoor

/- Appending a record that is read to a row that the call owns. -/
namespace Go.Proofs.YtickiokdcbeefabDoor
open Go.RowKit

theorem ownsRow_at {w : World} {base : Nat} {e : TypeId} {size n : Nat} {v : Value} {xs : List Value} (h : w.ownsRow base e size v n xs) {k : Nat} (hk : v.ownBlock = some k) : ∃ cur, w.heap[k]? = some (.cells cur e (0, 0)) := by
  rcases h.2 with ⟨rfl, _⟩ | ⟨g, cap, cur, rfl, _, hg, _⟩
  · cases hk
  · cases hk
    exact ⟨cur, hg⟩
end Go.Proofs.YtickiokdcbeefabDoor

/- Appending a seat that is read to a row that the call owns. -/
namespace Go.Proofs.YtickiokdcbeefabDoor
open Go.RowKit

theorem Tryd.infoSeat : (Tryd.prog.info? 51).map (fun i => (i.zero, i.size, i.bytes)) = some (some (.agg zeroSt.cells.toArray), 20, 280) := by kernel_rfl

/-- A row of records is none of the rows that hang at a record: their kinds differ. -/
theorem rowSt_apart {w : World} {base lo hi n : Nat} {v : Value} {xs : List Value} {r : SeatA} (h : w.ownsRow base 51 20 v n xs) (hr : r.own w lo hi) : ∀ k, v.ownBlock = some k → k ∉ r.blocks := by
  intro k hk hm
  obtain ⟨cur, hc⟩ := ownsRow_at h hk
  have no : ∀ {b2 s2 n2 : Nat} {e2 : TypeId} {v2 : Value} {x2 : List Value}, w.ownsRow b2 e2 s2 v2 n2 x2 → v2.ownBlock = some k → e2 = 51 := by
    intro b2 s2 n2 e2 v2 x2 h2 hk2
    obtain ⟨cur2, hc2⟩ := ownsRow_at h2 hk2
    rw [hc] at hc2
    simp only [Option.some.injEq, Obj.cells.injEq] at hc2
    exact hc2.2.1.symm
  obtain ⟨x, hx, hm⟩ := List.mem_flatMap.1 hm
  simp only [SlotA.blocks, List.mem_append, Option.mem_toList] at hm
  rcases hm with h1 | h1
  · have := no (hr.each x hx).ints.1 h1; cases this
  · have := no (hr.each x hx).refs.1 h1; cases this

theorem append_seat {w : World} {ops : Array Oper} {rest : List Oper} {o : Oper} {act : Act} {Q : Exit → Act → World → Prop} (hgd : o.guard = none) (s x : Operand)
    (ho : o.op = .call { callee := .builtin .append, args := #[s, x], argTypes := #[26, 26] })
    (lo hi : Nat) (a : Option Addr) (c : Nat) (rs : List SeatA) (hs : act.eval s = .slice a rs.length c) (hown : OwnSts w lo hi a c rs)
    (b off : Nat) (sc : Nat) (q : SeatA) (hx : act.eval x = .slice (some ⟨b, off, none⟩) 1 sc) (hr : w.rangeAt b off q.cells) (l u : Nat) (hq : q.own w l u) (hl : hi ≤ l) (hu : u ≤ w.heap.size)
    (hb : rs.length + 1 ≤ 68719476736) (hlo : lo ≤ hi)
    (h : ∀ a' c' w', OwnSts w' lo w'.heap.size a' c' (rs ++ [q]) → w.grownBy w' (Value.slice a rs.length c).ownBlock → wpList Tryd.prog ops Q rest (act.put o.dst (.slice a' (rs ++ [q]).length c')) w') :
    wpList Tryd.prog ops Q (o :: rest) act w := by
  obtain ⟨i0, hi0, hz0, hz1, hz2⟩ := info_parts Tryd.infoSeat
  have hqb := hq.blocks_lt
  have htop := hown.top
  refine wpList_append_own w hgd s x 26 ho lo 51 i0 (.agg zeroSt.cells.toArray) 20 280 Tryd.underlying26 hi0 hz0 hz1 hz2 rfl (by decide) _ _ _ hs hown.row ⟨b, off, none⟩ 1 sc q.cells hx (by rfl) ?_ (oneSt q) (by simp only [maxLen]; omega) (by omega) (by omega) (fun v' w' h1 h2 _ => ?_)
  · intro j v hj
    rw [Addr_add]
    exact hr j v hj
  · have e : cellsSts rs ++ q.cells = cellsSts (rs ++ [q]) := by rw [cellsSts_app, cellsSts_cons]; simp [cellsSts]
    have e2 : rs.length + 1 = (rs ++ [q]).length := by simp
    rw [e, e2] at h1
    have sh : ∃ a' c', v' = .slice a' (rs ++ [q]).length c' := by
      rcases h1.2 with ⟨rfl, h0⟩ | ⟨g, cap, cur, rfl, _⟩
      · simp at h0
      · exact ⟨_, _, rfl⟩
    obtain ⟨a', c', rfl⟩ := sh
    have hsz := h2.size
    have ht : Touch (Value.slice a rs.length c).ownBlock.toList w w' := Touch.of_grown h2 (fun k hk => Option.mem_toList.2 hk)
    have hrow := h1.lt
    have hold : ∀ r ∈ rs, r.own w' lo w'.heap.size := fun r hr => ((hown.each r hr).touch ht (fun k hk hk' => (List.nodup_append.1 hown.apart).2.2 k hk' k (List.mem_flatMap.2 ⟨r, hr, hk⟩) rfl)).widen (Nat.le_refl _) (by omega) (Nat.le_refl _)
    have hnew : q.own w' lo w'.heap.size := (hq.touch ht (fun k hk hk' => by have := hqb k hk; have := hown.blk k (Option.mem_toList.1 hk'); omega)).widen (by omega) (by omega) (Nat.le_refl _)
    refine h a' c' w' ⟨h1, Nat.le_refl _, fun k hk => (hrow k hk).2, fun r hr => ?_, ?_⟩ h2
    · rcases List.mem_append.1 hr with hr | hr
      · exact hold r hr
      · obtain rfl := List.mem_singleton.1 hr
        exact hnew
    · rw [List.flatMap_append, List.nodup_append, List.nodup_append]
      have hap := (List.nodup_append.1 hown.apart).2.1
      have hin : ∀ x ∈ rs.flatMap SeatA.blocks, lo ≤ x ∧ x < hi := fun x hx => by
        obtain ⟨r, hr, hx⟩ := List.mem_flatMap.1 hx
        exact (hown.each r hr).blocks_lt x hx
      refine ⟨by cases (Value.slice a' (rs ++ [q]).length c').ownBlock <;> simp, ⟨hap, by simpa using hq.apart, fun x hx y hy e => ?_⟩, fun x hx y hy e => ?_⟩
      · have := hin x hx
        simp only [List.flatMap_cons, List.flatMap_nil, List.append_nil] at hy
        have := hqb y hy
        omega
      · have hx' := Option.mem_toList.1 hx
        subst e
        rcases List.mem_append.1 hy with hy | hy
        · obtain ⟨r, hr, hy⟩ := List.mem_flatMap.1 hy
          exact rowSt_apart h1 (hold r hr) x hx' hy
        · simp only [List.flatMap_cons, List.flatMap_nil, List.append_nil] at hy
          exact rowSt_apart h1 hnew x hx' hy
end Go.Proofs.YtickiokdcbeefabDoor

/- Pools: what they are, what a walk reads and owns of them. -/
namespace Go.Proofs.YtickiokdcbeefabDoor
open Go.RowKit

structure PoolV where
  seats : List SeatV
  hand : Int
/-- A pool, and where its row lies. -/
structure PoolA where
  seats : List SeatA
  hand : Int
  a : Option Addr
  c : Nat
def PoolA.v (l : PoolA) : PoolV := ⟨l.seats.map SeatA.v, l.hand⟩
def PoolA.cells (l : PoolA) : List Value := [.slice l.a l.seats.length l.c, .int .i64 l.hand]
def PoolA.reads (w : World) (l : PoolA) : Prop := ReadsSts w l.a l.seats
def PoolA.own (w : World) (lo hi : Nat) (l : PoolA) : Prop := OwnSts w lo hi l.a l.c l.seats
/-- A seat whose lists are short. -/
def SeatA.short (s : SeatA) (m : Nat) : Prop := ∀ x ∈ s.ss, x.v.o.ints.length ≤ m ∧ x.v.o.refs.length ≤ m
structure PoolA.short (l : PoolA) (m : Nat) : Prop where
  len : l.seats.length ≤ m
  each : ∀ r ∈ l.seats, r.short m
theorem PoolA.short.at {l : PoolA} {m : Nat} (h : l.short m) (k : Nat) (hk : k < l.seats.length) : (l.seats.getD k zeroSt).short m := h.each _ (seatD_mem _ k hk)
theorem SeatA.short_of {a b : SeatA} {m : Nat} (h : a.v = b.v) (hb : b.short m) : a.short m := by
  intro x hx
  have e : a.ss.map (·.v) = b.ss.map (·.v) := congrArg SeatV.ss h
  have : x.v ∈ b.ss.map (·.v) := by rw [← e]; exact List.mem_map.2 ⟨x, hx, rfl⟩
  obtain ⟨y, hy, e⟩ := List.mem_map.1 this
  rw [← e]
  exact hb y hy
theorem SeatA.short.wide {s : SeatA} (h : s.short 1048576) : s.short 1099511627776 := fun x hx => by have := h x hx; omega
theorem mapSt_len {rs ts : List SeatA} (h : ts.map SeatA.v = rs.map SeatA.v) : ts.length = rs.length := by simpa using congrArg List.length h
theorem mapSt_at {rs ts : List SeatA} (h : ts.map SeatA.v = rs.map SeatA.v) (k : Nat) (hk : k < rs.length) : (ts.getD k zeroSt).v = (rs.getD k zeroSt).v := by
  have hk' : k < ts.length := by rw [mapSt_len h]; exact hk
  have := congrArg (fun x => x[k]?) h
  simpa [List.getD, hk, hk'] using this
theorem mapSt_all {rs ts : List SeatA} (h : ts.map SeatA.v = rs.map SeatA.v) (P : SeatA → Prop) (hP : ∀ a b : SeatA, a.v = b.v → P b → P a) (hall : ∀ r ∈ rs, P r) : ∀ r ∈ ts, P r := by
  intro r hr
  obtain ⟨k, hk, rfl⟩ := List.getElem_of_mem hr
  have hk' : k < rs.length := by rw [← mapSt_len h]; exact hk
  have e := mapSt_at h k hk'
  refine hP _ (rs.getD k zeroSt) ?_ (hall _ (seatD_mem rs k hk'))
  rw [← e]
  simp [List.getD, hk]
theorem PoolA.short_of {l t : PoolA} {m : Nat} (h : t.v = l.v) (hl : l.short m) : t.short m := by
  simp only [PoolA.v, PoolV.mk.injEq] at h
  exact ⟨by rw [mapSt_len h.1]; exact hl.len, mapSt_all h.1 (fun r => r.short m) (fun a b e hb => SeatA.short_of e hb) hl.each⟩
theorem PoolA.short_wide {l : PoolA} (hl : l.short 1048576) : l.short 1099511627776 := ⟨by have := hl.len; omega, fun r hr => (hl.each r hr).wide⟩
theorem seat_one' (q : SeatA) : q.cells.toArray.all (·.oneCell') = true := all_oneCell_toArray (oneSt q)
theorem zeroSt_own' (w : World) (lo hi : Nat) (h : hi ≤ w.heap.size) : zeroSt.own w lo hi := ⟨fun s hs => by
  simp only [SeatA.ss, zeroSt, List.mem_cons, List.not_mem_nil, or_false] at hs
  have : s = zeroS := by rcases hs with h | h | h | h <;> exact h
  subst this
  exact ⟨ownI_nil w lo hi h, ownI_nil w lo hi h, fun k h1 _ => by cases h1⟩, by show ([] : List Nat).Nodup; simp⟩
theorem four_slots' {ts : List SlotA} (h : ts.length = 4) : ∃ a b c d, ts = [a, b, c, d] := by
  match ts, h with
  | [a, b, c, d], _ => exact ⟨a, b, c, d, rfl⟩
end Go.Proofs.YtickiokdcbeefabDoor

/- Logs: what they are, what a walk reads and owns of them. -/
namespace Go.Proofs.YtickiokdcbeefabDoor
open Go.RowKit

structure LogV where
  recs : List RecV
  sure : Int
/-- A log, and where its row lies. -/
structure LogA where
  recs : List RecA
  sure : Int
  a : Option Addr
  c : Nat
def LogA.v (l : LogA) : LogV := ⟨l.recs.map RecA.v, l.sure⟩
def LogA.cells (l : LogA) : List Value := [.slice l.a l.recs.length l.c, .int .i64 l.sure]
def LogA.reads (w : World) (l : LogA) : Prop := ReadsRs w l.a l.recs
structure LogA.short (l : LogA) (m : Nat) : Prop where
  len : l.recs.length ≤ m
  each : ∀ r ∈ l.recs, r.short m
theorem LogA.short.at {l : LogA} {m : Nat} (h : l.short m) (k : Nat) (hk : k < l.recs.length) : (l.recs.getD k zeroR).short m := h.each _ (recD_mem _ k hk)
theorem mapV_len {rs ts : List RecA} (h : ts.map RecA.v = rs.map RecA.v) : ts.length = rs.length := by simpa using congrArg List.length h
theorem mapV_at {rs ts : List RecA} (h : ts.map RecA.v = rs.map RecA.v) (k : Nat) (hk : k < rs.length) : (ts.getD k zeroR).v = (rs.getD k zeroR).v := by
  have hk' : k < ts.length := by rw [mapV_len h]; exact hk
  have := congrArg (fun x => x[k]?) h
  simpa [List.getD, hk, hk'] using this
theorem mapV_all {rs ts : List RecA} (h : ts.map RecA.v = rs.map RecA.v) (P : RecA → Prop) (hP : ∀ a b : RecA, a.v = b.v → P b → P a) (hall : ∀ r ∈ rs, P r) : ∀ r ∈ ts, P r := by
  intro r hr
  obtain ⟨k, hk, rfl⟩ := List.getElem_of_mem hr
  have hk' : k < rs.length := by rw [← mapV_len h]; exact hk
  have e := mapV_at h k hk'
  refine hP _ (rs.getD k zeroR) ?_ (hall _ (recD_mem rs k hk'))
  rw [← e]
  simp [List.getD, hk]
theorem LogA.short_of {l t : LogA} {m : Nat} (h : t.v = l.v) (hl : l.short m) : t.short m := by
  simp only [LogA.v, LogV.mk.injEq] at h
  exact ⟨by rw [mapV_len h.1]; exact hl.len, mapV_all h.1 (fun r => r.short m) (fun a b e hb => Go.Proofs.YtickiokdcbeefabDoor.short_of e hb) hl.each⟩
theorem LogA.short_wide {l : LogA} (hl : l.short 1048576) : l.short 1099511627776 := ⟨by have := hl.len; omega, fun r hr => Go.Proofs.YtickiokdcbeefabDoor.short_wide (hl.each r hr)⟩
end Go.Proofs.YtickiokdcbeefabDoor

/- The engine: what it is, what a walk reads and owns of it. -/
namespace Go.Proofs.YtickiokdcbeefabDoor
open Go.RowKit

structure EngV where
  disk : List (Int × List SlotV)
  seats : List SeatV
  hand : Int
  log : LogV
  txs : List LiveV
  holds : List HoldV
  next : Int
  down : Bool
/-- An engine, and where its rows and lists lie. -/
structure EngA where
  disk : List PageA
  seats : List SeatA
  aS : Option Addr
  cS : Nat
  hand : Int
  log : LogA
  txs : List LiveV
  aT : Option Addr
  cT : Nat
  holds : List HoldV
  aH : Option Addr
  cH : Nat
  next : Int
  down : Bool
def EngA.v (e : EngA) : EngV := ⟨e.disk.map (fun p => (p.lsn, p.ss.map (·.v))), e.seats.map SeatA.v, e.hand, e.log.v, e.txs, e.holds, e.next, e.down⟩
def cellsPs (ps : List PageA) : List Value := ps.flatMap PageA.cells
def EngA.tail (e : EngA) : List Value := [.slice e.aS e.seats.length e.cS, .int .i64 e.hand, .slice e.log.a e.log.recs.length e.log.c, .int .i64 e.log.sure, .slice e.aT e.txs.length e.cT, .slice e.aH e.holds.length e.cH, .int .i64 e.next, .bool e.down]
def EngA.cells (e : EngA) : List Value := cellsPs e.disk ++ e.tail
/-- The disk's shape: eight pages of four slots. -/
structure EngA.shape (e : EngA) : Prop where
  eight : e.disk.length = 8
  four : ∀ p ∈ e.disk, p.ss.length = 4
theorem cellsPs_len : ∀ (ps : List PageA), (∀ p ∈ ps, p.ss.length = 4) → (cellsPs ps).length = ps.length * 17 := by
  intro ps
  induction ps with
  | nil => intro _; rfl
  | cons p r ih =>
    intro h
    have h1 := ih (fun q hq => h q (List.mem_cons_of_mem _ hq))
    have h2 := page_len p (h p List.mem_cons_self)
    simp only [cellsPs, List.flatMap_cons, List.length_append, List.length_cons] at h1 ⊢
    omega
theorem EngA.disk_len {e : EngA} (h : e.shape) : (cellsPs e.disk).length = 136 := by rw [cellsPs_len _ h.four, h.eight]
theorem EngA.cells_len {e : EngA} (h : e.shape) : e.cells.length = 144 := by rw [EngA.cells, List.length_append, EngA.disk_len h]; rfl
/-- The cells behind the disk. -/
theorem EngA.cell_at {w : World} {B : Nat} {t : TypeId} {e : EngA} (h : e.shape) (b : Box w B e.cells t) (j : Nat) (v : Value) (hv : e.tail[j]? = some v) : w.cell? ⟨B, 136 + j, none⟩ = some v := by
  refine b.cell (136 + j) v ?_
  rw [EngA.cells, List.getElem?_append_right (by rw [EngA.disk_len h]; omega), EngA.disk_len h, show 136 + j - 136 = j by omega]
  exact hv
theorem cellsPs_split (ps : List PageA) (k : Nat) (hk : k < ps.length) : cellsPs ps = cellsPs (ps.take k) ++ (ps[k].cells ++ cellsPs (ps.drop (k + 1))) := by
  have e : ps = ps.take k ++ ps[k] :: ps.drop (k + 1) := by
    conv => lhs; rw [← List.take_append_drop k ps, List.drop_eq_getElem_cons hk]
  conv => lhs; rw [e]
  simp only [cellsPs, List.flatMap_append, List.flatMap_cons]
/-- A page of the disk. -/
theorem EngA.page_at {w : World} {B : Nat} {t : TypeId} {e : EngA} (h : e.shape) (b : Box w B e.cells t) (k : Nat) (hk : k < e.disk.length) : w.rangeAt B (k * 17) e.disk[k].cells := by
  have e1 : e.cells = cellsPs (e.disk.take k) ++ (e.disk[k].cells ++ (cellsPs (e.disk.drop (k + 1)) ++ e.tail)) := by rw [EngA.cells, cellsPs_split e.disk k hk]; simp
  have b' := b
  rw [e1] at b'
  have := Box.range _ _ _ b'
  rwa [cellsPs_len _ (fun p hp => h.four p (List.mem_of_mem_take hp)), List.length_take, Nat.min_eq_left (Nat.le_of_lt hk)] at this
def rowOf (a : Option Addr) (n c : Nat) : List Nat := (Value.slice a n c).ownBlock.toList
def EngA.diskBl (e : EngA) : List Nat := (e.disk.flatMap (·.ss)).flatMap SlotA.blocks
def EngA.blocks (e : EngA) : List Nat := e.diskBl ++ (blocksSts e.aS e.cS e.seats ++ (blocksRs e.log.a e.log.c e.log.recs ++ (rowOf e.aT e.txs.length e.cT ++ rowOf e.aH e.holds.length e.cH)))
theorem OwnS.touch {w w' : World} {lo hi : Nat} {ss : List SlotA} {bl : List Nat} (h : OwnS w lo hi ss) (ht : Touch bl w w') (hd : ∀ k ∈ ss.flatMap SlotA.blocks, k ∉ bl) : OwnS w' lo hi ss :=
  ⟨fun x hx => SlotA.touch (h.each x hx) ht (fun k hk => hd k (List.mem_flatMap.2 ⟨x, hx, hk⟩)), h.apart⟩
def zeroP : PageA := ⟨0, [zeroS, zeroS, zeroS, zeroS]⟩
def zeroE : EngA := ⟨[zeroP, zeroP, zeroP, zeroP, zeroP, zeroP, zeroP, zeroP], [], none, 0, 0, ⟨[], 0, none, 0⟩, [], none, 0, [], none, 0, 0, false⟩
end Go.Proofs.YtickiokdcbeefabDoor
