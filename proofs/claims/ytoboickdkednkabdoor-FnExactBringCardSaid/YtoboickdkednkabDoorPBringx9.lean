/- Several texts in one, in their order. -/
import Derived.Test.YtoboickdkednkabDoorPBringx8
import Derived.Test.YtoboickdkednkabDoorPBringx6
import Derived.Test.YtoboickdkednkabDoorPBringx7
import Derived.Deep.CutRange
import Derived.Deep.RegionLaw
import Derived.Deep.DrawnRows
import Derived.Deep.RegionHeld3
import Derived.Test.YtoboickdkednkabDoorPBringx1
set_option maxHeartbeats 8000000
set_option maxRecDepth 100000
namespace Go.Proofs.YtoboickdkednkabDoor
open Go.RowKit
theorem ownsRow_at {w : World} {base : Nat} {e : TypeId} {size n : Nat} {v : Value} {xs : List Value} (h : w.ownsRow base e size v n xs) {k : Nat} (hk : v.ownBlock = some k) : ∃ cur, w.heap[k]? = some (.cells cur e (0, 0)) := by
 rcases h.2 with ⟨rfl, _⟩ | ⟨g, cap, cur, rfl, _, hg, _⟩
 ·cases hk
 ·cases hk
  exact ⟨cur, hg⟩
theorem Tryd.infoSeat : (Tryd.prog.info? 45).map (fun i => (i.zero, i.size, i.bytes)) = some (some (.agg zeroSt.cells.toArray), 20, 280) := by kernel_rfl
theorem rowSt_apart {w : World} {base lo hi n : Nat} {v : Value} {xs : List Value} {r : SeatA} (h : w.ownsRow base 45 20 v n xs) (hr : r.own w lo hi) : ∀ k, v.ownBlock = some k → k ∉ r.blocks := by
 intro k hk hm
 obtain ⟨cur, hc⟩ := ownsRow_at h hk
 have no : ∀ {b2 s2 n2 : Nat} {e2 : TypeId} {v2 : Value} {x2 : List Value}, w.ownsRow b2 e2 s2 v2 n2 x2 → v2.ownBlock = some k → e2 = 45 := by
  intro b2 s2 n2 e2 v2 x2 h2 hk2
  obtain ⟨cur2, hc2⟩ := ownsRow_at h2 hk2
  rw [hc] at hc2
  simp only [Option.some.injEq, Obj.cells.injEq] at hc2
  exact hc2.2.1.symm
 obtain ⟨x, hx, hm⟩ := List.mem_flatMap.1 hm
 simp only [SlotA.blocks, List.mem_append, Option.mem_toList] at hm
 rcases hm with h1 | h1
 ·have := no (hr.each x hx).ints.1 h1; cases this
 ·have := no (hr.each x hx).refs.1 h1; cases this
theorem append_seat {w : World} {ops : Array Oper} {rest : List Oper} {o : Oper} {act : Act} {Q : Exit → Act → World → Prop} (hgd : o.guard = none) (s x : Operand)
  (ho : o.op = .call { callee := .builtin .append, args := #[s, x], argTypes := #[35, 35] })
  (lo hi : Nat) (a : Option Addr) (c : Nat) (rs : List SeatA) (hs : act.eval s = .slice a rs.length c) (hown : OwnSts w lo hi a c rs)
  (b off : Nat) (sc : Nat) (q : SeatA) (hx : act.eval x = .slice (some ⟨b, off, none⟩) 1 sc) (hr : w.rangeAt b off q.cells) (l u : Nat) (hq : q.own w l u) (hl : hi ≤ l) (hu : u ≤ w.heap.size)
  (hb : rs.length + 1 ≤ 68719476736) (hlo : lo ≤ hi)
  (h : ∀ a' c' w', OwnSts w' lo w'.heap.size a' c' (rs ++ [q]) → w.grownBy w' (Value.slice a rs.length c).ownBlock → wpList Tryd.prog ops Q rest (act.put o.dst (.slice a' (rs ++ [q]).length c')) w') :
  wpList Tryd.prog ops Q (o :: rest) act w := by
 obtain ⟨i0, hi0, hz0, hz1, hz2⟩ := info_parts Tryd.infoSeat
 have hqb := hq.blocks_lt
 have htop := hown.top
 refine wpList_append_own w hgd s x 35 ho lo 45 i0 (.agg zeroSt.cells.toArray) 20 280 Tryd.underlying35 hi0 hz0 hz1 hz2 rfl (by decide) _ _ _ hs hown.row ⟨b, off, none⟩ 1 sc q.cells hx (by rfl) ?_ (oneSt q) (by simp only [maxLen]; omega) (by omega) (by omega) (fun v' w' h1 h2 _ => ?_)
 ·intro j v hj
  rw [Addr_add]
  exact hr j v hj
 ·have e : cellsSts rs ++ q.cells = cellsSts (rs ++ [q]) := by rw [cellsSts_app, cellsSts_cons]; simp [cellsSts]
  have e2 : rs.length + 1 = (rs ++ [q]).length := by simp
  rw [e, e2] at h1
  have sh : ∃ a' c', v' = .slice a' (rs ++ [q]).length c' := by
   rcases h1.2 with ⟨rfl, h0⟩ | ⟨g, cap, cur, rfl, _⟩
   ·simp at h0
   ·exact ⟨_, _, rfl⟩
  obtain ⟨a', c', rfl⟩ := sh
  have hsz := h2.size
  have ht : Touch (Value.slice a rs.length c).ownBlock.toList w w' := Touch.of_grown h2 (fun k hk => Option.mem_toList.2 hk)
  have hrow := h1.lt
  have hold : ∀ r ∈ rs, r.own w' lo w'.heap.size := fun r hr => ((hown.each r hr).touch ht (fun k hk hk' => (List.nodup_append.1 hown.apart).2.2 k hk' k (List.mem_flatMap.2 ⟨r, hr, hk⟩) rfl)).widen (Nat.le_refl _) (by omega) (Nat.le_refl _)
  have hnew : q.own w' lo w'.heap.size := (hq.touch ht (fun k hk hk' => by have := hqb k hk; have := hown.blk k (Option.mem_toList.1 hk'); omega)).widen (by omega) (by omega) (Nat.le_refl _)
  refine h a' c' w' ⟨h1, Nat.le_refl _, fun k hk => (hrow k hk).2, fun r hr => ?_, ?_⟩ h2
  ·rcases List.mem_append.1 hr with hr | hr
   ·exact hold r hr
   ·obtain rfl := List.mem_singleton.1 hr
    exact hnew
  ·rw [List.flatMap_append, List.nodup_append, List.nodup_append]
   have hap := (List.nodup_append.1 hown.apart).2.1
   have hin : ∀ x ∈ rs.flatMap SeatA.blocks, lo ≤ x ∧ x < hi := fun x hx => by
    obtain ⟨r, hr, hx⟩ := List.mem_flatMap.1 hx
    exact (hown.each r hr).blocks_lt x hx
   refine ⟨by cases (Value.slice a' (rs ++ [q]).length c').ownBlock <;> simp, ⟨hap, by simpa using hq.apart, fun x hx y hy e => ?_⟩, fun x hx y hy e => ?_⟩
   ·have := hin x hx
    simp only [List.flatMap_cons, List.flatMap_nil, List.append_nil] at hy
    have := hqb y hy
    omega
   ·have hx' := Option.mem_toList.1 hx
    subst e
    rcases List.mem_append.1 hy with hy | hy
    ·obtain ⟨r, hr, hy⟩ := List.mem_flatMap.1 hy
     exact rowSt_apart h1 (hold r hr) x hx' hy
    ·simp only [List.flatMap_cons, List.flatMap_nil, List.append_nil] at hy
     exact rowSt_apart h1 hnew x hx' hy
structure PoolV where
 seats : List SeatV
 hand : Int
structure PoolA where
 seats : List SeatA
 hand : Int
 a : Option Addr
 c : Nat
def PoolA.v (l : PoolA) : PoolV := ⟨l.seats.map SeatA.v, l.hand⟩
def PoolA.cells (l : PoolA) : List Value := [.slice l.a l.seats.length l.c, .int .i64 l.hand]
def PoolA.reads (w : World) (l : PoolA) : Prop := ReadsSts w l.a l.seats
def PoolA.own (w : World) (lo hi : Nat) (l : PoolA) : Prop := OwnSts w lo hi l.a l.c l.seats
def SeatA.short (s : SeatA) (m : Nat) : Prop := ∀ x ∈ s.ss, x.v.o.ints.length ≤ m ∧ x.v.o.refs.length ≤ m
structure PoolA.short (l : PoolA) (m : Nat) : Prop where
 len : l.seats.length ≤ m
 each : ∀ r ∈ l.seats, r.short m
theorem PoolA.short.at {l : PoolA} {m : Nat} (h : l.short m) (k : Nat) (hk : k < l.seats.length) : (l.seats.getD k zeroSt).short m := h.each _ (seatD_mem _ k hk)
theorem SeatA.short_of {a b : SeatA} {m : Nat} (h : a.v = b.v) (hb : b.short m) : a.short m := by
 intro x hx
 have e : a.ss.map (·.v) = b.ss.map (·.v) := congrArg SeatV.ss h
 have : x.v ∈ b.ss.map (·.v) := by rw [← e]; exact List.mem_map.2 ⟨x, hx, rfl⟩
 obtain ⟨y, hy, e⟩ := List.mem_map.1 this
 rw [← e]
 exact hb y hy
theorem SeatA.short.wide {s : SeatA} (h : s.short 1048576) : s.short 1099511627776 := fun x hx => by have := h x hx; omega
theorem mapSt_len {rs ts : List SeatA} (h : ts.map SeatA.v = rs.map SeatA.v) : ts.length = rs.length := by simpa using congrArg List.length h
theorem mapSt_at {rs ts : List SeatA} (h : ts.map SeatA.v = rs.map SeatA.v) (k : Nat) (hk : k < rs.length) : (ts.getD k zeroSt).v = (rs.getD k zeroSt).v := by
 have hk' : k < ts.length := by rw [mapSt_len h]; exact hk
 have := congrArg (fun x => x[k]?) h
 simpa [List.getD, hk, hk'] using this
theorem mapSt_all {rs ts : List SeatA} (h : ts.map SeatA.v = rs.map SeatA.v) (P : SeatA → Prop) (hP : ∀ a b : SeatA, a.v = b.v → P b → P a) (hall : ∀ r ∈ rs, P r) : ∀ r ∈ ts, P r := by
 intro r hr
 obtain ⟨k, hk, rfl⟩ := List.getElem_of_mem hr
 have hk' : k < rs.length := by rw [← mapSt_len h]; exact hk
 have e := mapSt_at h k hk'
 refine hP _ (rs.getD k zeroSt) ?_ (hall _ (seatD_mem rs k hk'))
 rw [← e]
 simp [List.getD, hk]
theorem PoolA.short_of {l t : PoolA} {m : Nat} (h : t.v = l.v) (hl : l.short m) : t.short m := by
 simp only [PoolA.v, PoolV.mk.injEq] at h
 exact ⟨by rw [mapSt_len h.1]; exact hl.len, mapSt_all h.1 (fun r => r.short m) (fun a b e hb => SeatA.short_of e hb) hl.each⟩
theorem PoolA.short_wide {l : PoolA} (hl : l.short 1048576) : l.short 1099511627776 := ⟨by have := hl.len; omega, fun r hr => (hl.each r hr).wide⟩
theorem seat_one' (q : SeatA) : q.cells.toArray.all (·.oneCell') = true := all_oneCell_toArray (oneSt q)
theorem zeroSt_own' (w : World) (lo hi : Nat) (h : hi ≤ w.heap.size) : zeroSt.own w lo hi := ⟨fun s hs => by
 simp only [SeatA.ss, zeroSt, List.mem_cons, List.not_mem_nil, or_false] at hs
 have : s = zeroS := by rcases hs with h | h | h | h <;> exact h
 subst this
 exact ⟨ownI_nil w lo hi h, ownI_nil w lo hi h, fun k h1 _ => by cases h1⟩, by show ([] : List Nat).Nodup; simp⟩
theorem four_slots' {ts : List SlotA} (h : ts.length = 4) : ∃ a b c d, ts = [a, b, c, d] := by
 match ts, h with
 | [a, b, c, d], _ => exact ⟨a, b, c, d, rfl⟩
structure LogV where
 recs : List RecV
 sure : Int
structure LogA where
 recs : List RecA
 sure : Int
 a : Option Addr
 c : Nat
def LogA.v (l : LogA) : LogV := ⟨l.recs.map RecA.v, l.sure⟩
def LogA.cells (l : LogA) : List Value := [.slice l.a l.recs.length l.c, .int .i64 l.sure]
def LogA.reads (w : World) (l : LogA) : Prop := ReadsRs w l.a l.recs
structure LogA.short (l : LogA) (m : Nat) : Prop where
 len : l.recs.length ≤ m
 each : ∀ r ∈ l.recs, r.short m
theorem LogA.short.at {l : LogA} {m : Nat} (h : l.short m) (k : Nat) (hk : k < l.recs.length) : (l.recs.getD k zeroR).short m := h.each _ (recD_mem _ k hk)
theorem mapV_len {rs ts : List RecA} (h : ts.map RecA.v = rs.map RecA.v) : ts.length = rs.length := by simpa using congrArg List.length h
theorem mapV_at {rs ts : List RecA} (h : ts.map RecA.v = rs.map RecA.v) (k : Nat) (hk : k < rs.length) : (ts.getD k zeroR).v = (rs.getD k zeroR).v := by
 have hk' : k < ts.length := by rw [mapV_len h]; exact hk
 have := congrArg (fun x => x[k]?) h
 simpa [List.getD, hk, hk'] using this
theorem mapV_all {rs ts : List RecA} (h : ts.map RecA.v = rs.map RecA.v) (P : RecA → Prop) (hP : ∀ a b : RecA, a.v = b.v → P b → P a) (hall : ∀ r ∈ rs, P r) : ∀ r ∈ ts, P r := by
 intro r hr
 obtain ⟨k, hk, rfl⟩ := List.getElem_of_mem hr
 have hk' : k < rs.length := by rw [← mapV_len h]; exact hk
 have e := mapV_at h k hk'
 refine hP _ (rs.getD k zeroR) ?_ (hall _ (recD_mem rs k hk'))
 rw [← e]
 simp [List.getD, hk]
theorem LogA.short_of {l t : LogA} {m : Nat} (h : t.v = l.v) (hl : l.short m) : t.short m := by
 simp only [LogA.v, LogV.mk.injEq] at h
 exact ⟨by rw [mapV_len h.1]; exact hl.len, mapV_all h.1 (fun r => r.short m) (fun a b e hb => Go.Proofs.YtoboickdkednkabDoor.short_of e hb) hl.each⟩
theorem LogA.short_wide {l : LogA} (hl : l.short 1048576) : l.short 1099511627776 := ⟨by have := hl.len; omega, fun r hr => Go.Proofs.YtoboickdkednkabDoor.short_wide (hl.each r hr)⟩
structure EngV where
 disk : List (Int × List SlotV)
 seats : List SeatV
 hand : Int
 log : LogV
 txs : List LiveV
 holds : List HoldV
 next : Int
 down : Bool
structure EngA where
 disk : List PageA
 seats : List SeatA
 aS : Option Addr
 cS : Nat
 hand : Int
 log : LogA
 txs : List LiveV
 aT : Option Addr
 cT : Nat
 holds : List HoldV
 aH : Option Addr
 cH : Nat
 next : Int
 down : Bool
def EngA.v (e : EngA) : EngV := ⟨e.disk.map (fun p => (p.lsn, p.ss.map (·.v))), e.seats.map SeatA.v, e.hand, e.log.v, e.txs, e.holds, e.next, e.down⟩
def cellsPs (ps : List PageA) : List Value := ps.flatMap PageA.cells
def EngA.tail (e : EngA) : List Value := [.slice e.aS e.seats.length e.cS, .int .i64 e.hand, .slice e.log.a e.log.recs.length e.log.c, .int .i64 e.log.sure, .slice e.aT e.txs.length e.cT, .slice e.aH e.holds.length e.cH, .int .i64 e.next, .bool e.down]
def EngA.cells (e : EngA) : List Value := cellsPs e.disk ++ e.tail
structure EngA.shape (e : EngA) : Prop where
 eight : e.disk.length = 8
 four : ∀ p ∈ e.disk, p.ss.length = 4
theorem cellsPs_len : ∀ (ps : List PageA), (∀ p ∈ ps, p.ss.length = 4) → (cellsPs ps).length = ps.length * 17 := by
 intro ps
 induction ps with
 | nil => intro _; rfl
 | cons p r ih =>
  intro h
  have h1 := ih (fun q hq => h q (List.mem_cons_of_mem _ hq))
  have h2 := page_len p (h p List.mem_cons_self)
  simp only [cellsPs, List.flatMap_cons, List.length_append, List.length_cons] at h1 ⊢
  omega
theorem EngA.disk_len {e : EngA} (h : e.shape) : (cellsPs e.disk).length = 136 := by rw [cellsPs_len _ h.four, h.eight]
theorem EngA.cells_len {e : EngA} (h : e.shape) : e.cells.length = 144 := by rw [EngA.cells, List.length_append, EngA.disk_len h]; rfl
def rowOf (a : Option Addr) (n c : Nat) : List Nat := (Value.slice a n c).ownBlock.toList
def EngA.diskBl (e : EngA) : List Nat := (e.disk.flatMap (·.ss)).flatMap SlotA.blocks
def EngA.blocks (e : EngA) : List Nat := e.diskBl ++ (blocksSts e.aS e.cS e.seats ++ (blocksRs e.log.a e.log.c e.log.recs ++ (rowOf e.aT e.txs.length e.cT ++ rowOf e.aH e.holds.length e.cH)))
theorem OwnS.touch {w w' : World} {lo hi : Nat} {ss : List SlotA} {bl : List Nat} (h : OwnS w lo hi ss) (ht : Touch bl w w') (hd : ∀ k ∈ ss.flatMap SlotA.blocks, k ∉ bl) : OwnS w' lo hi ss :=
 ⟨fun x hx => SlotA.touch (h.each x hx) ht (fun k hk => hd k (List.mem_flatMap.2 ⟨x, hx, hk⟩)), h.apart⟩
def seatFrom (no : Int) : List SeatV → Nat → Int
 | [], _ => -1
 | l :: r, k => if l.no = no then (k : Int) else seatFrom no r (k + 1)
def seatedOf (ss : List SeatV) (no : Int) : Int := seatFrom no ss 0
theorem dropSt_at (ls : List SeatA) (k : Nat) (h : k < ls.length) : (ls.map SeatA.v).drop k = (ls.getD k zeroSt).v :: (ls.map SeatA.v).drop (k + 1) := by
 rw [List.drop_eq_getElem_cons (by simpa using h)]
 simp [List.getD, h]
theorem specSeated_any (a : Option Addr) (c : Nat) (ls : List SeatA) (hand no : Int) (w : World) (hr : ReadsSts w a ls) (hl : ls.length ≤ 1099511627776) :
  Calls Tryd.prog 24 #[.agg #[.slice a ls.length c, .int .i64 hand], .int .i64 no] w fun r w' => r = .returned (.int .i64 (seatedOf (ls.map SeatA.v) no)) ∧ Below w.heap.size w w' := by
 obtain ⟨W, hW, b0, hbW, hsW⟩ := boxes1 w [.slice a ls.length c, .int .i64 hand] 37
 have HT : Hid (∀ u, Below W.heap.size W u → u.cell? ⟨w.heap.size, 0, none⟩ = some (.slice a ls.length c)) := fun u hu => (b0.below hu b0.lt).cell 0 _ rfl
 have HR : Hid (∀ u, Below W.heap.size W u → ReadsSts u a ls) := fun u hu => hr.below (hbW.trans (hu.mono hbW.size))
 have HF : Hid (seatFrom no ((ls.map SeatA.v).drop 0) 0 = seatedOf (ls.map SeatA.v) no) := rfl
 generalize seatedOf (ls.map SeatA.v) no = R at *
 clear hsW b0 hr
 go_enter Tryd.func24, Tryd.ntmps24
 go_wp2_with fail
 rw [hW.out]
 clear hW
 go_loopw [5] (fun i wr => ∃ (k : Nat), i = .int .i64 k ∧ k ≤ ls.length ∧ Hid (seatFrom no ((ls.map SeatA.v).drop k) k = R) ∧ Below W.heap.size W wr)
  (fun i _ => ls.length - (intOf i).toNat)
 case atStart => exact ⟨0, rfl, by omega, HF, Below.refl _ _⟩
 case round =>
  obtain ⟨k, rfl, hk, hR, hbl⟩ := hrel
  have x0 := HT.out wr hbl
  have hrr := HR.out wr hbl
  have hbT : Below w.heap.size w wr := hbW.trans (hbl.mono hbW.size)
  by_cases hlt : k < ls.length
  ·obtain ⟨b, off, rfl, hcell⟩ := hrr (by rintro rfl; simp at hlt)
   have c0 := (hcell k hlt).1 0 _ rfl
   simp only [Nat.add_zero] at c0
   clear hcell
   have hkk : (k : Int) < (ls.length : Int) := by omega
   have hi0 : (0 : Int) ≤ (k : Int) := by omega
   have HR2 : Hid ((if (ls.getD k zeroSt).no = no then (k : Int) else seatFrom no ((ls.map SeatA.v).drop (k + 1)) (k + 1)) = R) := by
    have h := hR.out
    rw [dropSt_at ls k hlt, seatFrom] at h
    exact h
   generalize ls.getD k zeroSt = z at *
   by_cases hq : z.no = no
   ·have HR3 : Hid ((k : Int) = R) := by have h := HR2.out; rw [if_pos hq] at h; exact h
    have hqb : (z.no == no) = true := by simpa using hq
    clear hq hR HR2
    go_wp2
    go_ret
    exact ⟨ret_int HR3.out, hbT⟩
   ·have HR3 : Hid (seatFrom no ((ls.map SeatA.v).drop (k + 1)) (k + 1) = R) := by have h := HR2.out; rw [if_neg hq] at h; exact h
    have hqb : (z.no == no) = false := by simpa using hq
    clear hq hR HR2
    go_wp2_with fail
    go_roundw
    case rel => exact ⟨k + 1, by go_num, by omega, HR3, hbl⟩
    case measure => simp [intOf]; omega
  ·have hkk : ¬ (k : Int) < (ls.length : Int) := by omega
   have HR' : Hid (-1 = R) := by
    have h := hR.out
    rw [List.drop_eq_nil_of_le (by rw [List.length_map]; omega), seatFrom] at h
    exact h
   clear hR
   go_wp2
   go_ret
   exact ⟨ret_int HR'.out, hbT⟩
def RecA.with (r : RecA) (t1 t2 : SlotA) (aL : Option Addr) (cL : Nat) : RecA := ⟨r.lsn, r.tx, r.prev, r.kind, r.oid, t1, t2, r.next, r.txs, aL, cL⟩
end Go.Proofs.YtoboickdkednkabDoor
namespace Go.Proofs.YtoboickdkednkabDoor
open Go.RowKit
attribute [local go_sem ↓] Go.wp_at_zero Go.wp_at_succ
end Go.Proofs.YtoboickdkednkabDoor
namespace Go.Proofs.YtoboickdkednkabDoor
open Go.RowKit
def Came (rs ts : List RecA) (k : Nat) : Prop := ts.length = k ∧ ts.map RecA.v = (rs.take k).map RecA.v
theorem Came.snoc {rs ts : List RecA} {k : Nat} (h : Came rs ts k) (hk : k < rs.length) {q : RecA} (hq : q.v = (rs.getD k zeroR).v) : Came rs (ts ++ [q]) (k + 1) := by
 refine ⟨by simp [h.1], ?_⟩
 have e : rs.getD k zeroR = rs[k] := by simp [List.getD, hk]
 rw [List.map_append, h.2, List.take_succ_eq_append_getElem hk, List.map_append, List.map_singleton, List.map_singleton, hq, e]
theorem Came.all {rs ts : List RecA} (h : Came rs ts rs.length) : ts.map RecA.v = rs.map RecA.v := by
 have := h.2
 rwa [List.take_length] at this
end Go.Proofs.YtoboickdkednkabDoor
namespace Go.Proofs.YtoboickdkednkabDoor
open Go.ChangeShapes Go.WideShapes Go.ChangeAt Go.RowKit
structure InLog (w : World) (l : LogA) : Prop where
 recs : ReadsRs w l.a l.recs
 each : ∀ r ∈ l.recs, InRec w r
 len : l.recs.length ≤ maxLen
 num : InI64 l.sure
theorem InLog.short {w : World} {l : LogA} (h : InLog w l) : l.short 9223372036854775807 := ⟨by have := h.len; simp only [maxLen] at this; omega, fun r hr => (h.each r hr).short⟩
section
variable {H : Type} {enc : TypeId × Value → H} {w : World} {base : Nat} {spare : Nat → Bool} {held : Bool}
end
end Go.Proofs.YtoboickdkednkabDoor
namespace Go.Proofs.YtoboickdkednkabDoor
open Go.RowKit
theorem LogA.reads.below {w w' : World} {l : LogA} (h : l.reads w) (hb : Below w.heap.size w w') : l.reads w' := ReadsRs.below h hb
def LogA.blocks (l : LogA) : List Nat := blocksRs l.a l.c l.recs
theorem InLog.reads {w : World} {l : LogA} (h : InLog w l) : l.reads w := h.recs
theorem box2_fill {w : World} {B : Nat} {x0 x1 : Value} {t : TypeId} (b : Box w B [x0, x1] t) (v0 v1 : Value) :
  ∃ W, Hid ((w.setCell ⟨B, 0, none⟩ v0).setCell ⟨B, 1, none⟩ v1 = W) ∧ Box W B [v0, v1] t ∧ Within B (B + 1) w W ∧ W.heap.size = w.heap.size := by
 refine ⟨_, rfl, by simpa using (b.set 0 v0).set 1 v1, (within_set w B 0 v0 (by omega)).trans (within_set _ B 1 v1 (by omega)), by simp⟩
end Go.Proofs.YtoboickdkednkabDoor