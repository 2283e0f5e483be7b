/- Several texts in one, in their order. -/
import Derived.Test.YtgnkplbefclpgaaPSchedNewx1
import Derived.Test.YtgnkplbefclpgaaPSchedNewx4
import Derived.Test.YtgnkplbefclpgaaPSchedNewx10
import Derived.Test.YtgnkplbefclpgaaPSchedNewx5
import Derived.Test.YtgnkplbefclpgaaPSchedNewx7
import Derived.Test.YtgnkplbefclpgaaPSchedNewx6
import Derived.Deep.QuietTactic
import Derived.Deep.RegionHeld3
import Derived.Deep.CutRange
set_option maxHeartbeats 8000000
set_option maxRecDepth 100000
namespace Go.Proofs.Ytgnkplbefclpgaa
open Go.RowKit
theorem zero_own (w : World) (lo hi : Nat) (h : hi ≤ w.heap.size) : zeroS.own w lo hi := ⟨ownI_nil _ _ _ h, ownI_nil _ _ _ h, fun k hk => by cases hk⟩
theorem ownsRow_at {w : World} {base : Nat} {e : TypeId} {size n : Nat} {v : Value} {xs : List Value} (h : w.ownsRow base e size v n xs) {k : Nat} (hk : v.ownBlock = some k) : ∃ cur, w.heap[k]? = some (.cells cur e (0, 0)) := by
 rcases h.2 with ⟨rfl, _⟩ | ⟨g, cap, cur, rfl, _, hg, _⟩
 ·cases hk
 ·cases hk
  exact ⟨cur, hg⟩
theorem row_apart {w : World} {base lo hi n : Nat} {v : Value} {xs : List Value} {r : RecA} (h : w.ownsRow base 113 15 v n xs) (hr : r.own w lo hi) : ∀ k, v.ownBlock = some k → k ∉ r.blocks := by
 intro k hk hm
 obtain ⟨cur, hc⟩ := ownsRow_at h hk
 simp only [RecA.blocks, SlotA.blocks, List.mem_append, Option.mem_toList] at hm
 have no : ∀ {b2 s2 n2 : Nat} {e2 : TypeId} {v2 : Value} {x2 : List Value}, w.ownsRow b2 e2 s2 v2 n2 x2 → v2.ownBlock = some k → e2 = 113 := by
  intro b2 s2 n2 e2 v2 x2 h2 hk2
  obtain ⟨cur2, hc2⟩ := ownsRow_at h2 hk2
  rw [hc] at hc2
  simp only [Option.some.injEq, Obj.cells.injEq] at hc2
  exact hc2.2.1.symm
 rcases hm with (h1 | h1) | (h1 | h1) | h1
 ·have := no hr.bf.ints.1 h1; cases this
 ·have := no hr.bf.refs.1 h1; cases this
 ·have := no hr.af.ints.1 h1; cases this
 ·have := no hr.af.refs.1 h1; cases this
 ·have := no hr.txs.1 h1; cases this
structure LogV where
 recs : List RecV
 sure : Int
structure LogA where
 recs : List RecA
 sure : Int
 a : Option Addr
 c : Nat
def LogA.v (l : LogA) : LogV := ⟨l.recs.map RecA.v, l.sure⟩
def LogA.cells (l : LogA) : List Value := [.slice l.a l.recs.length l.c, .int .i64 l.sure]
def LogA.reads (w : World) (l : LogA) : Prop := ReadsRs w l.a l.recs
def LogA.own (w : World) (lo hi : Nat) (l : LogA) : Prop := OwnRs w lo hi l.a l.c l.recs
structure LogA.short (l : LogA) (m : Nat) : Prop where
 len : l.recs.length ≤ m
 each : ∀ r ∈ l.recs, r.short m
theorem LogA.short.at {l : LogA} {m : Nat} (h : l.short m) (k : Nat) (hk : k < l.recs.length) : (l.recs.getD k zeroR).short m := h.each _ (recD_mem _ k hk)
theorem mapV_len {rs ts : List RecA} (h : ts.map RecA.v = rs.map RecA.v) : ts.length = rs.length := by simpa using congrArg List.length h
theorem mapV_at {rs ts : List RecA} (h : ts.map RecA.v = rs.map RecA.v) (k : Nat) (hk : k < rs.length) : (ts.getD k zeroR).v = (rs.getD k zeroR).v := by
 have hk' : k < ts.length := by rw [mapV_len h]; exact hk
 have := congrArg (fun x => x[k]?) h
 simpa [List.getD, hk, hk'] using this
structure EngV where
 disk : List (Int × List SlotV)
 seats : List SeatV
 hand : Int
 log : LogV
 txs : List LiveV
 holds : List HoldV
 next : Int
 down : Bool
structure EngA where
 disk : List PageA
 seats : List SeatA
 aS : Option Addr
 cS : Nat
 hand : Int
 log : LogA
 txs : List LiveV
 aT : Option Addr
 cT : Nat
 holds : List HoldV
 aH : Option Addr
 cH : Nat
 next : Int
 down : Bool
def EngA.v (e : EngA) : EngV := ⟨e.disk.map (fun p => (p.lsn, p.ss.map (·.v))), e.seats.map SeatA.v, e.hand, e.log.v, e.txs, e.holds, e.next, e.down⟩
def cellsPs (ps : List PageA) : List Value := ps.flatMap PageA.cells
def EngA.tail (e : EngA) : List Value := [.slice e.aS e.seats.length e.cS, .int .i64 e.hand, .slice e.log.a e.log.recs.length e.log.c, .int .i64 e.log.sure, .slice e.aT e.txs.length e.cT, .slice e.aH e.holds.length e.cH, .int .i64 e.next, .bool e.down]
def EngA.cells (e : EngA) : List Value := cellsPs e.disk ++ e.tail
structure EngA.shape (e : EngA) : Prop where
 eight : e.disk.length = 8
 four : ∀ p ∈ e.disk, p.ss.length = 4
theorem cellsPs_len : ∀ (ps : List PageA), (∀ p ∈ ps, p.ss.length = 4) → (cellsPs ps).length = ps.length * 17 := by
 intro ps
 induction ps with
 | nil => intro _; rfl
 | cons p r ih =>
  intro h
  have h1 := ih (fun q hq => h q (List.mem_cons_of_mem _ hq))
  have h2 := page_len p (h p List.mem_cons_self)
  simp only [cellsPs, List.flatMap_cons, List.length_append, List.length_cons] at h1 ⊢
  omega
theorem EngA.disk_len {e : EngA} (h : e.shape) : (cellsPs e.disk).length = 136 := by rw [cellsPs_len _ h.four, h.eight]
theorem EngA.cells_len {e : EngA} (h : e.shape) : e.cells.length = 144 := by rw [EngA.cells, List.length_append, EngA.disk_len h]; rfl
theorem EngA.cell_at {w : World} {B : Nat} {t : TypeId} {e : EngA} (h : e.shape) (b : Box w B e.cells t) (j : Nat) (v : Value) (hv : e.tail[j]? = some v) : w.cell? ⟨B, 136 + j, none⟩ = some v := by
 refine b.cell (136 + j) v ?_
 rw [EngA.cells, List.getElem?_append_right (by rw [EngA.disk_len h]; omega), EngA.disk_len h, show 136 + j - 136 = j by omega]
 exact hv
theorem cellsPs_split (ps : List PageA) (k : Nat) (hk : k < ps.length) : cellsPs ps = cellsPs (ps.take k) ++ (ps[k].cells ++ cellsPs (ps.drop (k + 1))) := by
 have e : ps = ps.take k ++ ps[k] :: ps.drop (k + 1) := by
  conv => lhs; rw [← List.take_append_drop k ps, List.drop_eq_getElem_cons hk]
 conv => lhs; rw [e]
 simp only [cellsPs, List.flatMap_append, List.flatMap_cons]
def rowOf (a : Option Addr) (n c : Nat) : List Nat := (Value.slice a n c).ownBlock.toList
def EngA.diskBl (e : EngA) : List Nat := (e.disk.flatMap (·.ss)).flatMap SlotA.blocks
def EngA.blocks (e : EngA) : List Nat := e.diskBl ++ (blocksSts e.aS e.cS e.seats ++ (blocksRs e.log.a e.log.c e.log.recs ++ (rowOf e.aT e.txs.length e.cT ++ rowOf e.aH e.holds.length e.cH)))
structure EngA.own (w : World) (lo hi : Nat) (e : EngA) : Prop where
 disk : OwnS w lo hi (e.disk.flatMap (·.ss))
 pool : OwnSts w lo hi e.aS e.cS e.seats
 log : OwnRs w lo hi e.log.a e.log.c e.log.recs
 txs : OwnL w lo hi e.aT e.cT e.txs
 holds : OwnH w lo hi e.aH e.cH e.holds
 apart : e.blocks.Nodup
theorem OwnS.touch {w w' : World} {lo hi : Nat} {ss : List SlotA} {bl : List Nat} (h : OwnS w lo hi ss) (ht : Touch bl w w') (hd : ∀ k ∈ ss.flatMap SlotA.blocks, k ∉ bl) : OwnS w' lo hi ss :=
 ⟨fun x hx => SlotA.touch (h.each x hx) ht (fun k hk => hd k (List.mem_flatMap.2 ⟨x, hx, hk⟩)), h.apart⟩
theorem EngA.own.blocks_lt {w : World} {lo hi : Nat} {e : EngA} (h : e.own w lo hi) : ∀ k ∈ e.blocks, lo ≤ k ∧ k < hi := by
 intro k hk
 simp only [EngA.blocks, List.mem_append] at hk
 rcases hk with hk | hk | hk | hk | hk
 ·exact h.disk.blocks_lt k hk
 ·exact h.pool.blocks_lt k hk
 ·exact h.log.blocks_lt k hk
 ·exact h.txs.lt k (Option.mem_toList.1 hk)
 ·exact h.holds.lt k (Option.mem_toList.1 hk)
theorem EngA.own.touch {w w' : World} {lo hi : Nat} {e : EngA} {bl : List Nat} (h : e.own w lo hi) (ht : Touch bl w w') (hd : ∀ k ∈ e.blocks, k ∉ bl) : e.own w' lo hi := by
 simp only [EngA.blocks, List.mem_append] at hd
 exact ⟨h.disk.touch ht (fun k hk => hd k (.inl hk)), h.pool.touch ht (fun k hk => hd k (.inr (.inl hk))), h.log.touch ht (fun k hk => hd k (.inr (.inr (.inl hk)))), h.txs.touch ht (fun k hk => hd k (.inr (.inr (.inr (.inl (Option.mem_toList.2 hk)))))), h.holds.touch ht (fun k hk => hd k (.inr (.inr (.inr (.inr (Option.mem_toList.2 hk)))))), h.apart⟩
theorem EngA.own.widen {w : World} {lo hi lo' hi' : Nat} {e : EngA} (h : e.own w lo hi) (h1 : lo' ≤ lo) (h2 : hi ≤ hi') (h3 : hi' ≤ w.heap.size) : e.own w lo' hi' :=
 ⟨h.disk.widen h1 h2 h3, h.pool.widen h1 h2 h3, h.log.widen h1 h2 h3, h.txs.widen h1 h2 h3, h.holds.widen h1 h2 h3, h.apart⟩
theorem Try.infoEng : (Try.prog.info? 42).map (·.size) = some 144 := by kernel_rfl
def zeroP : PageA := ⟨0, [zeroS, zeroS, zeroS, zeroS]⟩
def zeroE : EngA := ⟨[zeroP, zeroP, zeroP, zeroP, zeroP, zeroP, zeroP, zeroP], [], none, 0, 0, ⟨[], 0, none, 0⟩, [], none, 0, [], none, 0, 0, false⟩
theorem Try.zeroEng : (Try.prog.info? 42).map (·.zero) = some (some (.agg zeroE.cells.toArray)) := by kernel_rfl
end Go.Proofs.Ytgnkplbefclpgaa
namespace Go.Proofs.Ytgnkplbefclpgaa
open Go.RowKit
def RecA.with (r : RecA) (t1 t2 : SlotA) (aL : Option Addr) (cL : Nat) : RecA := ⟨r.lsn, r.tx, r.prev, r.kind, r.oid, t1, t2, r.next, r.txs, aL, cL⟩
end Go.Proofs.Ytgnkplbefclpgaa