/- Several texts in one, in their order. -/
import Derived.Test.YtoboickdkednkaaDoorPFnPoolsx9
import Derived.Test.YtoboickdkednkaaDoorPFnPoolsx11
import Derived.Deep.QuietTactic
import Derived.Deep.RegionHeld3
import Derived.Test.YtoboickdkednkaaDoorPFnPoolsx2
import Derived.Test.YtoboickdkednkaaDoorPFnPoolsx10
/- What a record tells, as the landed code holds it: an interface with a type for each kind. -/
namespace Go.Proofs.YtoboickdkednkaaDoor
open Go.RowKit

end Go.Proofs.YtoboickdkednkaaDoor

/- The walks of impl.txOk, oidOk, isAhead, linkOk, livesOk, deedOk. -/
namespace Go.Proofs.YtoboickdkednkaaDoor
open Go.RowKit

end Go.Proofs.YtoboickdkednkaaDoor

/- The walks of the kinds, impl.recAt and impl.recOf. -/
namespace Go.Proofs.YtoboickdkednkaaDoor
open Go.RowKit

end Go.Proofs.YtoboickdkednkaaDoor

/- Undone: what the model and the landed code make of a record, in common. -/
namespace Go.Proofs.YtoboickdkednkaaDoor
open Go.RowKit

end Go.Proofs.YtoboickdkednkaaDoor

/- Appending a record that is read to a row that the call owns. -/
namespace Go.Proofs.YtoboickdkednkaaDoor
open Go.RowKit

theorem ownsRow_at {w : World} {base : Nat} {e : TypeId} {size n : Nat} {v : Value} {xs : List Value} (h : w.ownsRow base e size v n xs) {k : Nat} (hk : v.ownBlock = some k) : ∃ cur, w.heap[k]? = some (.cells cur e (0, 0)) := by
  rcases h.2 with ⟨rfl, _⟩ | ⟨g, cap, cur, rfl, _, hg, _⟩
  · cases hk
  · cases hk
    exact ⟨cur, hg⟩
end Go.Proofs.YtoboickdkednkaaDoor

/- Appending a seat that is read to a row that the call owns. -/
namespace Go.Proofs.YtoboickdkednkaaDoor
open Go.RowKit

theorem Tryd.infoSeat : (Tryd.prog.info? 38).map (fun i => (i.zero, i.size, i.bytes)) = some (some (.agg zeroSt.cells.toArray), 20, 280) := by kernel_rfl

/-- A row of records is none of the rows that hang at a record: their kinds differ. -/
theorem rowSt_apart {w : World} {base lo hi n : Nat} {v : Value} {xs : List Value} {r : SeatA} (h : w.ownsRow base 38 20 v n xs) (hr : r.own w lo hi) : ∀ k, v.ownBlock = some k → k ∉ r.blocks := by
  intro k hk hm
  obtain ⟨cur, hc⟩ := ownsRow_at h hk
  have no : ∀ {b2 s2 n2 : Nat} {e2 : TypeId} {v2 : Value} {x2 : List Value}, w.ownsRow b2 e2 s2 v2 n2 x2 → v2.ownBlock = some k → e2 = 38 := by
    intro b2 s2 n2 e2 v2 x2 h2 hk2
    obtain ⟨cur2, hc2⟩ := ownsRow_at h2 hk2
    rw [hc] at hc2
    simp only [Option.some.injEq, Obj.cells.injEq] at hc2
    exact hc2.2.1.symm
  obtain ⟨x, hx, hm⟩ := List.mem_flatMap.1 hm
  simp only [SlotA.blocks, List.mem_append, Option.mem_toList] at hm
  rcases hm with h1 | h1
  · have := no (hr.each x hx).ints.1 h1; cases this
  · have := no (hr.each x hx).refs.1 h1; cases this

theorem append_seat {w : World} {ops : Array Oper} {rest : List Oper} {o : Oper} {act : Act} {Q : Exit → Act → World → Prop} (hgd : o.guard = none) (s x : Operand)
    (ho : o.op = .call { callee := .builtin .append, args := #[s, x], argTypes := #[24, 24] })
    (lo hi : Nat) (a : Option Addr) (c : Nat) (rs : List SeatA) (hs : act.eval s = .slice a rs.length c) (hown : OwnSts w lo hi a c rs)
    (b off : Nat) (sc : Nat) (q : SeatA) (hx : act.eval x = .slice (some ⟨b, off, none⟩) 1 sc) (hr : w.rangeAt b off q.cells) (l u : Nat) (hq : q.own w l u) (hl : hi ≤ l) (hu : u ≤ w.heap.size)
    (hb : rs.length + 1 ≤ 68719476736) (hlo : lo ≤ hi)
    (h : ∀ a' c' w', OwnSts w' lo w'.heap.size a' c' (rs ++ [q]) → w.grownBy w' (Value.slice a rs.length c).ownBlock → wpList Tryd.prog ops Q rest (act.put o.dst (.slice a' (rs ++ [q]).length c')) w') :
    wpList Tryd.prog ops Q (o :: rest) act w := by
  obtain ⟨i0, hi0, hz0, hz1, hz2⟩ := info_parts Tryd.infoSeat
  have hqb := hq.blocks_lt
  have htop := hown.top
  refine wpList_append_own w hgd s x 24 ho lo 38 i0 (.agg zeroSt.cells.toArray) 20 280 Tryd.underlying24 hi0 hz0 hz1 hz2 rfl (by decide) _ _ _ hs hown.row ⟨b, off, none⟩ 1 sc q.cells hx (by rfl) ?_ (oneSt q) (by simp only [maxLen]; omega) (by omega) (by omega) (fun v' w' h1 h2 _ => ?_)
  · intro j v hj
    rw [Addr_add]
    exact hr j v hj
  · have e : cellsSts rs ++ q.cells = cellsSts (rs ++ [q]) := by rw [cellsSts_app, cellsSts_cons]; simp [cellsSts]
    have e2 : rs.length + 1 = (rs ++ [q]).length := by simp
    rw [e, e2] at h1
    have sh : ∃ a' c', v' = .slice a' (rs ++ [q]).length c' := by
      rcases h1.2 with ⟨rfl, h0⟩ | ⟨g, cap, cur, rfl, _⟩
      · simp at h0
      · exact ⟨_, _, rfl⟩
    obtain ⟨a', c', rfl⟩ := sh
    have hsz := h2.size
    have ht : Touch (Value.slice a rs.length c).ownBlock.toList w w' := Touch.of_grown h2 (fun k hk => Option.mem_toList.2 hk)
    have hrow := h1.lt
    have hold : ∀ r ∈ rs, r.own w' lo w'.heap.size := fun r hr => ((hown.each r hr).touch ht (fun k hk hk' => (List.nodup_append.1 hown.apart).2.2 k hk' k (List.mem_flatMap.2 ⟨r, hr, hk⟩) rfl)).widen (Nat.le_refl _) (by omega) (Nat.le_refl _)
    have hnew : q.own w' lo w'.heap.size := (hq.touch ht (fun k hk hk' => by have := hqb k hk; have := hown.blk k (Option.mem_toList.1 hk'); omega)).widen (by omega) (by omega) (Nat.le_refl _)
    refine h a' c' w' ⟨h1, Nat.le_refl _, fun k hk => (hrow k hk).2, fun r hr => ?_, ?_⟩ h2
    · rcases List.mem_append.1 hr with hr | hr
      · exact hold r hr
      · obtain rfl := List.mem_singleton.1 hr
        exact hnew
    · rw [List.flatMap_append, List.nodup_append, List.nodup_append]
      have hap := (List.nodup_append.1 hown.apart).2.1
      have hin : ∀ x ∈ rs.flatMap SeatA.blocks, lo ≤ x ∧ x < hi := fun x hx => by
        obtain ⟨r, hr, hx⟩ := List.mem_flatMap.1 hx
        exact (hown.each r hr).blocks_lt x hx
      refine ⟨by cases (Value.slice a' (rs ++ [q]).length c').ownBlock <;> simp, ⟨hap, by simpa using hq.apart, fun x hx y hy e => ?_⟩, fun x hx y hy e => ?_⟩
      · have := hin x hx
        simp only [List.flatMap_cons, List.flatMap_nil, List.append_nil] at hy
        have := hqb y hy
        omega
      · have hx' := Option.mem_toList.1 hx
        subst e
        rcases List.mem_append.1 hy with hy | hy
        · obtain ⟨r, hr, hy⟩ := List.mem_flatMap.1 hy
          exact rowSt_apart h1 (hold r hr) x hx' hy
        · simp only [List.flatMap_cons, List.flatMap_nil, List.append_nil] at hy
          exact rowSt_apart h1 hnew x hx' hy
end Go.Proofs.YtoboickdkednkaaDoor

/- Appending a seat, a record, as a step of a region that draws its order: where the row lies behind it. -/
namespace Go.Proofs.YtoboickdkednkaaDoor
open Go.RowKit

theorem run_append_seat {w : World} (ty : TypeId) (lo hi : Nat) (a : Option Addr) (c : Nat) (rs : List SeatA) (hown : OwnSts w lo hi a c rs)
    (b off : Nat) (sc : Nat) (q : SeatA) (hr : w.rangeAt b off q.cells) (l u : Nat) (hq : q.own w l u) (hl : hi ≤ l) (hu : u ≤ w.heap.size)
    (hb : rs.length + 1 ≤ 68719476736) (hlo : lo ≤ hi) :
    ∃ a' c' w', (Builtin.append_ #[24, 24] ty #[.slice a rs.length c, .slice (some ⟨b, off, none⟩) 1 sc]).run Tryd.prog w = .ok (.slice a' (rs ++ [q]).length c') w' ∧ OwnSts w' lo w'.heap.size a' c' (rs ++ [q]) ∧ w.grownBy w' (Value.slice a rs.length c).ownBlock ∧
      (∀ k, (Value.slice a' (rs ++ [q]).length c').ownBlock = some k → (Value.slice a rs.length c).ownBlock = some k ∨ k = w.heap.size) := by
  obtain ⟨i0, hi0, hz0, hz1, hz2⟩ := info_parts Tryd.infoSeat
  have hqb := hq.blocks_lt
  have htop := hown.top
  obtain ⟨v', w', hrun, h1, h2, _, h5⟩ := run_append_own_at (P := Tryd.prog) w lo 24 ty 38 i0 (.agg zeroSt.cells.toArray) 20 280 Tryd.underlying24 hi0 hz0 hz1 hz2 rfl (by decide) _ _ _ hown.row ⟨b, off, none⟩ 1 sc q.cells (by rfl) (by
    intro j v hj
    rw [Addr_add]
    exact hr j v hj) (oneSt q) (by simp only [maxLen]; omega) (by omega) (by omega)
  have e : cellsSts rs ++ q.cells = cellsSts (rs ++ [q]) := by rw [cellsSts_app, cellsSts_cons]; simp [cellsSts]
  have e2 : rs.length + 1 = (rs ++ [q]).length := by simp
  rw [e, e2] at h1
  have sh : ∃ a' c', v' = .slice a' (rs ++ [q]).length c' := by
    rcases h1.2 with ⟨rfl, h0⟩ | ⟨g, cap, cur, rfl, _⟩
    · simp at h0
    · exact ⟨_, _, rfl⟩
  obtain ⟨a', c', rfl⟩ := sh
  have hsz := h2.size
  have ht : Touch (Value.slice a rs.length c).ownBlock.toList w w' := Touch.of_grown h2 (fun k hk => Option.mem_toList.2 hk)
  have hrow := h1.lt
  have hold : ∀ r ∈ rs, r.own w' lo w'.heap.size := fun r hr => ((hown.each r hr).touch ht (fun k hk hk' => (List.nodup_append.1 hown.apart).2.2 k hk' k (List.mem_flatMap.2 ⟨r, hr, hk⟩) rfl)).widen (Nat.le_refl _) (by omega) (Nat.le_refl _)
  have hnew : q.own w' lo w'.heap.size := (hq.touch ht (fun k hk hk' => by have := hqb k hk; have := hown.blk k (Option.mem_toList.1 hk'); omega)).widen (by omega) (by omega) (Nat.le_refl _)
  refine ⟨a', c', w', hrun, ⟨h1, Nat.le_refl _, fun k hk => (hrow k hk).2, fun r hr => ?_, ?_⟩, h2, fun k hk => h5.elim (fun h5 => .inl (by rw [← h5]; exact hk)) (fun h5 => by rw [h5] at hk; exact .inr (Option.some.inj hk).symm)⟩
  · rcases List.mem_append.1 hr with hr | hr
    · exact hold r hr
    · obtain rfl := List.mem_singleton.1 hr
      exact hnew
  · rw [List.flatMap_append, List.nodup_append, List.nodup_append]
    have hap := (List.nodup_append.1 hown.apart).2.1
    have hin : ∀ x ∈ rs.flatMap SeatA.blocks, lo ≤ x ∧ x < hi := fun x hx => by
      obtain ⟨r, hr, hx⟩ := List.mem_flatMap.1 hx
      exact (hown.each r hr).blocks_lt x hx
    refine ⟨by cases (Value.slice a' (rs ++ [q]).length c').ownBlock <;> simp, ⟨hap, by simpa using hq.apart, fun x hx y hy e => ?_⟩, fun x hx y hy e => ?_⟩
    · have := hin x hx
      simp only [List.flatMap_cons, List.flatMap_nil, List.append_nil] at hy
      have := hqb y hy
      omega
    · have hx' := Option.mem_toList.1 hx
      subst e
      rcases List.mem_append.1 hy with hy | hy
      · obtain ⟨r, hr, hy⟩ := List.mem_flatMap.1 hy
        exact rowSt_apart h1 (hold r hr) x hx' hy
      · simp only [List.flatMap_cons, List.flatMap_nil, List.append_nil] at hy
        exact rowSt_apart h1 hnew x hx' hy

theorem step_append_seat {w : World} {ops : Array Oper} {o : Oper} {act : Act} {K : Act → World → Prop} {Q : Exit → Act → World → Prop} {E : Prop} (hgd : o.guard = none) (s x : Operand)
    (ho : o.op = .call { callee := .builtin .append, args := #[s, x], argTypes := #[24, 24] })
    (lo hi : Nat) (a : Option Addr) (c : Nat) (rs : List SeatA) (hs : act.eval s = .slice a rs.length c) (hown : OwnSts w lo hi a c rs)
    (b off : Nat) (sc : Nat) (q : SeatA) (hx : act.eval x = .slice (some ⟨b, off, none⟩) 1 sc) (hr : w.rangeAt b off q.cells) (l u : Nat) (hq : q.own w l u) (hl : hi ≤ l) (hu : u ≤ w.heap.size)
    (hb : rs.length + 1 ≤ 68719476736) (hlo : lo ≤ hi)
    (h : ∀ a' c' w', OwnSts w' lo w'.heap.size a' c' (rs ++ [q]) → w.grownBy w' (Value.slice a rs.length c).ownBlock → (∀ k, (Value.slice a' (rs ++ [q]).length c').ownBlock = some k → (Value.slice a rs.length c).ownBlock = some k ∨ k = w.heap.size) → K (act.put o.dst (.slice a' (rs ++ [q]).length c')) w') :
    if Region.wanted o (yielded ops act.tmps) = true then Oper.wp Tryd.prog o act w K Q else E := by
  have hw : Region.wanted o (yielded ops act.tmps) = true := by simp [Region.wanted, hgd]
  rw [if_pos hw]
  obtain ⟨a', c', w', hrun, h2, h3, h4⟩ := run_append_seat (w := w) o.type lo hi a c rs hown b off sc q hr l u hq hl hu hb hlo
  unfold Oper.wp
  simp [execOp, ho, resolve, invoke, builtin, hs, hx, hrun, Result.andThen]
  have := h a' c' w' h2 h3 h4
  rw [List.length_append, List.length_singleton] at this
  exact this
end Go.Proofs.YtoboickdkednkaaDoor

/- Logs: what they are, what a walk reads and owns of them. -/
namespace Go.Proofs.YtoboickdkednkaaDoor
open Go.RowKit

structure LogV where
  recs : List RecV
  sure : Int
/-- A log, and where its row lies. -/
structure LogA where
  recs : List RecA
  sure : Int
  a : Option Addr
  c : Nat
def LogA.v (l : LogA) : LogV := ⟨l.recs.map RecA.v, l.sure⟩
def LogA.cells (l : LogA) : List Value := [.slice l.a l.recs.length l.c, .int .i64 l.sure]
def LogA.reads (w : World) (l : LogA) : Prop := ReadsRs w l.a l.recs
structure LogA.short (l : LogA) (m : Nat) : Prop where
  len : l.recs.length ≤ m
  each : ∀ r ∈ l.recs, r.short m
theorem LogA.short.at {l : LogA} {m : Nat} (h : l.short m) (k : Nat) (hk : k < l.recs.length) : (l.recs.getD k zeroR).short m := h.each _ (recD_mem _ k hk)
theorem LogA.short_wide {l : LogA} (hl : l.short 1048576) : l.short 1099511627776 := ⟨by have := hl.len; omega, fun r hr => Go.Proofs.YtoboickdkednkaaDoor.short_wide (hl.each r hr)⟩
end Go.Proofs.YtoboickdkednkaaDoor

/- The engine: what it is, what a walk reads and owns of it. -/
namespace Go.Proofs.YtoboickdkednkaaDoor
open Go.RowKit

structure EngV where
  disk : List (Int × List SlotV)
  seats : List SeatV
  hand : Int
  log : LogV
  txs : List LiveV
  holds : List HoldV
  next : Int
  down : Bool
/-- An engine, and where its rows and lists lie. -/
structure EngA where
  disk : List PageA
  seats : List SeatA
  aS : Option Addr
  cS : Nat
  hand : Int
  log : LogA
  txs : List LiveV
  aT : Option Addr
  cT : Nat
  holds : List HoldV
  aH : Option Addr
  cH : Nat
  next : Int
  down : Bool
def EngA.v (e : EngA) : EngV := ⟨e.disk.map (fun p => (p.lsn, p.ss.map (·.v))), e.seats.map SeatA.v, e.hand, e.log.v, e.txs, e.holds, e.next, e.down⟩
def cellsPs (ps : List PageA) : List Value := ps.flatMap PageA.cells
def EngA.tail (e : EngA) : List Value := [.slice e.aS e.seats.length e.cS, .int .i64 e.hand, .slice e.log.a e.log.recs.length e.log.c, .int .i64 e.log.sure, .slice e.aT e.txs.length e.cT, .slice e.aH e.holds.length e.cH, .int .i64 e.next, .bool e.down]
def EngA.cells (e : EngA) : List Value := cellsPs e.disk ++ e.tail
/-- The disk's shape: eight pages of four slots. -/
structure EngA.shape (e : EngA) : Prop where
  eight : e.disk.length = 8
  four : ∀ p ∈ e.disk, p.ss.length = 4
theorem cellsPs_len : ∀ (ps : List PageA), (∀ p ∈ ps, p.ss.length = 4) → (cellsPs ps).length = ps.length * 17 := by
  intro ps
  induction ps with
  | nil => intro _; rfl
  | cons p r ih =>
    intro h
    have h1 := ih (fun q hq => h q (List.mem_cons_of_mem _ hq))
    have h2 := page_len p (h p List.mem_cons_self)
    simp only [cellsPs, List.flatMap_cons, List.length_append, List.length_cons] at h1 ⊢
    omega
theorem EngA.disk_len {e : EngA} (h : e.shape) : (cellsPs e.disk).length = 136 := by rw [cellsPs_len _ h.four, h.eight]
theorem EngA.cells_len {e : EngA} (h : e.shape) : e.cells.length = 144 := by rw [EngA.cells, List.length_append, EngA.disk_len h]; rfl
def rowOf (a : Option Addr) (n c : Nat) : List Nat := (Value.slice a n c).ownBlock.toList
def EngA.diskBl (e : EngA) : List Nat := (e.disk.flatMap (·.ss)).flatMap SlotA.blocks
def EngA.blocks (e : EngA) : List Nat := e.diskBl ++ (blocksSts e.aS e.cS e.seats ++ (blocksRs e.log.a e.log.c e.log.recs ++ (rowOf e.aT e.txs.length e.cT ++ rowOf e.aH e.holds.length e.cH)))
theorem OwnS.touch {w w' : World} {lo hi : Nat} {ss : List SlotA} {bl : List Nat} (h : OwnS w lo hi ss) (ht : Touch bl w w') (hd : ∀ k ∈ ss.flatMap SlotA.blocks, k ∉ bl) : OwnS w' lo hi ss :=
  ⟨fun x hx => SlotA.touch (h.each x hx) ht (fun k hk => hd k (List.mem_flatMap.2 ⟨x, hx, hk⟩)), h.apart⟩
end Go.Proofs.YtoboickdkednkaaDoor
