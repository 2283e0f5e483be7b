/- Several texts in one, in their order. -/
import Derived.Test.YtnnehpimkdoeoaaPChainx27
import Derived.Test.YtnnehpimkdoeoaaPChainx23
import Derived.Test.YtnnehpimkdoeoaaPChainx29
/- Undone: what the model and the landed code make of a record, in common. -/
namespace Go.Proofs.Ytnnehpimkdoeoaa
open Go.RowKit

/-- The record that undoes r, if all is right. -/
def backV (r : RecV) (n p : Int) : RecV := ⟨n, r.tx, p, 4, r.oid, noS, r.bf, r.prev, []⟩
def undoV (r : RecV) (n p : Int) : RecV := if okR r = true ∧ r.kind = 1 ∧ okR (backV r n p) = true then backV r n p else noR
theorem undoV_bad {r : RecV} {n p : Int} (h : okR r = false) : undoV r n p = noR := by unfold undoV; rw [if_neg]; rintro ⟨h1, _⟩; rw [h] at h1; cases h1
theorem undoV_kind {r : RecV} {n p : Int} (h : ¬ r.kind = 1) : undoV r n p = noR := by unfold undoV; rw [if_neg]; rintro ⟨_, h1, _⟩; exact h h1
theorem undoV_no {r : RecV} {n p : Int} (h : okR (backV r n p) = false) : undoV r n p = noR := by unfold undoV; rw [if_neg]; rintro ⟨_, _, h1⟩; rw [h] at h1; cases h1
theorem undoV_yes {r : RecV} {n p : Int} (h1 : okR r = true) (h2 : r.kind = 1) (h3 : okR (backV r n p) = true) : undoV r n p = backV r n p := by unfold undoV; rw [if_pos ⟨h1, h2, h3⟩]
theorem noR_bad : okR noR = false := rfl
theorem zero_own (w : World) (lo hi : Nat) (h : hi ≤ w.heap.size) : zeroS.own w lo hi := ⟨ownI_nil _ _ _ h, ownI_nil _ _ _ h, fun k hk => by cases hk⟩
theorem own_zeroR (w : World) (lo hi : Nat) (h : hi ≤ w.heap.size) : zeroR.own w lo hi := ⟨zero_own w lo hi h, zero_own w lo hi h, ownL_nil w lo hi h, by decide⟩
/-- The record that undoes: only its slot has lists. -/
def backA (n tx p oid : Int) (t : SlotA) (x : Int) : RecA := ⟨n, tx, p, 4, oid, zeroS, t, x, [], none, 0⟩
theorem own_backA {w : World} {lo hi : Nat} {t : SlotA} (n tx p oid x : Int) (h : t.own w lo hi) (hh : hi ≤ w.heap.size) : (backA n tx p oid t x).own w lo hi :=
  ⟨zero_own w lo hi hh, h, ownL_nil w lo hi hh, by
    show ([] ++ (t.blocks ++ [])).Nodup
    rw [List.nil_append, List.append_nil]
    exact SlotA.blocks_nodup h⟩
theorem rec_out {w : World} {C : Nat} (q : RecA) (old : List Value) (ho : old.length = 15) (bC : Box w C old 44) :
    ∃ WF, Hid (w.setCells C 0 q.cells = WF) ∧ Within C (C + 1) w WF ∧ WF.heap.size = w.heap.size ∧ Hid (w.there C 0 q.cells.toArray.size) ∧ Hid ((loadVar 44 ⟨C, 0, none⟩).run Try.prog WF = .ok (.agg q.cells.toArray) WF) ∧ Box WF C q.cells 44 := by
  obtain ⟨WF, hWF, bF, hwF, hsF⟩ := range_fill [] old q.cells [] (by simpa using bC) (by rw [ho]; rfl)
  have bF' : Box WF C q.cells 44 := by simpa using bF
  exact ⟨WF, hWF, hwF, hsF, bC.there 0 _ (by rw [ho]; show 0 + 15 ≤ 15; decide), rec_load q bF', bF'⟩
theorem rec_info (q : RecA) : (Try.prog.info? 44).map (·.size) = some q.cells.length := by show _ = some 15; kernel_rfl
theorem rec_one (q : RecA) : q.cells.toArray.all (·.oneCell') = true := all_oneCell_toArray (oneR q)
end Go.Proofs.Ytnnehpimkdoeoaa

/- Appending a record that is read to a row that the call owns. -/
namespace Go.Proofs.Ytnnehpimkdoeoaa
open Go.RowKit

theorem Try.infoRec : (Try.prog.info? 44).map (fun i => (i.zero, i.size, i.bytes)) = some (some (.agg zeroR.cells.toArray), 15, 200) := by kernel_rfl

theorem ownsRow_at {w : World} {base : Nat} {e : TypeId} {size n : Nat} {v : Value} {xs : List Value} (h : w.ownsRow base e size v n xs) {k : Nat} (hk : v.ownBlock = some k) : ∃ cur, w.heap[k]? = some (.cells cur e (0, 0)) := by
  rcases h.2 with ⟨rfl, _⟩ | ⟨g, cap, cur, rfl, _, hg, _⟩
  · cases hk
  · cases hk
    exact ⟨cur, hg⟩
/-- A row of records is none of the rows that hang at a record: their kinds differ. -/
theorem row_apart {w : World} {base lo hi n : Nat} {v : Value} {xs : List Value} {r : RecA} (h : w.ownsRow base 44 15 v n xs) (hr : r.own w lo hi) : ∀ k, v.ownBlock = some k → k ∉ r.blocks := by
  intro k hk hm
  obtain ⟨cur, hc⟩ := ownsRow_at h hk
  simp only [RecA.blocks, SlotA.blocks, List.mem_append, Option.mem_toList] at hm
  have no : ∀ {b2 s2 n2 : Nat} {e2 : TypeId} {v2 : Value} {x2 : List Value}, w.ownsRow b2 e2 s2 v2 n2 x2 → v2.ownBlock = some k → e2 = 44 := by
    intro b2 s2 n2 e2 v2 x2 h2 hk2
    obtain ⟨cur2, hc2⟩ := ownsRow_at h2 hk2
    rw [hc] at hc2
    simp only [Option.some.injEq, Obj.cells.injEq] at hc2
    exact hc2.2.1.symm
  rcases hm with (h1 | h1) | (h1 | h1) | h1
  · have := no hr.bf.ints.1 h1; cases this
  · have := no hr.bf.refs.1 h1; cases this
  · have := no hr.af.ints.1 h1; cases this
  · have := no hr.af.refs.1 h1; cases this
  · have := no hr.txs.1 h1; cases this

theorem append_rec {w : World} {ops : Array Oper} {rest : List Oper} {o : Oper} {act : Act} {Q : Exit → Act → World → Prop} (hgd : o.guard = none) (s x : Operand)
    (ho : o.op = .call { callee := .builtin .append, args := #[s, x], argTypes := #[28, 28] })
    (lo hi : Nat) (a : Option Addr) (c : Nat) (rs : List RecA) (hs : act.eval s = .slice a rs.length c) (hown : OwnRs w lo hi a c rs)
    (b off : Nat) (sc : Nat) (q : RecA) (hx : act.eval x = .slice (some ⟨b, off, none⟩) 1 sc) (hr : w.rangeAt b off q.cells) (l u : Nat) (hq : q.own w l u) (hl : hi ≤ l) (hu : u ≤ w.heap.size)
    (hb : rs.length + 1 ≤ 68719476736) (hlo : lo ≤ hi)
    (h : ∀ a' c' w', OwnRs w' lo w'.heap.size a' c' (rs ++ [q]) → w.grownBy w' (Value.slice a rs.length c).ownBlock → wpList Try.prog ops Q rest (act.put o.dst (.slice a' (rs ++ [q]).length c')) w') :
    wpList Try.prog ops Q (o :: rest) act w := by
  obtain ⟨i0, hi0, hz0, hz1, hz2⟩ := info_parts Try.infoRec
  have hqb := hq.blocks_lt
  have htop := hown.top
  refine wpList_append_own w hgd s x 28 ho lo 44 i0 (.agg zeroR.cells.toArray) 15 200 Try.underlying28 hi0 hz0 hz1 hz2 rfl (by decide) _ _ _ hs hown.row ⟨b, off, none⟩ 1 sc q.cells hx (by rfl) ?_ (oneR q) (by simp only [maxLen]; omega) (by omega) (by omega) (fun v' w' h1 h2 _ => ?_)
  · intro j v hj
    rw [Addr_add]
    exact hr j v hj
  · have e : cellsRs rs ++ q.cells = cellsRs (rs ++ [q]) := by rw [cellsRs_app, cellsRs_cons]; simp [cellsRs]
    have e2 : rs.length + 1 = (rs ++ [q]).length := by simp
    rw [e, e2] at h1
    have sh : ∃ a' c', v' = .slice a' (rs ++ [q]).length c' := by
      rcases h1.2 with ⟨rfl, h0⟩ | ⟨g, cap, cur, rfl, _⟩
      · simp at h0
      · exact ⟨_, _, rfl⟩
    obtain ⟨a', c', rfl⟩ := sh
    have hsz := h2.size
    have ht : Touch (Value.slice a rs.length c).ownBlock.toList w w' := Touch.of_grown h2 (fun k hk => Option.mem_toList.2 hk)
    have hrow := h1.lt
    have hold : ∀ r ∈ rs, r.own w' lo w'.heap.size := fun r hr => ((hown.each r hr).touch ht (fun k hk hk' => (List.nodup_append.1 hown.apart).2.2 k hk' k (List.mem_flatMap.2 ⟨r, hr, hk⟩) rfl)).widen (Nat.le_refl _) (by omega) (Nat.le_refl _)
    have hnew : q.own w' lo w'.heap.size := (hq.touch ht (fun k hk hk' => by have := hqb k hk; have := hown.blk k (Option.mem_toList.1 hk'); omega)).widen (by omega) (by omega) (Nat.le_refl _)
    refine h a' c' w' ⟨h1, Nat.le_refl _, fun k hk => (hrow k hk).2, fun r hr => ?_, ?_⟩ h2
    · rcases List.mem_append.1 hr with hr | hr
      · exact hold r hr
      · obtain rfl := List.mem_singleton.1 hr
        exact hnew
    · rw [List.flatMap_append, List.nodup_append, List.nodup_append]
      have hap := (List.nodup_append.1 hown.apart).2.1
      have hin : ∀ x ∈ rs.flatMap RecA.blocks, lo ≤ x ∧ x < hi := fun x hx => by
        obtain ⟨r, hr, hx⟩ := List.mem_flatMap.1 hx
        exact (hown.each r hr).blocks_lt x hx
      refine ⟨by cases (Value.slice a' (rs ++ [q]).length c').ownBlock <;> simp, ⟨hap, by simpa using hq.apart, fun x hx y hy e => ?_⟩, fun x hx y hy e => ?_⟩
      · have := hin x hx
        simp only [List.flatMap_cons, List.flatMap_nil, List.append_nil] at hy
        have := hqb y hy
        omega
      · have hx' := Option.mem_toList.1 hx
        subst e
        rcases List.mem_append.1 hy with hy | hy
        · obtain ⟨r, hr, hy⟩ := List.mem_flatMap.1 hy
          exact row_apart h1 (hold r hr) x hx' hy
        · simp only [List.flatMap_cons, List.flatMap_nil, List.append_nil] at hy
          exact row_apart h1 hnew x hx' hy
end Go.Proofs.Ytnnehpimkdoeoaa

/- Logs: what they are, what a walk reads and owns of them. -/
namespace Go.Proofs.Ytnnehpimkdoeoaa
open Go.RowKit

structure LogV where
  recs : List RecV
  sure : Int
/-- A log, and where its row lies. -/
structure LogA where
  recs : List RecA
  sure : Int
  a : Option Addr
  c : Nat
def LogA.v (l : LogA) : LogV := ⟨l.recs.map RecA.v, l.sure⟩
def LogA.cells (l : LogA) : List Value := [.slice l.a l.recs.length l.c, .int .i64 l.sure]
def LogA.reads (w : World) (l : LogA) : Prop := ReadsRs w l.a l.recs
def LogA.own (w : World) (lo hi : Nat) (l : LogA) : Prop := OwnRs w lo hi l.a l.c l.recs
structure LogA.short (l : LogA) (m : Nat) : Prop where
  len : l.recs.length ≤ m
  each : ∀ r ∈ l.recs, r.short m
theorem LogA.short.at {l : LogA} {m : Nat} (h : l.short m) (k : Nat) (hk : k < l.recs.length) : (l.recs.getD k zeroR).short m := h.each _ (recD_mem _ k hk)
theorem mapV_len {rs ts : List RecA} (h : ts.map RecA.v = rs.map RecA.v) : ts.length = rs.length := by simpa using congrArg List.length h
theorem mapV_at {rs ts : List RecA} (h : ts.map RecA.v = rs.map RecA.v) (k : Nat) (hk : k < rs.length) : (ts.getD k zeroR).v = (rs.getD k zeroR).v := by
  have hk' : k < ts.length := by rw [mapV_len h]; exact hk
  have := congrArg (fun x => x[k]?) h
  simpa [List.getD, hk, hk'] using this
theorem mapV_all {rs ts : List RecA} (h : ts.map RecA.v = rs.map RecA.v) (P : RecA → Prop) (hP : ∀ a b : RecA, a.v = b.v → P b → P a) (hall : ∀ r ∈ rs, P r) : ∀ r ∈ ts, P r := by
  intro r hr
  obtain ⟨k, hk, rfl⟩ := List.getElem_of_mem hr
  have hk' : k < rs.length := by rw [← mapV_len h]; exact hk
  have e := mapV_at h k hk'
  refine hP _ (rs.getD k zeroR) ?_ (hall _ (recD_mem rs k hk'))
  rw [← e]
  simp [List.getD, hk]
theorem LogA.short_of {l t : LogA} {m : Nat} (h : t.v = l.v) (hl : l.short m) : t.short m := by
  simp only [LogA.v, LogV.mk.injEq] at h
  exact ⟨by rw [mapV_len h.1]; exact hl.len, mapV_all h.1 (fun r => r.short m) (fun a b e hb => Go.Proofs.Ytnnehpimkdoeoaa.short_of e hb) hl.each⟩
theorem LogA.short_wide {l : LogA} (hl : l.short 1048576) : l.short 1099511627776 := ⟨by have := hl.len; omega, fun r hr => Go.Proofs.Ytnnehpimkdoeoaa.short_wide (hl.each r hr)⟩
end Go.Proofs.Ytnnehpimkdoeoaa
