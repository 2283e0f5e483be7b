/- Several texts in one, in their order. -/
import Derived.Test.YtbpdocjkhmiimaaDoorPLogOkx10
import Derived.Test.YtbpdocjkhmiimaaDoorPLogOkx25
import Derived.Test.YtbpdocjkhmiimaaDoorPLogOkx23
import Derived.Test.YtbpdocjkhmiimaaDoorProg
import Derived.Test.YtbpdocjkhmiimaaDoorPLogOkx2
import Derived.LaidEql
import Derived.Stop.Asserts
import Derived.RowKitTokens
/- What the laws of records share. -/
namespace Go.Proofs.YtbpdocjkhmiimaaDoor
open Go.RowKit

def zeroR : RecA := ⟨0, 0, 0, 0, 0, zeroS, zeroS, 0, [], none, 0⟩
theorem short_of {r t : RecA} {m : Nat} (h : t.v = r.v) (hl : r.short m) : t.short m := by
  simp only [RecA.v, RecV.mk.injEq] at h
  obtain ⟨_, _, _, _, _, h1, h2, _, h3⟩ := h
  exact ⟨by rw [h1]; exact hl.bf, by rw [h2]; exact hl.af, by rw [h3]; exact hl.txs⟩
theorem short_wide {r : RecA} (hl : r.short 1048576) : r.short 1099511627776 := ⟨by have := hl.bf; omega, by have := hl.af; omega, by have := hl.txs; omega⟩
theorem InRec.short {w : World} {r : RecA} (h : InRec w r) : r.short 9223372036854775807 := by
  have h1 := h.bf.lI
  have h2 := h.bf.lR
  have h3 := h.af.lI
  have h4 := h.af.lR
  have h5 := h.lT
  simp only [maxLen] at h1 h2 h3 h4 h5
  exact ⟨by omega, by omega, by omega⟩
theorem RecA.own.blocks_lt {w : World} {lo hi : Nat} {r : RecA} (h : r.own w lo hi) : ∀ k ∈ r.blocks, lo ≤ k ∧ k < hi := by
  intro k hk
  simp only [RecA.blocks, List.mem_append, Option.mem_toList] at hk
  rcases hk with h1 | h1 | h1
  · exact SlotA.blocks_lt h.bf k h1
  · exact SlotA.blocks_lt h.af k h1
  · exact h.txs.lt k h1
theorem toRec_law (r : RecA) (w : World) (hr : r.reads w) (hl : r.short 1048576) :
    Calls Tryd.prog 20 #[.agg r.cells.toArray] w fun e w' => ∃ t : RecA, e = .returned (.agg t.cells.toArray) ∧ Hid (t.v = r.v) ∧ t.own w' w.heap.size w'.heap.size ∧ Below w.heap.size w w' :=
  toRec_own r w hr (short_wide hl).bf (short_wide hl).af (short_wide hl).txs
theorem putRec_len (r : RecV) : (putRecOf r).length ≤ 100000 := by
  unfold putRecOf
  split
  · rename_i h
    have h0 := okR_txs h
    have h1 := flatN_len (headR r)
    have h2 := putSlot_len r.bf
    have h3 := putSlot_len r.af
    have h4 := (putOf_len (r.txs.length : Int)).2
    have h5 := flatL_len r.txs
    have h6 : (headR r).length = 6 := rfl
    simp only [bodyR, List.length_append]
    omega
  · simp
end Go.Proofs.YtbpdocjkhmiimaaDoor

/- Rows of records: what they are, what a walk reads and owns of them. -/
namespace Go.Proofs.YtbpdocjkhmiimaaDoor
open Go.RowKit

def cellsRs (rs : List RecA) : List Value := rs.flatMap RecA.cells
theorem cellsR_len (r : RecA) : r.cells.length = 15 := rfl
theorem cellsRs_len (rs : List RecA) : (cellsRs rs).length = rs.length * 15 := by
  induction rs with
  | nil => rfl
  | cons s r ih => simp only [cellsRs, List.flatMap_cons, List.length_append, cellsR_len, List.length_cons] at *; omega
theorem cellsRs_app (a b : List RecA) : cellsRs (a ++ b) = cellsRs a ++ cellsRs b := by simp [cellsRs]
theorem cellsRs_cons (r : RecA) (b : List RecA) : cellsRs (r :: b) = r.cells ++ cellsRs b := by simp [cellsRs]
theorem cellsRs_at (rs : List RecA) (k j : Nat) (hk : k < rs.length) (hj : j < 15) : (cellsRs rs)[k * 15 + j]? = (rs.getD k zeroR).cells[j]? := by
  induction rs generalizing k with
  | nil => simp at hk
  | cons s r ih =>
    rw [cellsRs_cons]
    cases k with
    | zero => rw [List.getElem?_append_left (by rw [cellsR_len]; omega)]; simp
    | succ k =>
      rw [List.getElem?_append_right (by rw [cellsR_len]; omega), cellsR_len]
      have := ih k (by simpa using hk)
      rw [show (k + 1) * 15 + j - 15 = k * 15 + j by omega, this]
      simp
theorem oneRs (rs : List RecA) : ∀ v ∈ cellsRs rs, v.oneCell' = true := by
  intro v hv
  obtain ⟨s, _, hs⟩ := List.mem_flatMap.1 hv
  exact oneR s v hs
theorem recD_split (rs : List RecA) (k : Nat) (hk : k < rs.length) : rs = rs.take k ++ rs.getD k zeroR :: rs.drop (k + 1) := by
  have e : rs.getD k zeroR = rs[k] := by simp [List.getD, hk]
  rw [e]
  conv => lhs; rw [← List.take_append_drop k rs, List.drop_eq_getElem_cons hk]
theorem recD_mem (rs : List RecA) (k : Nat) (hk : k < rs.length) : rs.getD k zeroR ∈ rs := by
  have e : rs.getD k zeroR = rs[k] := by simp [List.getD, hk]
  rw [e]
  exact List.getElem_mem hk

theorem rangeAt_below {w w' : World} {b o n : Nat} {cs : List Value} (h : w.rangeAt b o cs) (hb : Below n w w') (hn : b < n) : w'.rangeAt b o cs := fun j v hv => (hb.cell (p := ⟨b, o + j, none⟩) hn).trans (h j v hv)
theorem rangeAt_block {w w' : World} {b o : Nat} {cs : List Value} (h : w.rangeAt b o cs) (hb : w'.heap[b]? = w.heap[b]?) : w'.rangeAt b o cs := fun j v hv => by
  have := h j v hv
  simp only [World.cell?, hb] at this ⊢
  exact this
theorem rangeR_lt {w : World} {b o : Nat} {r : RecA} (h : w.rangeAt b o r.cells) : b < w.heap.size := block_lt (h 0 _ rfl)

/-- The slice at a reads these. -/
def ReadsRs (w : World) (a : Option Addr) (rs : List RecA) : Prop := rs ≠ [] → ∃ b off, a = some ⟨b, off, none⟩ ∧ ∀ k, k < rs.length → w.rangeAt b (off + k * 15) (rs.getD k zeroR).cells ∧ (rs.getD k zeroR).reads w
theorem ReadsRs.nil (w : World) (a : Option Addr) : ReadsRs w a [] := fun h => absurd rfl h
theorem ReadsRs.below {w w' : World} {a : Option Addr} {rs : List RecA} (h : ReadsRs w a rs) (hb : Below w.heap.size w w') : ReadsRs w' a rs := by
  intro hne
  obtain ⟨b, off, ha, hc⟩ := h hne
  refine ⟨b, off, ha, fun k hk => ?_⟩
  obtain ⟨h0, h1⟩ := hc k hk
  exact ⟨rangeAt_below h0 hb (rangeR_lt h0), h1.below hb⟩
theorem ReadsRs.cases {w : World} {a : Option Addr} {rs : List RecA} (h : ReadsRs w a rs) : rs = [] ∨ ∃ b off, a = some ⟨b, off, none⟩ ∧ 0 < rs.length ∧ ∀ k, k < rs.length → w.rangeAt b (off + k * 15) (rs.getD k zeroR).cells ∧ (rs.getD k zeroR).reads w := by
  by_cases e : rs = []
  · exact .inl e
  · obtain ⟨b, off, ha, hc⟩ := h e
    exact .inr ⟨b, off, ha, List.length_pos_iff.2 e, hc⟩

/-- The slice at a, of capacity c, owns these, and what hangs at them; all of it lies from lo up to hi, no two rows are one. -/
structure OwnRs (w : World) (lo hi : Nat) (a : Option Addr) (c : Nat) (rs : List RecA) : Prop where
  row : w.ownsRow lo 42 15 (.slice a rs.length c) rs.length (cellsRs rs)
  top : hi ≤ w.heap.size
  blk : ∀ k, (Value.slice a rs.length c).ownBlock = some k → k < hi
  each : ∀ r ∈ rs, r.own w lo hi
  apart : ((Value.slice a rs.length c).ownBlock.toList ++ rs.flatMap RecA.blocks).Nodup

def blocksRs (a : Option Addr) (c : Nat) (rs : List RecA) : List Nat := (Value.slice a rs.length c).ownBlock.toList ++ rs.flatMap RecA.blocks
theorem OwnRs.blocks_lt {w : World} {lo hi : Nat} {a : Option Addr} {c : Nat} {rs : List RecA} (h : OwnRs w lo hi a c rs) : ∀ k ∈ blocksRs a c rs, lo ≤ k ∧ k < hi := by
  intro k hk
  simp only [blocksRs, List.mem_append, List.mem_flatMap, Option.mem_toList] at hk
  rcases hk with h1 | ⟨r, hr, h1⟩
  · exact ⟨(h.row.lt k h1).1, h.blk k h1⟩
  · exact (h.each r hr).blocks_lt k h1
theorem RecA.own.touch {w w' : World} {lo hi : Nat} {r : RecA} {bl : List Nat} (h : r.own w lo hi) (ht : Touch bl w w') (hd : ∀ k ∈ r.blocks, k ∉ bl) : r.own w' lo hi :=
  ⟨SlotA.touch h.bf ht (fun k hk => hd k (List.mem_append.2 (.inl hk))), SlotA.touch h.af ht (fun k hk => hd k (List.mem_append.2 (.inr (List.mem_append.2 (.inl hk))))), h.txs.touch ht (fun k hk => hd k (List.mem_append.2 (.inr (List.mem_append.2 (.inr (Option.mem_toList.2 hk)))))), h.apart⟩
theorem OwnRs.touch {w w' : World} {lo hi : Nat} {a : Option Addr} {c : Nat} {rs : List RecA} {bl : List Nat} (h : OwnRs w lo hi a c rs) (ht : Touch bl w w') (hd : ∀ k ∈ blocksRs a c rs, k ∉ bl) : OwnRs w' lo hi a c rs :=
  ⟨ownsRow_block h.row (fun k hk => ht.block k (h.row.lt k hk).2 (hd k (List.mem_append.2 (.inl (Option.mem_toList.2 hk))))), Nat.le_trans h.top ht.size, h.blk, fun r hr => (h.each r hr).touch ht (fun k hk => hd k (List.mem_append.2 (.inr (List.mem_flatMap.2 ⟨r, hr, hk⟩)))), h.apart⟩
theorem OwnRs.within {w w' : World} {lo hi l r : Nat} {a : Option Addr} {c : Nat} {rs : List RecA} (h : OwnRs w lo hi a c rs) (hw : Within l r w w') (hd : hi ≤ l ∨ r ≤ lo) : OwnRs w' lo hi a c rs :=
  ⟨ownsRow_block h.row (fun k hk => hw.block k (by have := h.blk k hk; have := h.top; omega) (by have := h.blk k hk; have := (h.row.lt k hk).1; omega)), Nat.le_trans h.top hw.size, h.blk, fun x hx => (h.each x hx).within hw hd, h.apart⟩
theorem OwnRs.below {w w' : World} {lo hi : Nat} {a : Option Addr} {c : Nat} {rs : List RecA} (h : OwnRs w lo hi a c rs) (hb : Below w.heap.size w w') : OwnRs w' lo hi a c rs :=
  h.within (Within.of_below (lo := w.heap.size) (hi := w.heap.size) hb) (.inl h.top)
theorem OwnRs.widen {w : World} {lo hi lo' hi' : Nat} {a : Option Addr} {c : Nat} {rs : List RecA} (h : OwnRs w lo hi a c rs) (h1 : lo' ≤ lo) (h2 : hi ≤ hi') (h3 : hi' ≤ w.heap.size) : OwnRs w lo' hi' a c rs :=
  ⟨ownsRow_base h.row (fun k hk => by have := (h.row.lt k hk).1; omega), h3, fun k hk => by have := h.blk k hk; omega, fun x hx => (h.each x hx).widen h1 h2 h3, h.apart⟩
theorem ownRs_nil (w : World) (lo hi : Nat) (h : hi ≤ w.heap.size) : OwnRs w lo hi none 0 [] := ⟨⟨by simp [cellsRs], .inl ⟨rfl, rfl⟩⟩, h, (fun k hk => by cases hk), (fun r hr => by simp at hr), by simp [Value.ownBlock]⟩
theorem OwnRs.nocap {w : World} {lo hi : Nat} {a : Option Addr} {c : Nat} {rs : List RecA} (h : OwnRs w lo hi a c rs) : a = none → c = 0 := by
  intro ha
  rcases h.row.2 with ⟨hv, _⟩ | ⟨g, cap, cur, hv, _⟩
  · simp only [Value.slice.injEq] at hv; exact hv.2.2
  · simp [ha] at hv
/-- One of a row that lies in block g. -/
theorem row_rec {w : World} {base g n cap : Nat} {rs : List RecA} (h : w.ownsRow base 42 15 (.slice (some ⟨g, 0, none⟩) n cap) n (cellsRs rs)) (hn : rs.length = n) (k : Nat) (hk : k < n) :
    w.rangeAt g (k * 15) (rs.getD k zeroR).cells ∧ w.there g (k * 15) 15 := by
  refine ⟨fun j v hv => ?_, fun j hj => ?_⟩
  · have hj : j < 15 := by have := (List.getElem?_eq_some_iff.1 hv).1; rwa [cellsR_len] at this
    rw [h.cellAt (k * 15 + j) (by omega), cellsRs_at rs k j (by omega) hj, hv]
  · refine ⟨?_, h.frozenAt _⟩
    rw [h.cellAt (k * 15 + j) (by omega), cellsRs_at rs k j (by omega) hj, List.getElem?_eq_getElem (by rw [cellsR_len]; omega)]
    rfl
theorem OwnRs.reads {w : World} {lo hi : Nat} {a : Option Addr} {c : Nat} {rs : List RecA} (h : OwnRs w lo hi a c rs) : ReadsRs w a rs := by
  intro hne
  rcases h.row.2 with ⟨_, h0⟩ | ⟨g, cap', cur, hv, hb, hg, hr⟩
  · exact absurd (List.length_eq_zero_iff.1 h0) hne
  · simp only [Value.slice.injEq] at hv
    obtain ⟨rfl, _, rfl⟩ := hv
    refine ⟨g, 0, rfl, fun k hk => ?_⟩
    rw [Nat.zero_add]
    exact ⟨(row_rec h.row rfl k hk).1, (h.each _ (recD_mem rs k hk)).reads⟩
/-- A stretch of a row's cells stored. -/
theorem row_setCells {base g n cap sz : Nat} {e : TypeId} (cs : List Value) : ∀ (pre old post : List Value) (w : World), w.ownsRow base e sz (.slice (some ⟨g, 0, none⟩) n cap) n (pre ++ (old ++ post)) → old.length = cs.length →
    (w.setCells g pre.length cs).ownsRow base e sz (.slice (some ⟨g, 0, none⟩) n cap) n (pre ++ (cs ++ post)) ∧ w.grownBy (w.setCells g pre.length cs) (some g) := by
  induction cs with
  | nil => intro pre old post w h hl; obtain rfl := List.length_eq_zero_iff.1 hl; exact ⟨h, World.grownBy.refl _ _⟩
  | cons c cr ih =>
    intro pre old post w h hl
    obtain ⟨x, r, rfl⟩ : ∃ x r, old = x :: r := by
      cases old with
      | nil => simp at hl
      | cons x r => exact ⟨x, r, rfl⟩
    have hs := h.stored pre.length c
    rw [List.set_append_right _ _ (Nat.le_refl _), Nat.sub_self] at hs
    simp only [List.cons_append, List.set_cons_zero] at hs
    have := ih (pre ++ [c]) r post (w.setCell ⟨g, pre.length, none⟩ c) (by simpa using hs.1) (by simpa using hl)
    simp only [List.length_append, List.length_singleton] at this
    rw [World.setCells]
    exact ⟨by simpa using this.1, grownBy_trans hs.2 this.2⟩
theorem setCells_heap (B : Nat) : ∀ (vs : List Value) (o : Nat) (w : World), (w.setCells B o vs).heap.size = w.heap.size := by
  intro vs
  induction vs with
  | nil => intro o w; rfl
  | cons v r ih => intro o w; rw [World.setCells, ih]; simp

/-- A record of the row stored: q, which is owned elsewhere. -/
theorem OwnRs.fill {w : World} {lo hi g c : Nat} {A B : List RecA} {z : RecA} (h : OwnRs w lo hi (some ⟨g, 0, none⟩) c (A ++ z :: B)) (q : RecA) {l u : Nat} (hq : q.own w l u) (hl : hi ≤ l) (hlo : lo ≤ hi) (hu : u ≤ w.heap.size) :
    ∃ W, Hid (w.setCells g (A.length * 15) q.cells = W) ∧ OwnRs W lo (max hi u) (some ⟨g, 0, none⟩) c (A ++ q :: B) ∧ Touch [g] w W ∧ W.heap.size = w.heap.size := by
  have hrow := h.row
  rw [cellsRs_app, cellsRs_cons, List.length_append, List.length_cons] at hrow
  have hg : lo ≤ g ∧ g < hi := ⟨(hrow.lt g rfl).1, h.blk g rfl⟩
  obtain ⟨h1, h2⟩ := row_setCells q.cells (cellsRs A) z.cells (cellsRs B) w hrow rfl
  rw [cellsRs_len] at h1 h2
  have ht : Touch [g] w (w.setCells g (A.length * 15) q.cells) := Touch.of_grown h2 (fun k hk => by cases hk; simp)
  have hap := h.apart
  simp only [List.flatMap_append, List.flatMap_cons, Value.ownBlock, Option.toList, List.singleton_append, List.nodup_cons, List.nodup_append, List.mem_append, not_or] at hap
  obtain ⟨⟨n1, n2, n3⟩, a1, ⟨a2, a3, a4⟩, a5⟩ := hap
  have hqb := hq.blocks_lt
  have hA : ∀ x ∈ A.flatMap RecA.blocks, lo ≤ x ∧ x < hi := fun x hx => by
    obtain ⟨r, hr, hx⟩ := List.mem_flatMap.1 hx
    exact (h.each r (by simp [hr])).blocks_lt x hx
  have hB : ∀ x ∈ B.flatMap RecA.blocks, lo ≤ x ∧ x < hi := fun x hx => by
    obtain ⟨r, hr, hx⟩ := List.mem_flatMap.1 hx
    exact (h.each r (by simp [hr])).blocks_lt x hx
  have hsz := setCells_heap g q.cells (A.length * 15) w
  refine ⟨_, rfl, ⟨?_, ?_, fun k hk => ?_, fun r hr => ?_, ?_⟩, ht, hsz⟩
  · rw [cellsRs_app, cellsRs_cons, List.length_append, List.length_cons]
    exact h1
  · rw [hsz]
    have := h.top
    omega
  · cases hk
    show g < max hi u
    omega
  · rcases List.mem_append.1 hr with hr | hr
    · exact ((h.each r (by simp [hr])).touch ht (fun k hk hk' => n1 (by rw [← List.mem_singleton.1 hk']; exact List.mem_flatMap.2 ⟨r, hr, hk⟩))).widen (Nat.le_refl _) (by omega) (by rw [hsz]; have := h.top; omega)
    · rcases List.mem_cons.1 hr with rfl | hr
      · exact (hq.touch ht (fun k hk hk' => by have := hqb k hk; have := List.mem_singleton.1 hk'; omega)).widen (by omega) (by omega) (by rw [hsz]; have := h.top; omega)
      · exact ((h.each r (by simp [hr])).touch ht (fun k hk hk' => n3 (by rw [← List.mem_singleton.1 hk']; exact List.mem_flatMap.2 ⟨r, hr, hk⟩))).widen (Nat.le_refl _) (by omega) (by rw [hsz]; have := h.top; omega)
  · simp only [List.flatMap_append, List.flatMap_cons, Value.ownBlock, Option.toList, List.singleton_append, List.nodup_cons, List.nodup_append, List.mem_append, not_or]
    refine ⟨⟨n1, fun hk => by have := hqb g hk; omega, n3⟩, a1, ⟨hq.apart, a3, fun x hx y hy e => by have := hqb x hx; have := hB y hy; omega⟩, fun x hx y hy e => ?_⟩
    rcases hy with hy | hy
    · have := hqb y hy; have := hA x hx; omega
    · exact a5 x hx y (.inr hy) e
end Go.Proofs.YtbpdocjkhmiimaaDoor

/- errors.As at a noObject: the walks of errors.As and of impl.isNoObject. -/
namespace Go.Proofs.YtbpdocjkhmiimaaDoor
open Go.RowKit Go.Extern.Stop Go.Stop Go.Extern

/-- The variable errors.errorType holds the handle of the type error. -/
def ErrT (w : World) : Prop := w.cell? ⟨0, 0, none⟩ = some (.iface 122 (.agg #[.pointer (some ⟨1, 101, none⟩)]))

theorem ErrT.lt {w : World} (h : ErrT w) : 0 < w.heap.size := by
  unfold ErrT at h
  rcases Nat.lt_or_ge 0 w.heap.size with h0 | h0
  · exact h0
  · simp [World.cell?, Array.getElem?_eq_none h0] at h
theorem ErrT.below {w w' : World} {n : Nat} (h : ErrT w) (hb : Below n w w') (hn : 0 < n) : ErrT w' := by
  unfold ErrT at h ⊢
  rw [hb.cell (p := ⟨0, 0, none⟩) hn]
  exact h
theorem ErrT.keep {w w' : World} (h : ErrT w) (hb : Below w.heap.size w w') : ErrT w' := h.below hb h.lt

theorem Tryd.asValueOfP (t : Addr) (w : World) : (ReflectliteValue.unpack (.iface 106 (.pointer (some t)))).run Tryd.prog w
    = .ok (.agg #[.pointer (some ⟨1, 106, none⟩), .pointer (some ⟨w.heap.size, 0, none⟩), .int .u64 150]) (w.alloc (.cells #[.pointer (some t)] 106)) := by kernel_rfl
theorem Tryd.asTypeP (a : Addr) (w : World) : (ReflectliteValue.methodAny (ReflectliteValue.valueError "reflectlite.Value.Type" 0) (fun t _ _ _ => ReflectliteType.toType t) #[.agg #[.pointer (some ⟨1, 106, none⟩), .pointer (some a), .int .u64 150]]).run Tryd.prog w
    = .ok (.iface 122 (.agg #[.pointer (some ⟨1, 106, none⟩)])) w := by kernel_rfl
theorem Tryd.asMethodKind (h : Value) (w : World) : (Go.method 264 122 (.agg #[h]) "Kind").run Tryd.prog w = .ok (87, h) w := by kernel_rfl
theorem Tryd.asKindP (w : World) : ((ReflectliteType.abiMethod fun t => (fun a : Nat => Value.int IntKind.u8 (a : Int)) <$> Rtype.kind t) #[.pointer (some ⟨1, 106, none⟩)]).run Tryd.prog w = .ok (.int .u8 22) w := by kernel_rfl
theorem Tryd.asKindS (w : World) : ((ReflectliteType.abiMethod fun t => (fun a : Nat => Value.int IntKind.u8 (a : Int)) <$> Rtype.kind t) #[.pointer (some ⟨1, 104, none⟩)]).run Tryd.prog w = .ok (.int .u8 25) w := by kernel_rfl

theorem rlm (z : Sem Value) (f : TypeId → Addr → Nat → Nat → Sem Value) (v : Value) :
    ReflectliteValue.method z f #[v] = (do match ← ReflectliteValue.parts v with | none => z | some (t, a, fl) => f t a fl (fl % 32)) := rfl
theorem Tryd.asPartsP (a : Addr) (w : World) : (ReflectliteValue.parts (.agg #[.pointer (some ⟨1, 106, none⟩), .pointer (some a), .int .u64 150])).run Tryd.prog w = .ok (some (106, a, 150)) w := by kernel_rfl
theorem Tryd.asIsNilP (a p : Addr) (W : World) (ha : W.cell? a = some (.pointer (some p))) :
    (ReflectliteValue.method (ReflectliteValue.valueError "reflectlite.Value.IsNil" 0) ReflectliteValue.isNil #[.agg #[.pointer (some ⟨1, 106, none⟩), .pointer (some a), .int .u64 150]]).run Tryd.prog W = .ok (.bool false) W := by
  rw [rlm]
  simp only [Sem.run_bind, Tryd.asPartsP, Result.andThen]
  simp [ReflectliteValue.isNil, loadVar, isAgg, underlying, Tryd.underlying106, ha, Result.andThen]

theorem Tryd.asMethodElem (h : Value) (w : World) : (Go.method 264 122 (.agg #[h]) "Elem").run Tryd.prog w = .ok (97, .agg #[h]) w := by kernel_rfl
theorem Tryd.asMethodImplements (h : Value) (w : World) : (Go.method 264 122 (.agg #[h]) "Implements").run Tryd.prog w = .ok (98, .agg #[h]) w := by kernel_rfl
theorem Tryd.asMethodAssignableTo (h : Value) (w : World) : (Go.method 264 122 (.agg #[h]) "AssignableTo").run Tryd.prog w = .ok (95, .agg #[h]) w := by kernel_rfl
theorem Tryd.asElemP (w : World) : (ReflectliteType.method ReflectliteType.elem #[.agg #[.pointer (some ⟨1, 106, none⟩)]]).run Tryd.prog w = .ok (.iface 122 (.agg #[.pointer (some ⟨1, 104, none⟩)])) w := by kernel_rfl
theorem Tryd.asImplementsS (w : World) : (ReflectliteType.relation "Implements" ReflectliteType.implements_ #[.agg #[.pointer (some ⟨1, 104, none⟩)], .iface 122 (.agg #[.pointer (some ⟨1, 101, none⟩)])]).run Tryd.prog w = .ok (.bool true) w := by kernel_rfl
theorem Tryd.asTypeOfS (v : Value) (w : World) : (ReflectliteType.typeOf #[.iface 104 v]).run Tryd.prog w = .ok (.iface 122 (.agg #[.pointer (some ⟨1, 104, none⟩)])) w := by kernel_rfl
theorem Tryd.asAssignableS (w : World) : (ReflectliteType.relation "AssignableTo" ReflectliteType.assignableTo #[.agg #[.pointer (some ⟨1, 104, none⟩)], .iface 122 (.agg #[.pointer (some ⟨1, 104, none⟩)])]).run Tryd.prog w = .ok (.bool true) w := by kernel_rfl
theorem Tryd.asValueOfS (s : ByteArray) (w : World) : (ReflectliteValue.unpack (.iface 104 (.agg #[.string s]))).run Tryd.prog w
    = .ok (.agg #[.pointer (some ⟨1, 104, none⟩), .pointer (some ⟨w.heap.size, 0, none⟩), .int .u64 153]) (w.alloc (.cells #[.string s] 104)) := by kernel_rfl

theorem Tryd.asElemOfP (w : World) : (Rtype.elem? 106).run Tryd.prog w = .ok (some 104) w := by kernel_rfl
theorem Tryd.asMkS (p : Addr) (w : World) : (ReflectliteValue.mk 104 p ReflectliteValue.flagAddr).run Tryd.prog w = .ok (.agg #[.pointer (some ⟨1, 104, none⟩), .pointer (some p), .int .u64 409]) w := by kernel_rfl
theorem Tryd.asElemV (a p : Addr) (W : World) (ha : W.cell? a = some (.pointer (some p))) :
    (ReflectliteValue.method (ReflectliteValue.valueError "reflectlite.Value.Elem" 0) ReflectliteValue.elem #[.agg #[.pointer (some ⟨1, 106, none⟩), .pointer (some a), .int .u64 150]]).run Tryd.prog W
      = .ok (.agg #[.pointer (some ⟨1, 104, none⟩), .pointer (some p), .int .u64 409]) W := by
  rw [rlm]
  simp only [Sem.run_bind, Tryd.asPartsP, Result.andThen]
  simp [ReflectliteValue.elem, loadVar, isAgg, underlying, Tryd.underlying106, ha, Result.andThen, Tryd.asElemOfP, Tryd.asMkS]
theorem rls (v x : Value) : ReflectliteValue.set #[v, x] = (do
    let (some (dst, a, fl), some (src, b, _)) := (← ReflectliteValue.parts v, ← ReflectliteValue.parts x)
      | unsupported (.noEntry "extern/(internal/reflectlite.Value).Set.zeroValue")
    if fl / ReflectliteValue.flagAddr % 2 == 0 then unsupported (.noEntry "extern/(internal/reflectlite.Value).Set.unaddressable")
    let val ← loadVar src b
    if ← Rtype.directlyAssignable dst src then storeVar dst a val
    else if ← Rtype.implements dst src then
      if (← Rtype.kind src) == 20 then
        match val with
        | .nilIface => unsupported (.noEntry "extern/reflectlite: a nil value of one interface type handed on as a value of another")
        | _ => storeVar dst a val
      else storeVar dst a (.iface src val)
    else panicString ("reflectlite.Set: value of type " ++ (← Rtype.spelt src) ++ " is not assignable to type " ++ (← Rtype.spelt dst))
    pure (.tuple #[])) := rfl
theorem Tryd.asPartsSa (a : Addr) (w : World) : (ReflectliteValue.parts (.agg #[.pointer (some ⟨1, 104, none⟩), .pointer (some a), .int .u64 409])).run Tryd.prog w = .ok (some (104, a, 409)) w := by kernel_rfl
theorem Tryd.asPartsS (a : Addr) (w : World) : (ReflectliteValue.parts (.agg #[.pointer (some ⟨1, 104, none⟩), .pointer (some a), .int .u64 153])).run Tryd.prog w = .ok (some (104, a, 153)) w := by kernel_rfl
theorem Tryd.asDirectS (w : World) : (Rtype.directlyAssignable 104 104).run Tryd.prog w = .ok true w := by kernel_rfl
theorem Tryd.asSizeS (w : World) : (sizeOf 104).run Tryd.prog w = .ok 1 w := by kernel_rfl
theorem Tryd.asSetS (ta b : Addr) (s : ByteArray) (old : Value) (W : World) (hb : W.cell? b = some (.string s)) (ht : W.cell? ta = some old) (hf : W.frozen? ta = false) :
    (ReflectliteValue.set #[.agg #[.pointer (some ⟨1, 104, none⟩), .pointer (some ta), .int .u64 409], .agg #[.pointer (some ⟨1, 104, none⟩), .pointer (some b), .int .u64 153]]).run Tryd.prog W
      = .ok (.tuple #[]) (W.setCell ta (.string s)) := by
  rw [rls]
  simp only [Sem.run_bind, Tryd.asPartsSa, Tryd.asPartsS, Result.andThen]
  simp [ReflectliteValue.flagAddr, loadVar, loadCells, loadCellsFrom, hb, Result.andThen, Tryd.asDirectS, storeVar, Value.cells, storeCells, Addr.add]
  rw [run_store Tryd.prog W ta _ _ (by rfl)]
  simp [ht, hf]

/-- errors.As(nil, target). -/
theorem as_nil (t : Value) (w : World) : Calls Tryd.prog 64 #[.nilIface, t] w fun e w' => e = .returned (.bool false) ∧ w' = w := by
  go_enter Tryd.func64, Tryd.ntmps64
  go_wp2
  go_ret
  exact ⟨rfl, rfl⟩

set_option maxHeartbeats 4000000 in
theorem as_hit (s : ByteArray) (t : Addr) (old : Value) (w : World) (hg : w.cell? ⟨0, 0, none⟩ = some (.iface 122 (.agg #[.pointer (some ⟨1, 101, none⟩)]))) (ht0 : w.cell? t = some old) (hf0 : w.frozen? t = false) :
    Calls Tryd.prog 64 #[.iface 104 (.agg #[.string s]), .iface 106 (.pointer (some t))] w fun ev w' => ev = .returned (.bool true) ∧ w' = ((((w.alloc (.cells #[.pointer (some t)] 106)).alloc (.cells #[.pointer (some ⟨1, 106, none⟩), .pointer (some ⟨w.heap.size, 0, none⟩), .int .u64 150] 111)).alloc (.cells #[.pointer (some ⟨1, 106, none⟩), .pointer (some ⟨w.heap.size, 0, none⟩), .int .u64 150] 111)).alloc (.cells #[.string s] 104)).setCell t (.string s) := by
  have h6 := @run_callFunc_extern Tryd.prog 66 _ (fun args => ReflectliteValue.unpack (args.getD 0 (.tuple #[]))) Tryd.func66 (by kernel_rfl) (by kernel_rfl) (by kernel_rfl) (by kernel_rfl)
  have h7 := @run_callFunc_extern Tryd.prog 67 _ (ReflectliteValue.methodAny (ReflectliteValue.valueError "reflectlite.Value.Type" 0) (fun t _ _ _ => ReflectliteType.toType t)) Tryd.func67 (by kernel_rfl) (by kernel_rfl) (by kernel_rfl) (by kernel_rfl)
  have h8 := @run_callFunc_extern Tryd.prog 68 _ (ReflectliteValue.method (ReflectliteValue.valueError "reflectlite.Value.IsNil" 0) ReflectliteValue.isNil) Tryd.func68 (by kernel_rfl) (by kernel_rfl) (by kernel_rfl) (by kernel_rfl)
  have h27 := @run_callFunc_extern Tryd.prog 87 _ (ReflectliteType.abiMethod fun t => do pure (.int .u8 (← Rtype.kind t))) Tryd.func87 (by kernel_rfl) (by kernel_rfl) (by kernel_rfl) (by kernel_rfl)
  have h37 := @run_callFunc_extern Tryd.prog 97 _ (ReflectliteType.method ReflectliteType.elem) Tryd.func97 (by kernel_rfl) (by kernel_rfl) (by kernel_rfl) (by kernel_rfl)
  have h38 := @run_callFunc_extern Tryd.prog 98 _ (ReflectliteType.relation "Implements" ReflectliteType.implements_) Tryd.func98 (by kernel_rfl) (by kernel_rfl) (by kernel_rfl) (by kernel_rfl)
  have h10 := @run_callFunc_extern Tryd.prog 70 _ ReflectliteType.typeOf Tryd.func70 (by kernel_rfl) (by kernel_rfl) (by kernel_rfl) (by kernel_rfl)
  have h35 := @run_callFunc_extern Tryd.prog 95 _ (ReflectliteType.relation "AssignableTo" ReflectliteType.assignableTo) Tryd.func95 (by kernel_rfl) (by kernel_rfl) (by kernel_rfl) (by kernel_rfl)
  have h11 := @run_callFunc_extern Tryd.prog 71 _ (ReflectliteValue.method (ReflectliteValue.valueError "reflectlite.Value.Elem" 0) ReflectliteValue.elem) Tryd.func71 (by kernel_rfl) (by kernel_rfl) (by kernel_rfl) (by kernel_rfl)
  have h12 := @run_callFunc_extern Tryd.prog 72 _ ReflectliteValue.set Tryd.func72 (by kernel_rfl) (by kernel_rfl) (by kernel_rfl) (by kernel_rfl)
  have tO := Tryd.asTypeOfS
  have mA := Tryd.asMethodAssignableTo
  have a25 := Tryd.asAssignableS
  have v25 := Tryd.asValueOfS
  have f6 := Tryd.asValueOfP
  have f7 := Tryd.asTypeP
  have mK := Tryd.asMethodKind
  have mE := Tryd.asMethodElem
  have mI := Tryd.asMethodImplements
  have k27 := Tryd.asKindP
  have k25 := Tryd.asKindS
  have e27 := Tryd.asElemP
  have i25 := Tryd.asImplementsS
  have n8 := Tryd.asIsNilP ⟨w.heap.size, 0, none⟩ t ((w.alloc (.cells #[.pointer (some t)] 106)).alloc (.cells #[.pointer (some ⟨1, 106, none⟩), .pointer (some ⟨w.heap.size, 0, none⟩), .int .u64 150] 111)) (by simp)
  have hlt : 0 < w.heap.size := by
    rcases Nat.lt_or_ge 0 w.heap.size with h0 | h0
    · exact h0
    · simp [World.cell?, Array.getElem?_eq_none h0] at hg
  have hg2 : ((w.alloc (.cells #[.pointer (some t)] 106)).alloc (.cells #[.pointer (some ⟨1, 106, none⟩), .pointer (some ⟨w.heap.size, 0, none⟩), .int .u64 150] 111)).cell? ⟨0, 0, none⟩ = some (.iface 122 (.agg #[.pointer (some ⟨1, 101, none⟩)])) := by
    rw [World.cell?_alloc_lt _ _ ⟨0, 0, none⟩ (Nat.lt_of_lt_of_le hlt (by simp)), World.cell?_alloc_lt _ _ ⟨0, 0, none⟩ hlt]; exact hg
  have htl : t.block < w.heap.size := by
    rcases Nat.lt_or_ge t.block w.heap.size with h | h
    · exact h
    · simp [World.cell?, Array.getElem?_eq_none h] at ht0
  have el := Tryd.asElemV ⟨w.heap.size, 0, none⟩ t (((w.alloc (.cells #[.pointer (some t)] 106)).alloc (.cells #[.pointer (some ⟨1, 106, none⟩), .pointer (some ⟨w.heap.size, 0, none⟩), .int .u64 150] 111)).alloc (.cells #[.pointer (some ⟨1, 106, none⟩), .pointer (some ⟨w.heap.size, 0, none⟩), .int .u64 150] 111)) (by rw [World.cell?_alloc_lt _ _ ⟨w.heap.size, 0, none⟩ (by simp; omega)]; simp)
  have st := Tryd.asSetS t ⟨w.heap.size + 1 + 1 + 1, 0, none⟩ s old ((((w.alloc (.cells #[.pointer (some t)] 106)).alloc (.cells #[.pointer (some ⟨1, 106, none⟩), .pointer (some ⟨w.heap.size, 0, none⟩), .int .u64 150] 111)).alloc (.cells #[.pointer (some ⟨1, 106, none⟩), .pointer (some ⟨w.heap.size, 0, none⟩), .int .u64 150] 111)).alloc (.cells #[.string s] 104))
    (by rw [World.cell?_alloc_at _ _ _ _ (by simp)]; rfl)
    (by rw [World.cell?_alloc_lt _ _ t (by simp; omega), World.cell?_alloc_lt _ _ t (by simp; omega), World.cell?_alloc_lt _ _ t (by simp; omega), World.cell?_alloc_lt _ _ t htl]; exact ht0)
    (by rw [World.frozen?_alloc_old _ _ t (by simp; omega), World.frozen?_alloc_old _ _ t (by simp; omega), World.frozen?_alloc_old _ _ t (by simp; omega), World.frozen?_alloc_old _ _ t (Nat.ne_of_lt htl)]; exact hf0)
  go_enter Tryd.func64, Tryd.ntmps64
  go_wp2
  refine wp_loop_rounds 1 ?_
  rw [rounds_succ]
  go_wp2
  go_ret
  exact ⟨rfl, rfl⟩

theorem isNo_nil (w : World) : Calls Tryd.prog 60 #[.nilIface] w fun e w' => e = .returned (.bool false) ∧ Below w.heap.size w w' := by
  go_enter Tryd.func60, Tryd.ntmps60
  go_wp2_with fail
  refine (as_nil _ _).mono ?_
  rintro e w' ⟨rfl, rfl⟩
  go_wp2
  go_ret
  exact ⟨rfl, (Below.refl _ _).alloc (Nat.le_refl _) _⟩

set_option maxHeartbeats 1000000 in
theorem isNo_hit (s : ByteArray) (w : World) (hg : ErrT w) : Calls Tryd.prog 60 #[.iface 104 (.agg #[.string s])] w fun e w' => e = .returned (.bool true) ∧ Below w.heap.size w w' := by
  have hgA : ErrT (w.alloc (.cells #[.string ⟨#[]⟩] 104)) := hg.keep ((Below.refl _ _).alloc (Nat.le_refl _) _)
  go_enter Tryd.func60, Tryd.ntmps60
  go_wp2_with fail
  refine (as_hit s ⟨w.heap.size, 0, none⟩ (.string ⟨#[]⟩) _ hgA (by simp) (by simp)).mono ?_
  rintro e w' ⟨rfl, rfl⟩
  go_wp2
  go_ret
  refine ⟨rfl, ?_⟩
  exact (((((Below.refl _ _).alloc (Nat.le_refl _) _).alloc (by simp) _).alloc (by simp; omega) _).alloc (by simp; omega) _).alloc (by simp; omega) _
end Go.Proofs.YtbpdocjkhmiimaaDoor
