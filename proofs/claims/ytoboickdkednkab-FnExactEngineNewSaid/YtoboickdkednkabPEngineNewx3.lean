/- Several texts in one, in their order. -/
import Derived.Test.YtoboickdkednkabPEngineNewx2
import Derived.Test.YtoboickdkednkabPEngineNewx1
import Derived.Deep.RegionHeld3
import Derived.Deep.MidRow
/- No longer than its capacity; a beginning of what is owned. -/
namespace Go.Proofs.Ytoboickdkednkab
open Go.RowKit

end Go.Proofs.Ytoboickdkednkab

/- Rows of bytes by spans: what is owned from lo up to hi; marks. -/
namespace Go.Proofs.Ytoboickdkednkab
open Go.RowKit

/-- The slice at a owns the bytes ys; its row lies from lo up to hi. -/
def OwnR (w : World) (lo hi : Nat) (a : Option Addr) (c : Nat) (ys : List Int) : Prop := OwnB w lo a c ys ∧ hi ≤ w.heap.size ∧ ∀ k, (Value.slice a ys.length c).ownBlock = some k → k < hi

theorem OwnR.lt {w : World} {lo hi : Nat} {a : Option Addr} {c : Nat} {ys : List Int} (h : OwnR w lo hi a c ys) : ∀ k, (Value.slice a ys.length c).ownBlock = some k → lo ≤ k ∧ k < hi := fun k hk => ⟨(h.1.2.lt k hk).1, h.2.2 k hk⟩
theorem OwnR.reads {w : World} {lo hi : Nat} {a : Option Addr} {c : Nat} {ys : List Int} (h : OwnR w lo hi a c ys) : Reads w a ys := h.1.reads
theorem OwnR.within {w w' : World} {lo hi l r : Nat} {a : Option Addr} {c : Nat} {ys : List Int} (h : OwnR w lo hi a c ys) (hw : Within l r w w') (hd : hi ≤ l ∨ r ≤ lo) : OwnR w' lo hi a c ys :=
  ⟨⟨h.1.1, ownsRow_block h.1.2 (fun k hk => hw.block k (by have := h.2.2 k hk; have := h.2.1; omega) (by have := h.lt k hk; omega))⟩, Nat.le_trans h.2.1 hw.size, h.2.2⟩
theorem OwnR.below {w w' : World} {lo hi : Nat} {a : Option Addr} {c : Nat} {ys : List Int} (h : OwnR w lo hi a c ys) (hb : Below w.heap.size w w') : OwnR w' lo hi a c ys :=
  h.within (Within.of_below (lo := w.heap.size) (hi := w.heap.size) hb) (.inl h.2.1)

end Go.Proofs.Ytoboickdkednkab

/- What is written lies in some blocks, named one by one; all else is as it was. -/
namespace Go.Proofs.Ytoboickdkednkab
open Go.RowKit

structure Touch (bl : List Nat) (w w' : World) : Prop where
  os : w'.os = w.os
  tape : w'.tape = w.tape
  output : w'.output = w.output
  size : w.heap.size ≤ w'.heap.size
  block : ∀ k, k < w.heap.size → k ∉ bl → w'.heap[k]? = w.heap[k]?

theorem Touch.refl (bl : List Nat) (w : World) : Touch bl w w := ⟨rfl, rfl, rfl, Nat.le_refl _, fun _ _ _ => rfl⟩
theorem Touch.trans {bl : List Nat} {a b c : World} (h : Touch bl a b) (k : Touch bl b c) : Touch bl a c :=
  ⟨k.os.trans h.os, k.tape.trans h.tape, k.output.trans h.output, Nat.le_trans h.size k.size, fun i hi hn => (k.block i (Nat.lt_of_lt_of_le hi h.size) hn).trans (h.block i hi hn)⟩
theorem Touch.mono {bl bl' : List Nat} {w w' : World} (h : Touch bl w w') (hs : ∀ k ∈ bl, k ∈ bl') : Touch bl' w w' :=
  ⟨h.os, h.tape, h.output, h.size, fun k hk hn => h.block k hk (fun hh => hn (hs k hh))⟩
theorem Touch.of_below {bl : List Nat} {w w' : World} (h : Below w.heap.size w w') : Touch bl w w' := ⟨h.os, h.tape, h.output, h.size, fun k hk _ => h.block k hk⟩
theorem Touch.of_grown {bl : List Nat} {w w' : World} {row : Option Nat} (h : w.grownBy w' row) (hr : ∀ k, row = some k → k ∈ bl) : Touch bl w w' :=
  ⟨h.os, h.tape, h.output, h.size, fun k hk hn => h.block k hk (fun e => hn (hr k e.symm))⟩
theorem Touch.within {bl : List Nat} {lo hi : Nat} {w w' : World} (h : Touch bl w w') (hb : ∀ k ∈ bl, lo ≤ k ∧ k < hi) : Within lo hi w w' :=
  ⟨h.os, h.tape, h.output, h.size, fun k hk hn => h.block k hk (fun hh => hn (hb k hh))⟩
theorem Box.touch {w w' : World} {B : Nat} {vs : List Value} {t : TypeId} {bl : List Nat} (h : Box w B vs t) (ht : Touch bl w w') (hn : B ∉ bl) : Box w' B vs t := h.block (ht.block B h.lt hn)
theorem OwnI.touch {w w' : World} {lo hi : Nat} {a : Option Addr} {c : Nat} {ns : List Int} {bl : List Nat} (h : OwnI w lo hi a c ns) (ht : Touch bl w w') (hd : ∀ k, (Value.slice a ns.length c).ownBlock = some k → k ∉ bl) : OwnI w' lo hi a c ns :=
  ⟨ownsRow_block h.1 (fun k hk => ht.block k (h.1.lt k hk).2 (hd k hk)), Nat.le_trans h.2.1 ht.size, h.2.2⟩
theorem SlotA.touch {w w' : World} {lo hi : Nat} {s : SlotA} {bl : List Nat} (h : s.own w lo hi) (ht : Touch bl w w') (hd : ∀ k ∈ s.blocks, k ∉ bl) : s.own w' lo hi :=
  ⟨h.ints.touch ht (fun k hk => hd k (List.mem_append.2 (.inl (Option.mem_toList.2 hk)))), h.refs.touch ht (fun k hk => hd k (List.mem_append.2 (.inr (Option.mem_toList.2 hk)))), h.apart⟩

/-- One of them is another, in the same blocks: the others are as they were. -/
theorem OwnS.replace {w w' : World} {lo hi : Nat} {A B : List SlotA} {s t : SlotA} (h : OwnS w lo hi (A ++ s :: B)) (ht : Touch s.blocks w w') (ho : t.own w' lo hi) (hb : t.blocks = s.blocks) : OwnS w' lo hi (A ++ t :: B) := by
  have hap := h.apart
  rw [List.flatMap_append, List.flatMap_cons, List.nodup_append] at hap
  obtain ⟨_, h2, h3⟩ := hap
  rw [List.nodup_append] at h2
  obtain ⟨_, _, h5⟩ := h2
  refine ⟨fun x hx => ?_, ?_⟩
  · rcases List.mem_append.1 hx with hA | hB
    · refine SlotA.touch (h.each x (by simp [hA])) ht (fun k hk hk' => ?_)
      exact h3 k (List.mem_flatMap.2 ⟨x, hA, hk⟩) k (List.mem_append.2 (.inl hk')) rfl
    · rcases List.mem_cons.1 hB with rfl | hB
      · exact ho
      · refine SlotA.touch (h.each x (by simp [hB])) ht (fun k hk hk' => ?_)
        exact h5 k hk' k (List.mem_flatMap.2 ⟨x, hB, hk⟩) rfl
  · have := h.apart
    rw [List.flatMap_append, List.flatMap_cons] at this ⊢
    rw [hb]; exact this

def SlotA.mark (s : SlotA) (k : Int) : SlotA := { s with v := ⟨s.v.has, markO s.v.o k⟩ }
def SlotA.count (s : SlotA) : Nat := s.v.o.ints.length + s.v.o.refs.length
def markSs : List SlotA → Int → List SlotA
  | [], _ => []
  | s :: r, k => s.mark k :: markSs r (k + s.count)
def countS : List SlotA → Nat
  | [] => 0
  | s :: r => s.count + countS r
theorem mark_blocks (s : SlotA) (k : Int) : (s.mark k).blocks = s.blocks := by simp [SlotA.mark, SlotA.blocks, markO, marksI_len]
theorem countS_snoc (ss : List SlotA) (s : SlotA) : countS (ss ++ [s]) = countS ss + s.count := by
  induction ss with
  | nil => simp [countS]
  | cons x r ih => simp only [List.cons_append, countS, ih]; omega
theorem markSs_snoc (ss : List SlotA) (s : SlotA) : ∀ k, markSs (ss ++ [s]) k = markSs ss k ++ [s.mark (k + countS ss)] := by
  induction ss with
  | nil => intro k; simp [markSs, countS]
  | cons x r ih =>
    intro k
    simp only [List.cons_append, markSs, ih, countS]
    congr 3
    congr 1
    omega
theorem markSs_app (A B : List SlotA) : ∀ k, markSs (A ++ B) k = markSs A k ++ markSs B (k + countS A) := by
  induction A with
  | nil => intro k; simp [markSs, countS]
  | cons x r ih =>
    intro k
    simp only [List.cons_append, markSs, ih, countS]
    congr 3
    omega
theorem markSs_at (ss : List SlotA) (k : Int) (j : Nat) (h : j < ss.length) : (ss.getD j zeroS).mark (k + countS (ss.take j)) ∈ markSs ss k := by
  have e : markSs ss k = markSs (ss.take j) k ++ markSs (ss.drop j) (k + countS (ss.take j)) := by rw [← markSs_app, List.take_append_drop]
  have e2 : ss.getD j zeroS = ss[j] := by simp [List.getD, h]
  rw [e, List.drop_eq_getElem_cons h, markSs, e2]
  exact List.mem_append.2 (.inr (List.mem_cons.2 (.inl rfl)))
theorem take_split (ss : List SlotA) (j : Nat) (h : j < ss.length) : ss.drop j = ss.getD j zeroS :: ss.drop (j + 1) ∧ ss.take (j + 1) = ss.take j ++ [ss.getD j zeroS] := by
  refine ⟨by rw [List.drop_eq_getElem_cons h]; simp [List.getD, h], ?_⟩
  rw [List.take_add_one]
  simp [List.getD, h]
theorem countS_le (ss : List SlotA) (M : Nat) (h : ∀ s ∈ ss, s.v.o.ints.length ≤ M ∧ s.v.o.refs.length ≤ M) : countS ss ≤ ss.length * (2 * M) := by
  induction ss with
  | nil => simp [countS]
  | cons x r ih =>
    have h1 := h x (by simp)
    have h2 := ih (fun s hs => h s (by simp [hs]))
    simp only [countS, SlotA.count, List.length_cons, Nat.add_mul]
    omega

set_option maxHeartbeats 400000 in
set_option maxRecDepth 100000 in
theorem markObj_touch (o : ObjV) (lo hi : Nat) (aI : Option Addr) (cI : Nat) (aR : Option Addr) (cR : Nat) (k0 : Int) (w : World) (ho : OwnO w lo hi aI cI aR cR o) (h0 : 0 ≤ k0) (hlI : o.ints.length ≤ 1099511627776) (hlR : o.refs.length ≤ 1099511627776) (hk : k0 ≤ 109951162777600) :
    Calls Try.prog 46 #[.agg #[.int .i64 o.kind, .slice aI o.ints.length cI, .slice aR o.refs.length cR], .int .i64 k0] w fun e w' => e = .returned (.int .i64 (k0 + o.ints.length + o.refs.length)) ∧ OwnO w' lo hi aI cI aR cR (markO o k0) ∧
      Touch ((Value.slice aI o.ints.length cI).ownBlock.toList ++ (Value.slice aR o.refs.length cR).ownBlock.toList) w w' := by
  obtain ⟨k, ints, refs⟩ := o
  obtain ⟨hI, hR, hap⟩ := ho
  simp only at *
  obtain ⟨W, hW, b0, hbW, hsW⟩ := boxes1 w [.int .i64 k, .slice aI ints.length cI, .slice aR refs.length cR] 24
  have hI' := hI.below hbW
  have hR' := hR.below hbW
  go_enter Try.func46, Try.ntmps46
  go_wp2_with fail
  rw [hW.out]
  refine (markIntS_any lo aI cI k0 ints W hI'.1 h0 (by omega)).mono ?_
  rintro e w1 ⟨rfl, h1, h2⟩
  have hR1 := hR'.kept h2 (fun k hk e => hap k e hk)
  have b1 := b0.block (h2.block _ (by omega) (fun e => by have h3 := (hI.lt _ e.symm).2; have := hI.2.1; omega))
  have c2 := b1.cell 2 _ rfl
  have hI1 : OwnI w1 lo hi aI cI (marksI k0 ints.length) := ⟨by rw [marksI_len]; exact h1, Nat.le_trans hI'.2.1 h2.size, by rw [marksI_len]; exact hI.2.2⟩
  go_wp2_with fail
  refine (markIntS_any lo aR cR (k0 + ints.length) refs w1 hR1.1 (by omega) (by omega)).mono ?_
  rintro e w2 ⟨rfl, h3, h4⟩
  have hI2 := hI1.kept h4 (fun k hk e => by rw [marksI_len] at hk; exact hap k hk e)
  have hR2 : OwnI w2 lo hi aR cR (marksI (k0 + ints.length) refs.length) := ⟨by rw [marksI_len]; exact h3, Nat.le_trans hR1.2.1 h4.size, by rw [marksI_len]; exact hR.2.2⟩
  go_wp2
  go_ret
  refine ⟨rfl, ⟨hI2, hR2, ?_⟩, ((Touch.of_below hbW).trans (Touch.of_grown h2 (fun j hj => List.mem_append.2 (.inl (Option.mem_toList.2 hj))))).trans (Touch.of_grown h4 (fun j hj => List.mem_append.2 (.inr (Option.mem_toList.2 hj))))⟩
  simp only [markO, marksI_len]
  exact hap

set_option maxHeartbeats 400000 in
set_option maxRecDepth 100000 in
theorem heldObj_any (o : ObjV) (lo hi : Nat) (aI : Option Addr) (cI : Nat) (aR : Option Addr) (cR : Nat) (k0 : Int) (w : World) (ho : OwnO w lo hi aI cI aR cR (markO o k0)) (h0 : 0 ≤ k0) (hlI : o.ints.length ≤ 1099511627776) (hlR : o.refs.length ≤ 1099511627776) (hk : k0 ≤ 109951162777600) :
    Calls Try.prog 47 #[.agg #[.int .i64 o.kind, .slice aI o.ints.length cI, .slice aR o.refs.length cR], .int .i64 k0] w fun e w' => e = .returned (.int .i64 (k0 + o.ints.length + o.refs.length)) ∧ Below w.heap.size w w' := by
  obtain ⟨k, ints, refs⟩ := o
  obtain ⟨hI, hR, hap⟩ := ho
  simp only [markO] at *
  obtain ⟨W, hW, b0, hbW, hsW⟩ := boxes1 w [.int .i64 k, .slice aI ints.length cI, .slice aR refs.length cR] 24
  have hI' := hI.below hbW
  have hR' := hR.below hbW
  have c2 := b0.cell 2 _ rfl
  go_enter Try.func47, Try.ntmps47
  go_wp2_with fail
  rw [hW.out]
  refine (heldIntS_own lo hi aI cI k0 ints.length W hI' h0 (by omega)).mono ?_
  rintro e w1 ⟨rfl, rfl⟩
  go_wp2_with fail
  refine (heldIntS_own lo hi aR cR (k0 + ints.length) refs.length w1 hR' (by omega) (by omega)).mono ?_
  rintro e w2 ⟨rfl, rfl⟩
  go_wp2
  go_ret
  exact ⟨rfl, hbW⟩

set_option maxHeartbeats 400000 in
set_option maxRecDepth 100000 in
theorem markSlot_touch (s : SlotA) (lo hi : Nat) (k0 : Int) (w : World) (ho : s.own w lo hi) (h0 : 0 ≤ k0) (hlI : s.v.o.ints.length ≤ 1099511627776) (hlR : s.v.o.refs.length ≤ 1099511627776) (hk : k0 ≤ 109951162777600) :
    Calls Try.prog 43 #[.agg s.cells.toArray, .int .i64 k0] w fun e w' => e = .returned (.int .i64 (k0 + s.count)) ∧ (s.mark k0).own w' lo hi ∧ Touch s.blocks w w' := by
  obtain ⟨W, hW, b0, hbW, hsW⟩ := boxes1 w s.cells 26
  have C := markObj_touch s.v.o lo hi s.aI s.cI s.aR s.cR k0 W (OwnO.below ho hbW) h0 hlI hlR hk
  have HC : Hid ((s.count : Int) = s.v.o.ints.length + s.v.o.refs.length) := by simp [Hid, SlotA.count]
  simp only [SlotA.cells] at *
  go_enter Try.func43, Try.ntmps43
  go_wp2_with fail
  rw [hW.out]
  refine C.mono ?_
  clear C
  rintro e w1 ⟨rfl, ho1, ht1⟩
  go_wp2
  go_ret
  exact ⟨ret_int (by rw [HC.out]; omega), ho1, (Touch.of_below hbW).trans ht1⟩

set_option maxHeartbeats 400000 in
set_option maxRecDepth 100000 in
theorem heldSlot_any (s : SlotA) (lo hi : Nat) (k0 : Int) (w : World) (ho : (s.mark k0).own w lo hi) (h0 : 0 ≤ k0) (hlI : s.v.o.ints.length ≤ 1099511627776) (hlR : s.v.o.refs.length ≤ 1099511627776) (hk : k0 ≤ 109951162777600) :
    Calls Try.prog 44 #[.agg s.cells.toArray, .int .i64 k0] w fun e w' => e = .returned (.int .i64 (k0 + s.count)) ∧ Below w.heap.size w w' := by
  obtain ⟨W, hW, b0, hbW, hsW⟩ := boxes1 w s.cells 26
  have C := heldObj_any s.v.o lo hi s.aI s.cI s.aR s.cR k0 W (OwnO.below ho hbW) h0 hlI hlR hk
  have HC : Hid ((s.count : Int) = s.v.o.ints.length + s.v.o.refs.length) := by simp [Hid, SlotA.count]
  simp only [SlotA.cells] at *
  go_enter Try.func44, Try.ntmps44
  go_wp2_with fail
  rw [hW.out]
  refine C.mono ?_
  clear C
  rintro e w1 ⟨rfl, hb1⟩
  go_wp2
  go_ret
  exact ⟨ret_int (by rw [HC.out]; omega), hbW.trans (hb1.mono hbW.size)⟩
end Go.Proofs.Ytoboickdkednkab

/- Rows of Lives: what they are, what a walk reads and owns of them. -/
namespace Go.Proofs.Ytoboickdkednkab
open Go.RowKit

structure LiveV where
  tx : Int
  last : Int
  aborts : Bool
def LiveV.cells (l : LiveV) : List Value := [.int .i64 l.tx, .int .i64 l.last, .bool l.aborts]
def zeroL : LiveV := ⟨0, 0, false⟩
def cellsL (ls : List LiveV) : List Value := ls.flatMap LiveV.cells
theorem cellsL_at (ls : List LiveV) (k j : Nat) (hk : k < ls.length) (hj : j < 3) : (cellsL ls)[k * 3 + j]? = (ls.getD k zeroL).cells[j]? := by
  induction ls generalizing k with
  | nil => simp at hk
  | cons s r ih =>
    have e : cellsL (s :: r) = s.cells ++ cellsL r := by simp [cellsL]
    have l3 : s.cells.length = 3 := rfl
    rw [e]
    cases k with
    | zero => rw [List.getElem?_append_left (by rw [l3]; omega)]; simp
    | succ k =>
      rw [List.getElem?_append_right (by rw [l3]; omega), l3]
      have := ih k (by simpa using hk)
      rw [show (k + 1) * 3 + j - 3 = k * 3 + j by omega, this]
      simp
theorem cellsL_set (ls : List LiveV) (k : Nat) (hk : k < ls.length) (t : LiveV) :
    (((cellsL ls).set (k * 3) (.int .i64 t.tx)).set (k * 3 + 1) (.int .i64 t.last)).set (k * 3 + 2) (.bool t.aborts) = cellsL (ls.set k t) := by
  induction ls generalizing k with
  | nil => simp at hk
  | cons s r ih =>
    cases k with
    | zero => simp [cellsL, LiveV.cells]
    | succ k =>
      have := ih k (by simpa using hk)
      have e2 : ∀ x, cellsL (s :: x) = s.cells ++ cellsL x := fun x => by simp [cellsL]
      have l3 : s.cells.length = 3 := rfl
      rw [e2, List.set_append_right _ _ (by rw [l3]; omega), List.set_append_right _ _ (by rw [l3]; omega), List.set_append_right _ _ (by rw [l3]; omega), l3, show (k + 1) * 3 - 3 = k * 3 by omega, show (k + 1) * 3 + 1 - 3 = k * 3 + 1 by omega, show (k + 1) * 3 + 2 - 3 = k * 3 + 2 by omega, this, List.set_cons_succ, e2]

/-- The slice at a reads these. -/
def ReadsL (w : World) (a : Option Addr) (ls : List LiveV) : Prop := ls ≠ [] → ∃ b off, a = some ⟨b, off, none⟩ ∧ ∀ k, k < ls.length → w.cell? ⟨b, off + k * 3, none⟩ = some (.int .i64 (ls.getD k zeroL).tx) ∧ w.cell? ⟨b, off + k * 3 + 1, none⟩ = some (.int .i64 (ls.getD k zeroL).last) ∧ w.cell? ⟨b, off + k * 3 + 2, none⟩ = some (.bool (ls.getD k zeroL).aborts)
theorem ReadsL.nil (w : World) (a : Option Addr) : ReadsL w a [] := fun h => absurd rfl h
theorem ReadsL.below {w w' : World} {a : Option Addr} {ls : List LiveV} (h : ReadsL w a ls) (hb : Below w.heap.size w w') : ReadsL w' a ls := by
  intro hne
  obtain ⟨b, off, ha, hc⟩ := h hne
  refine ⟨b, off, ha, fun k hk => ?_⟩
  obtain ⟨h0, h1, h2⟩ := hc k hk
  have hlt := block_lt h0
  exact ⟨by rw [hb.cell (p := ⟨b, off + k * 3, none⟩) hlt]; exact h0, by rw [hb.cell (p := ⟨b, off + k * 3 + 1, none⟩) hlt]; exact h1, by rw [hb.cell (p := ⟨b, off + k * 3 + 2, none⟩) hlt]; exact h2⟩
theorem ReadsL.cases {w : World} {a : Option Addr} {ls : List LiveV} (h : ReadsL w a ls) : ls = [] ∨ ∃ b off, a = some ⟨b, off, none⟩ ∧ 0 < ls.length ∧ ∀ k, k < ls.length → w.cell? ⟨b, off + k * 3, none⟩ = some (.int .i64 (ls.getD k zeroL).tx) ∧ w.cell? ⟨b, off + k * 3 + 1, none⟩ = some (.int .i64 (ls.getD k zeroL).last) ∧ w.cell? ⟨b, off + k * 3 + 2, none⟩ = some (.bool (ls.getD k zeroL).aborts) := by
  by_cases e : ls = []
  · exact .inl e
  · obtain ⟨b, off, ha, hc⟩ := h e
    exact .inr ⟨b, off, ha, List.length_pos_iff.2 e, hc⟩

/-- The slice at a, of capacity c, owns these; its row lies from lo up to hi. -/
def OwnL (w : World) (lo hi : Nat) (a : Option Addr) (c : Nat) (ls : List LiveV) : Prop :=
  w.ownsRow lo 60 3 (.slice a ls.length c) ls.length (cellsL ls) ∧ hi ≤ w.heap.size ∧ ∀ k, (Value.slice a ls.length c).ownBlock = some k → k < hi
theorem OwnL.lt {w : World} {lo hi : Nat} {a : Option Addr} {c : Nat} {ls : List LiveV} (h : OwnL w lo hi a c ls) : ∀ k, (Value.slice a ls.length c).ownBlock = some k → lo ≤ k ∧ k < hi := fun k hk => ⟨(h.1.lt k hk).1, h.2.2 k hk⟩
theorem OwnL.touch {w w' : World} {lo hi : Nat} {a : Option Addr} {c : Nat} {ls : List LiveV} {bl : List Nat} (h : OwnL w lo hi a c ls) (ht : Touch bl w w') (hd : ∀ k, (Value.slice a ls.length c).ownBlock = some k → k ∉ bl) : OwnL w' lo hi a c ls :=
  ⟨ownsRow_block h.1 (fun k hk => ht.block k (h.1.lt k hk).2 (hd k hk)), Nat.le_trans h.2.1 ht.size, h.2.2⟩
theorem OwnL.within {w w' : World} {lo hi l r : Nat} {a : Option Addr} {c : Nat} {ls : List LiveV} (h : OwnL w lo hi a c ls) (hw : Within l r w w') (hd : hi ≤ l ∨ r ≤ lo) : OwnL w' lo hi a c ls :=
  ⟨ownsRow_block h.1 (fun k hk => hw.block k (by have := h.2.2 k hk; have := h.2.1; omega) (by have := h.lt k hk; omega)), Nat.le_trans h.2.1 hw.size, h.2.2⟩
theorem OwnL.below {w w' : World} {lo hi : Nat} {a : Option Addr} {c : Nat} {ls : List LiveV} (h : OwnL w lo hi a c ls) (hb : Below w.heap.size w w') : OwnL w' lo hi a c ls :=
  h.within (Within.of_below (lo := w.heap.size) (hi := w.heap.size) hb) (.inl h.2.1)
theorem OwnL.widen {w : World} {lo hi lo' hi' : Nat} {a : Option Addr} {c : Nat} {ls : List LiveV} (h : OwnL w lo hi a c ls) (h1 : lo' ≤ lo) (h2 : hi ≤ hi') (h3 : hi' ≤ w.heap.size) : OwnL w lo' hi' a c ls :=
  ⟨ownsRow_base h.1 (fun k hk => by have := h.lt k hk; omega), h3, fun k hk => by have := h.lt k hk; omega⟩
theorem ownL_nil (w : World) (lo hi : Nat) (h : hi ≤ w.heap.size) : OwnL w lo hi none 0 [] := ⟨⟨by simp [cellsL], .inl ⟨rfl, rfl⟩⟩, h, fun k hk => by cases hk⟩
theorem OwnL.nocap {w : World} {lo hi : Nat} {a : Option Addr} {c : Nat} {ls : List LiveV} (h : OwnL w lo hi a c ls) : a = none → c = 0 := by
  intro ha
  rcases h.1.2 with ⟨hv, _⟩ | ⟨g, cap, cur, hv, _⟩
  · simp only [Value.slice.injEq] at hv; exact hv.2.2
  · simp [ha] at hv
/-- The three cells of one of a row that lies in block g. -/
theorem row_live {w : World} {base g n cap : Nat} {ls : List LiveV} (h : w.ownsRow base 60 3 (.slice (some ⟨g, 0, none⟩) n cap) n (cellsL ls)) (hn : ls.length = n) (k : Nat) (hk : k < n) :
    w.cell? ⟨g, k * 3, none⟩ = some (.int .i64 (ls.getD k zeroL).tx) ∧ w.cell? ⟨g, k * 3 + 1, none⟩ = some (.int .i64 (ls.getD k zeroL).last) ∧ w.cell? ⟨g, k * 3 + 2, none⟩ = some (.bool (ls.getD k zeroL).aborts) ∧ (∀ i, w.frozen? ⟨g, i, none⟩ = false) := by
  have a0 := cellsL_at ls k 0 (by omega) (by omega)
  have a1 := cellsL_at ls k 1 (by omega) (by omega)
  have a2 := cellsL_at ls k 2 (by omega) (by omega)
  simp only [LiveV.cells, Nat.add_zero, List.getElem?_cons_zero, List.getElem?_cons_succ] at a0 a1 a2
  exact ⟨by rw [h.cellAt (k * 3) (by omega)]; exact a0, by rw [h.cellAt (k * 3 + 1) (by omega)]; exact a1, by rw [h.cellAt (k * 3 + 2) (by omega)]; exact a2, fun i => h.frozenAt i⟩
/-- One of the row stored. -/
theorem row_store {w : World} {base g n cap : Nat} {ls : List LiveV} (h : w.ownsRow base 60 3 (.slice (some ⟨g, 0, none⟩) n cap) n (cellsL ls)) (hn : ls.length = n) (k : Nat) (hk : k < n) (t : LiveV) :
    ∃ W, Hid (((w.setCell ⟨g, k * 3, none⟩ (.int .i64 t.tx)).setCell ⟨g, k * 3 + 1, none⟩ (.int .i64 t.last)).setCell ⟨g, k * 3 + 2, none⟩ (.bool t.aborts) = W) ∧ W.ownsRow base 60 3 (.slice (some ⟨g, 0, none⟩) n cap) n (cellsL (ls.set k t)) ∧ w.grownBy W (some g) := by
  have s1 := h.stored (k * 3) (.int .i64 t.tx)
  have s2 := s1.1.stored (k * 3 + 1) (.int .i64 t.last)
  have s3 := s2.1.stored (k * 3 + 2) (.bool t.aborts)
  refine ⟨_, rfl, ?_, grownBy_trans (grownBy_trans s1.2 s2.2) s3.2⟩
  have := s3.1
  rw [cellsL_set ls k (by omega) t] at this
  exact this
theorem OwnL.reads {w : World} {lo hi : Nat} {a : Option Addr} {c : Nat} {ls : List LiveV} (h : OwnL w lo hi a c ls) : ReadsL w a ls := by
  intro hne
  rcases h.1.2 with ⟨_, h0⟩ | ⟨g, cap', cur, hv, hb, hg, hr⟩
  · exact absurd (List.length_eq_zero_iff.1 h0) hne
  · simp only [Value.slice.injEq] at hv
    obtain ⟨rfl, _, rfl⟩ := hv
    refine ⟨g, 0, rfl, fun k hk => ?_⟩
    obtain ⟨a0, a1, a2, _⟩ := row_live h.1 rfl k hk
    rw [Nat.zero_add]
    exact ⟨a0, a1, a2⟩
end Go.Proofs.Ytoboickdkednkab

/- The walks of laws.toLive, toLiveS, eqLive, eqLiveS, szLiveS. -/
namespace Go.Proofs.Ytoboickdkednkab
open Go.RowKit

set_option maxHeartbeats 400000 in
set_option maxRecDepth 100000 in
theorem eqLive_same (l : LiveV) (w : World) :
    Calls Try.prog 27 #[.agg l.cells.toArray, .agg l.cells.toArray] w fun e w' => e = .returned (.bool true) ∧ Below w.heap.size w w' := by
  obtain ⟨x, y, z⟩ := l
  simp only [LiveV.cells]
  obtain ⟨W, hW, b0, b1, hbW, hsW⟩ := boxes2 w [.int .i64 x, .int .i64 y, .bool z] [.int .i64 x, .int .i64 y, .bool z] 60 60
  clear b0 b1 hsW
  go_enter Try.func27, Try.ntmps27
  go_wp2
  rw [hW.out]
  go_ret
  exact ⟨rfl, hbW⟩

set_option maxHeartbeats 1000000 in
set_option maxRecDepth 100000 in
theorem eqLiveS_same (a b : Option Addr) (ca cb : Nat) (ls : List LiveV) (w : World) (ha : ReadsL w a ls) (hb : ReadsL w b ls) (hl : ls.length ≤ 1099511627776) :
    Calls Try.prog 12 #[.slice a ls.length ca, .slice b ls.length cb] w fun e w' => e = .returned (.bool true) ∧ Below w.heap.size w w' := by
  rcases ha.cases with rfl | ⟨b1, o1, rfl, hpos, hc1⟩
  · go_enter Try.func12, Try.ntmps12
    go_wp2
    refine wp_loop_rounds 1 ?_
    rw [rounds_succ]
    go_wp2
    go_ret
    exact ⟨rfl, Below.refl _ _⟩
  · rcases hb.cases with rfl | ⟨b2, o2, rfl, _, hc2⟩
    · simp at hpos
    · go_enter Try.func12, Try.ntmps12
      go_wp2
      go_loopw [5] (fun i wr => ∃ k : Nat, k ≤ ls.length ∧ i = .int .i64 k ∧ Below w.heap.size w wr) (fun i _ => ls.length - (intOf i).toNat)
      case atStart => exact ⟨0, Nat.zero_le _, rfl, Below.refl _ _⟩
      case round =>
        obtain ⟨k, hk, rfl, hbl⟩ := hrel
        by_cases hlt : k < ls.length
        · have h1 := hc1 k hlt
          have h2 := hc2 k hlt
          clear hc1 hc2
          generalize ls.getD k zeroL = z at *
          have HS : Hid (∀ w1, Below w.heap.size w w1 → (w1.cell? ⟨b1, o1 + k * 3, none⟩ = some (.int .i64 z.tx) ∧ w1.cell? ⟨b1, o1 + k * 3 + 1, none⟩ = some (.int .i64 z.last) ∧ w1.cell? ⟨b1, o1 + k * 3 + 2, none⟩ = some (.bool z.aborts)) ∧ (w1.cell? ⟨b2, o2 + k * 3, none⟩ = some (.int .i64 z.tx) ∧ w1.cell? ⟨b2, o2 + k * 3 + 1, none⟩ = some (.int .i64 z.last) ∧ w1.cell? ⟨b2, o2 + k * 3 + 2, none⟩ = some (.bool z.aborts))) := fun w1 hh =>
            ⟨⟨(hh.cell (block_lt h1.1)).trans h1.1, (hh.cell (block_lt h1.2.1)).trans h1.2.1, (hh.cell (block_lt h1.2.2)).trans h1.2.2⟩, (hh.cell (block_lt h2.1)).trans h2.1, (hh.cell (block_lt h2.2.1)).trans h2.2.1, (hh.cell (block_lt h2.2.2)).trans h2.2.2⟩
          have hh := HS.out wr hbl
          clear h1 h2
          go_wp2_with fail
          go_region_held3 (fun w1 => (w1.cell? ⟨b1, o1 + k * 3, none⟩ = some (.int .i64 z.tx) ∧ w1.cell? ⟨b1, o1 + k * 3 + 1, none⟩ = some (.int .i64 z.last) ∧ w1.cell? ⟨b1, o1 + k * 3 + 2, none⟩ = some (.bool z.aborts)) ∧ (w1.cell? ⟨b2, o2 + k * 3, none⟩ = some (.int .i64 z.tx) ∧ w1.cell? ⟨b2, o2 + k * 3 + 1, none⟩ = some (.int .i64 z.last) ∧ w1.cell? ⟨b2, o2 + k * 3 + 2, none⟩ = some (.bool z.aborts)))
            (first | exact HS.out _ hw2 | go_keep | fail)
            ((first | (go_at_call 27; refine (eqLive_same z _).mono ?_; rintro e w2 ⟨rfl, hb2⟩; have hw2 : Below w.heap.size w w2 := (hbl.drew).trans (hb2.mono hbl.size)) | fail))
          all_goals
            go_wp2_with fail
            go_roundw
            case rel => exact ⟨k + 1, by omega, by go_num, hw2⟩
            case measure => simp [intOf]; omega
        · go_wp2
          go_ret
          exact ⟨rfl, hbl⟩
end Go.Proofs.Ytoboickdkednkab

/- The walk of laws.toSlotA4. -/
namespace Go.Proofs.Ytoboickdkednkab
open Go.RowKit

theorem within_setCells (B o : Nat) (vs : List Value) (w : World) : Within B (B + 1) w (w.setCells B o vs) := by
  induction vs generalizing o w with
  | nil => exact Within.refl _ _ _
  | cons v r ih => exact (within_set w B o v (by omega)).trans (ih (o + 1) _)
theorem getD_mem {ss : List SlotA} {k : Nat} (h : k < ss.length) : ss.getD k zeroS ∈ ss := by simp [List.getD, h]

end Go.Proofs.Ytoboickdkednkab

/- Ranges of cells in a box: read, and written, whole. -/
namespace Go.Proofs.Ytoboickdkednkab
open Go.RowKit

theorem Box.range {w : World} {B : Nat} {t : TypeId} (pre cs post : List Value) (b : Box w B (pre ++ (cs ++ post)) t) : w.rangeAt B pre.length cs := by
  intro j v hv
  have hj : j < cs.length := (List.getElem?_eq_some_iff.1 hv).1
  refine b.cell _ v ?_
  rw [List.getElem?_append_right (by omega), List.getElem?_append_left (by omega)]
  rw [show pre.length + j - pre.length = j by omega]
  exact hv
theorem Box.there {w : World} {B : Nat} {vs : List Value} {t : TypeId} (b : Box w B vs t) (o n : Nat) (h : o + n ≤ vs.length) : w.there B o n := fun j hj =>
  ⟨by rw [b.cell (o + j) _ (List.getElem?_eq_getElem (by omega))]; rfl, b.frozen _⟩
theorem set_range (pre post : List Value) : ∀ (old cs : List Value), old.length = cs.length → ∀ (w : World) (B : Nat) (t : TypeId), Box w B (pre ++ (old ++ post)) t → Box (w.setCells B pre.length cs) B (pre ++ (cs ++ post)) t := by
  intro old
  induction old generalizing pre with
  | nil => intro cs h w B t b; obtain rfl := List.length_eq_zero_iff.1 h.symm; exact b
  | cons x r ih =>
    intro cs h w B t b
    obtain ⟨c, cr, rfl⟩ : ∃ c cr, cs = c :: cr := by
      cases cs with
      | nil => simp at h
      | cons c cr => exact ⟨c, cr, rfl⟩
    have hb := b.set pre.length c
    rw [List.set_append_right _ _ (Nat.le_refl _), Nat.sub_self] at hb
    simp only [List.cons_append, List.set_cons_zero] at hb
    have hb' : Box (w.setCell ⟨B, pre.length, none⟩ c) B ((pre ++ [c]) ++ (r ++ post)) t := by simpa using hb
    have := ih (pre ++ [c]) cr (by simpa using h) _ B t hb'
    simp only [List.length_append, List.length_singleton] at this
    rw [World.setCells]
    simpa using this
theorem range_fill {w : World} {B : Nat} {t : TypeId} (pre old cs post : List Value) (b : Box w B (pre ++ (old ++ post)) t) (h : old.length = cs.length) :
    ∃ W, Hid (w.setCells B pre.length cs = W) ∧ Box W B (pre ++ (cs ++ post)) t ∧ Within B (B + 1) w W ∧ W.heap.size = w.heap.size := by
  refine ⟨_, rfl, set_range pre post old cs h w B t b, within_setCells _ _ _ _, ?_⟩
  have h1 := (within_setCells B pre.length cs w).size
  have : ∀ (vs : List Value) (o : Nat) (w : World), (w.setCells B o vs).heap.size = w.heap.size := by
    intro vs
    induction vs with
    | nil => intro o w; rfl
    | cons v r ih => intro o w; rw [World.setCells, ih]; simp
  exact this _ _ _
theorem oneS (ss : List SlotA) : ∀ v ∈ cellsS ss, v.oneCell' = true := by
  intro v hv
  obtain ⟨s, _, hs⟩ := List.mem_flatMap.1 hv
  simp only [SlotA.cells, List.mem_cons, List.not_mem_nil, or_false] at hs
  rcases hs with rfl | rfl | rfl | rfl <;> rfl

structure PageA where
  lsn : Int
  ss : List SlotA
def PageA.cells (p : PageA) : List Value := .int .i64 p.lsn :: cellsS p.ss
theorem oneP (p : PageA) : ∀ v ∈ p.cells, v.oneCell' = true := by
  intro v hv
  rcases List.mem_cons.1 hv with rfl | h
  · rfl
  · exact oneS _ v h
theorem page_len (p : PageA) (h : p.ss.length = 4) : p.cells.length = 17 := by simp [PageA.cells, cellsS_len, h]
end Go.Proofs.Ytoboickdkednkab

/- Records: what they are, what a walk reads and owns of them; the walk of laws.toRec. -/
namespace Go.Proofs.Ytoboickdkednkab
open Go.RowKit

structure RecV where
  lsn : Int
  tx : Int
  prev : Int
  kind : Int
  oid : Int
  bf : SlotV
  af : SlotV
  next : Int
  txs : List LiveV

/-- A record, and where its lists lie. -/
structure RecA where
  lsn : Int
  tx : Int
  prev : Int
  kind : Int
  oid : Int
  bf : SlotA
  af : SlotA
  next : Int
  txs : List LiveV
  aL : Option Addr
  cL : Nat
def RecA.v (r : RecA) : RecV := ⟨r.lsn, r.tx, r.prev, r.kind, r.oid, r.bf.v, r.af.v, r.next, r.txs⟩
def RecA.cells (r : RecA) : List Value := [.int .i64 r.lsn, .int .i64 r.tx, .int .i64 r.prev, .int .i64 r.kind, .int .i64 r.oid, .bool r.bf.v.has, .int .i64 r.bf.v.o.kind, .slice r.bf.aI r.bf.v.o.ints.length r.bf.cI, .slice r.bf.aR r.bf.v.o.refs.length r.bf.cR, .bool r.af.v.has, .int .i64 r.af.v.o.kind, .slice r.af.aI r.af.v.o.ints.length r.af.cI, .slice r.af.aR r.af.v.o.refs.length r.af.cR, .int .i64 r.next, .slice r.aL r.txs.length r.cL]
structure RecA.reads (w : World) (r : RecA) : Prop where
  bf : r.bf.reads w
  af : r.af.reads w
  txs : ReadsL w r.aL r.txs
theorem RecA.reads.below {w w' : World} {r : RecA} (h : r.reads w) (hb : Below w.heap.size w w') : r.reads w' := ⟨ReadsO.below h.bf hb, ReadsO.below h.af hb, h.txs.below hb⟩
def RecA.blocks (r : RecA) : List Nat := r.bf.blocks ++ (r.af.blocks ++ (Value.slice r.aL r.txs.length r.cL).ownBlock.toList)
structure RecA.own (w : World) (lo hi : Nat) (r : RecA) : Prop where
  bf : r.bf.own w lo hi
  af : r.af.own w lo hi
  txs : OwnL w lo hi r.aL r.cL r.txs
  apart : r.blocks.Nodup
theorem RecA.own.reads {w : World} {lo hi : Nat} {r : RecA} (h : r.own w lo hi) : r.reads w := ⟨OwnO.reads h.bf, OwnO.reads h.af, h.txs.reads⟩
theorem RecA.own.below {w w' : World} {lo hi : Nat} {r : RecA} (h : r.own w lo hi) (hb : Below w.heap.size w w') : r.own w' lo hi := ⟨OwnO.below h.bf hb, OwnO.below h.af hb, h.txs.below hb, h.apart⟩
theorem RecA.own.within {w w' : World} {lo hi l u : Nat} {r : RecA} (h : r.own w lo hi) (hw : Within l u w w') (hd : hi ≤ l ∨ u ≤ lo) : r.own w' lo hi := ⟨OwnO.within h.bf hw hd, OwnO.within h.af hw hd, h.txs.within hw hd, h.apart⟩
theorem RecA.own.widen {w : World} {lo hi lo' hi' : Nat} {r : RecA} (h : r.own w lo hi) (h1 : lo' ≤ lo) (h2 : hi ≤ hi') (h3 : hi' ≤ w.heap.size) : r.own w lo' hi' := ⟨OwnO.widen h.bf h1 h2 h3, OwnO.widen h.af h1 h2 h3, h.txs.widen h1 h2 h3, h.apart⟩
end Go.Proofs.Ytoboickdkednkab

/- The walks of laws.szIntS and szObj. -/
namespace Go.Proofs.Ytoboickdkednkab
open Go.RowKit

end Go.Proofs.Ytoboickdkednkab
