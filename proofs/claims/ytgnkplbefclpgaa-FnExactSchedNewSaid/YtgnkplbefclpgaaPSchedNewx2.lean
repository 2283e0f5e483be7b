/- Several texts in one, in their order. -/
import Derived.Test.YtgnkplbefclpgaaPSchedNewx1
import Derived.Test.YtgnkplbefclpgaaProg
import Derived.Laws.AppendOwnNone
import Derived.Deep.QuietTactic
import Derived.BigQuiet
import Derived.WalkSmall
import Derived.Deep.RegionHeld3
set_option maxHeartbeats 8000000
set_option maxRecDepth 100000
namespace Go.Proofs.Ytgnkplbefclpgaa
open Go.RowKit
theorem eqObj_same (o : ObjV) (aI : Option Addr) (cI : Nat) (aR : Option Addr) (cR : Nat) (bI : Option Addr) (dI : Nat) (bR : Option Addr) (dR : Nat) (w : World) (ha : ReadsO w aI cI aR cR o) (hb : ReadsO w bI dI bR dR o) (hlI : o.ints.length ≤ 1099511627776) (hlR : o.refs.length ≤ 1099511627776) :
  Calls Try.prog 79 #[.agg #[.int .i64 o.kind, .slice aI o.ints.length cI, .slice aR o.refs.length cR], .agg #[.int .i64 o.kind, .slice bI o.ints.length dI, .slice bR o.refs.length dR]] w fun e w' => e = .returned (.bool true) ∧ Below w.heap.size w w' := by
 obtain ⟨k, ints, refs⟩ := o
 obtain ⟨haI, haR, _, _⟩ := ha
 obtain ⟨hbI, hbR, _, _⟩ := hb
 simp only at *
 obtain ⟨W, hW, b0, b1, hbW, hsW⟩ := boxes2 w [.int .i64 k, .slice aI ints.length cI, .slice aR refs.length cR] [.int .i64 k, .slice bI ints.length dI, .slice bR refs.length dR] 26 26
 go_enter Try.func79, Try.ntmps79
 go_wp2_with fail
 rw [hW.out]
 refine (eqIntS_same aI bI cI dI ints W (haI.below hbW) (hbI.below hbW) hlI).mono ?_
 rintro e w1 ⟨rfl, n1, rfl⟩
 have c0 := (b0.drewN n1).cell 2 _ rfl
 have c1 := (b1.drewN n1).cell 2 _ rfl
 have hb1 : Below w.heap.size w (W.drewN n1) := below_drewN hbW n1
 go_wp2_with fail
 refine (eqIntS_same aR bR cR dR refs (W.drewN n1) (haR.below hb1) (hbR.below hb1) hlR).mono ?_
 rintro e w2 ⟨rfl, n2, rfl⟩
 go_wp2
 go_ret
 exact ⟨rfl, below_drewN hbW (n1 + n2)⟩
def markO (o : ObjV) (k0 : Int) : ObjV := ⟨o.kind, marksI k0 o.ints.length, marksI (k0 + o.ints.length) o.refs.length⟩
def OwnB (w : World) (base : Nat) (a : Option Addr) (c : Nat) (ys : List Int) : Prop :=
 (∀ z ∈ ys, 0 ≤ z ∧ z < 256) ∧ w.ownsRow base 5 1 (.slice a ys.length c) ys.length (ys.map (Value.int .u8))
theorem OwnB.reads {w : World} {base : Nat} {a : Option Addr} {c : Nat} {ys : List Int} (h : OwnB w base a c ys) : Reads w a ys := Reads.of_own h.1 h.2
theorem OwnB.nocap {w : World} {base : Nat} {a : Option Addr} {c : Nat} {ys : List Int} (h : OwnB w base a c ys) : a = none → c = 0 := by
 intro ha
 rcases h.2.2 with ⟨hv, _⟩ | ⟨g, cap, cur, hv, _⟩
 ·simp only [Value.slice.injEq] at hv; exact hv.2.2
 ·simp [ha] at hv
theorem OwnB.base {w : World} {base base' : Nat} {a : Option Addr} {c : Nat} {ys : List Int} (h : OwnB w base a c ys) (hb : base' ≤ base) : OwnB w base' a c ys := by
 refine ⟨h.1, h.2.1, ?_⟩
 rcases h.2.2 with h0 | ⟨g, cap, cur, hv, hg, hr⟩
 ·exact .inl h0
 ·exact .inr ⟨g, cap, cur, hv, by omega, hr⟩
def marks (k0 : Int) (n : Nat) : List Int := (List.range n).map fun i : Nat => (k0 + i) % 256
def marked (k0 : Int) (xs : List Int) (k : Nat) : List Int := marks k0 k ++ xs.drop k
def part (zs : List Int) (k : Nat) : List Int := zs.take k ++ List.replicate (zs.length - k) 0
theorem OwnB.lt {w : World} {base : Nat} {a : Option Addr} {c : Nat} {ys : List Int} (h : OwnB w base a c ys) : ∀ k, (Value.slice a ys.length c).ownBlock = some k → base ≤ k ∧ k < w.heap.size := h.2.lt
def OwnR (w : World) (lo hi : Nat) (a : Option Addr) (c : Nat) (ys : List Int) : Prop := OwnB w lo a c ys ∧ hi ≤ w.heap.size ∧ ∀ k, (Value.slice a ys.length c).ownBlock = some k → k < hi
theorem OwnR.lt {w : World} {lo hi : Nat} {a : Option Addr} {c : Nat} {ys : List Int} (h : OwnR w lo hi a c ys) : ∀ k, (Value.slice a ys.length c).ownBlock = some k → lo ≤ k ∧ k < hi := fun k hk => ⟨(h.1.2.lt k hk).1, h.2.2 k hk⟩
theorem OwnR.reads {w : World} {lo hi : Nat} {a : Option Addr} {c : Nat} {ys : List Int} (h : OwnR w lo hi a c ys) : Reads w a ys := h.1.reads
structure Touch (bl : List Nat) (w w' : World) : Prop where
 os : w'.os = w.os
 tape : w'.tape = w.tape
 output : w'.output = w.output
 size : w.heap.size ≤ w'.heap.size
 block : ∀ k, k < w.heap.size → k ∉ bl → w'.heap[k]? = w.heap[k]?
theorem Touch.refl (bl : List Nat) (w : World) : Touch bl w w := ⟨rfl, rfl, rfl, Nat.le_refl _, fun _ _ _ => rfl⟩
theorem Touch.trans {bl : List Nat} {a b c : World} (h : Touch bl a b) (k : Touch bl b c) : Touch bl a c :=
 ⟨k.os.trans h.os, k.tape.trans h.tape, k.output.trans h.output, Nat.le_trans h.size k.size, fun i hi hn => (k.block i (Nat.lt_of_lt_of_le hi h.size) hn).trans (h.block i hi hn)⟩
theorem Touch.mono {bl bl' : List Nat} {w w' : World} (h : Touch bl w w') (hs : ∀ k ∈ bl, k ∈ bl') : Touch bl' w w' :=
 ⟨h.os, h.tape, h.output, h.size, fun k hk hn => h.block k hk (fun hh => hn (hs k hh))⟩
theorem Touch.of_below {bl : List Nat} {w w' : World} (h : Below w.heap.size w w') : Touch bl w w' := ⟨h.os, h.tape, h.output, h.size, fun k hk _ => h.block k hk⟩
theorem Touch.of_grown {bl : List Nat} {w w' : World} {row : Option Nat} (h : w.grownBy w' row) (hr : ∀ k, row = some k → k ∈ bl) : Touch bl w w' :=
 ⟨h.os, h.tape, h.output, h.size, fun k hk hn => h.block k hk (fun e => hn (hr k e.symm))⟩
theorem Touch.within {bl : List Nat} {lo hi : Nat} {w w' : World} (h : Touch bl w w') (hb : ∀ k ∈ bl, lo ≤ k ∧ k < hi) : Within lo hi w w' :=
 ⟨h.os, h.tape, h.output, h.size, fun k hk hn => h.block k hk (fun hh => hn (hb k hh))⟩
theorem Box.touch {w w' : World} {B : Nat} {vs : List Value} {t : TypeId} {bl : List Nat} (h : Box w B vs t) (ht : Touch bl w w') (hn : B ∉ bl) : Box w' B vs t := h.block (ht.block B h.lt hn)
theorem OwnI.touch {w w' : World} {lo hi : Nat} {a : Option Addr} {c : Nat} {ns : List Int} {bl : List Nat} (h : OwnI w lo hi a c ns) (ht : Touch bl w w') (hd : ∀ k, (Value.slice a ns.length c).ownBlock = some k → k ∉ bl) : OwnI w' lo hi a c ns :=
 ⟨ownsRow_block h.1 (fun k hk => ht.block k (h.1.lt k hk).2 (hd k hk)), Nat.le_trans h.2.1 ht.size, h.2.2⟩
theorem SlotA.touch {w w' : World} {lo hi : Nat} {s : SlotA} {bl : List Nat} (h : s.own w lo hi) (ht : Touch bl w w') (hd : ∀ k ∈ s.blocks, k ∉ bl) : s.own w' lo hi :=
 ⟨h.ints.touch ht (fun k hk => hd k (List.mem_append.2 (.inl (Option.mem_toList.2 hk)))), h.refs.touch ht (fun k hk => hd k (List.mem_append.2 (.inr (Option.mem_toList.2 hk)))), h.apart⟩
theorem OwnS.replace {w w' : World} {lo hi : Nat} {A B : List SlotA} {s t : SlotA} (h : OwnS w lo hi (A ++ s :: B)) (ht : Touch s.blocks w w') (ho : t.own w' lo hi) (hb : t.blocks = s.blocks) : OwnS w' lo hi (A ++ t :: B) := by
 have hap := h.apart
 rw [List.flatMap_append, List.flatMap_cons, List.nodup_append] at hap
 obtain ⟨_, h2, h3⟩ := hap
 rw [List.nodup_append] at h2
 obtain ⟨_, _, h5⟩ := h2
 refine ⟨fun x hx => ?_, ?_⟩
 ·rcases List.mem_append.1 hx with hA | hB
  ·refine SlotA.touch (h.each x (by simp [hA])) ht (fun k hk hk' => ?_)
   exact h3 k (List.mem_flatMap.2 ⟨x, hA, hk⟩) k (List.mem_append.2 (.inl hk')) rfl
  ·rcases List.mem_cons.1 hB with rfl | hB
   ·exact ho
   ·refine SlotA.touch (h.each x (by simp [hB])) ht (fun k hk hk' => ?_)
    exact h5 k hk' k (List.mem_flatMap.2 ⟨x, hB, hk⟩) rfl
 ·have := h.apart
  rw [List.flatMap_append, List.flatMap_cons] at this ⊢
  rw [hb]; exact this
def SlotA.mark (s : SlotA) (k : Int) : SlotA := { s with v := ⟨s.v.has, markO s.v.o k⟩ }
def SlotA.count (s : SlotA) : Nat := s.v.o.ints.length + s.v.o.refs.length
def markSs : List SlotA → Int → List SlotA
 | [], _ => []
 | s :: r, k => s.mark k :: markSs r (k + s.count)
def countS : List SlotA → Nat
 | [] => 0
 | s :: r => s.count + countS r
theorem mark_blocks (s : SlotA) (k : Int) : (s.mark k).blocks = s.blocks := by simp [SlotA.mark, SlotA.blocks, markO, marksI_len]
theorem countS_snoc (ss : List SlotA) (s : SlotA) : countS (ss ++ [s]) = countS ss + s.count := by
 induction ss with
 | nil => simp [countS]
 | cons x r ih => simp only [List.cons_append, countS, ih]; omega
theorem markSs_snoc (ss : List SlotA) (s : SlotA) : ∀ k, markSs (ss ++ [s]) k = markSs ss k ++ [s.mark (k + countS ss)] := by
 induction ss with
 | nil => intro k; simp [markSs, countS]
 | cons x r ih =>
  intro k
  simp only [List.cons_append, markSs, ih, countS]
  congr 3
  congr 1
  omega
theorem markSs_app (A B : List SlotA) : ∀ k, markSs (A ++ B) k = markSs A k ++ markSs B (k + countS A) := by
 induction A with
 | nil => intro k; simp [markSs, countS]
 | cons x r ih =>
  intro k
  simp only [List.cons_append, markSs, ih, countS]
  congr 3
  omega
theorem markSs_at (ss : List SlotA) (k : Int) (j : Nat) (h : j < ss.length) : (ss.getD j zeroS).mark (k + countS (ss.take j)) ∈ markSs ss k := by
 have e : markSs ss k = markSs (ss.take j) k ++ markSs (ss.drop j) (k + countS (ss.take j)) := by rw [← markSs_app, List.take_append_drop]
 have e2 : ss.getD j zeroS = ss[j] := by simp [List.getD, h]
 rw [e, List.drop_eq_getElem_cons h, markSs, e2]
 exact List.mem_append.2 (.inr (List.mem_cons.2 (.inl rfl)))
theorem take_split (ss : List SlotA) (j : Nat) (h : j < ss.length) : ss.drop j = ss.getD j zeroS :: ss.drop (j + 1) ∧ ss.take (j + 1) = ss.take j ++ [ss.getD j zeroS] := by
 refine ⟨by rw [List.drop_eq_getElem_cons h]; simp [List.getD, h], ?_⟩
 rw [List.take_add_one]
 simp [List.getD, h]
theorem countS_le (ss : List SlotA) (M : Nat) (h : ∀ s ∈ ss, s.v.o.ints.length ≤ M ∧ s.v.o.refs.length ≤ M) : countS ss ≤ ss.length * (2 * M) := by
 induction ss with
 | nil => simp [countS]
 | cons x r ih =>
  have h1 := h x (by simp)
  have h2 := ih (fun s hs => h s (by simp [hs]))
  simp only [countS, SlotA.count, List.length_cons, Nat.add_mul]
  omega
theorem markObj_touch (o : ObjV) (lo hi : Nat) (aI : Option Addr) (cI : Nat) (aR : Option Addr) (cR : Nat) (k0 : Int) (w : World) (ho : OwnO w lo hi aI cI aR cR o) (h0 : 0 ≤ k0) (hlI : o.ints.length ≤ 1099511627776) (hlR : o.refs.length ≤ 1099511627776) (hk : k0 ≤ 109951162777600) :
  Calls Try.prog 80 #[.agg #[.int .i64 o.kind, .slice aI o.ints.length cI, .slice aR o.refs.length cR], .int .i64 k0] w fun e w' => e = .returned (.int .i64 (k0 + o.ints.length + o.refs.length)) ∧ OwnO w' lo hi aI cI aR cR (markO o k0) ∧
   Touch ((Value.slice aI o.ints.length cI).ownBlock.toList ++ (Value.slice aR o.refs.length cR).ownBlock.toList) w w' := by
 obtain ⟨k, ints, refs⟩ := o
 obtain ⟨hI, hR, hap⟩ := ho
 simp only at *
 obtain ⟨W, hW, b0, hbW, hsW⟩ := boxes1 w [.int .i64 k, .slice aI ints.length cI, .slice aR refs.length cR] 26
 have hI' := hI.below hbW
 have hR' := hR.below hbW
 go_enter Try.func80, Try.ntmps80
 go_wp2_with fail
 rw [hW.out]
 refine (markIntS_any lo aI cI k0 ints W hI'.1 h0 (by omega)).mono ?_
 rintro e w1 ⟨rfl, h1, h2⟩
 have hR1 := hR'.kept h2 (fun k hk e => hap k e hk)
 have b1 := b0.block (h2.block _ (by omega) (fun e => by have h3 := (hI.lt _ e.symm).2; have := hI.2.1; omega))
 have c2 := b1.cell 2 _ rfl
 have hI1 : OwnI w1 lo hi aI cI (marksI k0 ints.length) := ⟨by rw [marksI_len]; exact h1, Nat.le_trans hI'.2.1 h2.size, by rw [marksI_len]; exact hI.2.2⟩
 go_wp2_with fail
 refine (markIntS_any lo aR cR (k0 + ints.length) refs w1 hR1.1 (by omega) (by omega)).mono ?_
 rintro e w2 ⟨rfl, h3, h4⟩
 have hI2 := hI1.kept h4 (fun k hk e => by rw [marksI_len] at hk; exact hap k hk e)
 have hR2 : OwnI w2 lo hi aR cR (marksI (k0 + ints.length) refs.length) := ⟨by rw [marksI_len]; exact h3, Nat.le_trans hR1.2.1 h4.size, by rw [marksI_len]; exact hR.2.2⟩
 go_wp2
 go_ret
 refine ⟨rfl, ⟨hI2, hR2, ?_⟩, ((Touch.of_below hbW).trans (Touch.of_grown h2 (fun j hj => List.mem_append.2 (.inl (Option.mem_toList.2 hj))))).trans (Touch.of_grown h4 (fun j hj => List.mem_append.2 (.inr (Option.mem_toList.2 hj))))⟩
 simp only [markO, marksI_len]
 exact hap
theorem heldObj_any (o : ObjV) (lo hi : Nat) (aI : Option Addr) (cI : Nat) (aR : Option Addr) (cR : Nat) (k0 : Int) (w : World) (ho : OwnO w lo hi aI cI aR cR (markO o k0)) (h0 : 0 ≤ k0) (hlI : o.ints.length ≤ 1099511627776) (hlR : o.refs.length ≤ 1099511627776) (hk : k0 ≤ 109951162777600) :
  Calls Try.prog 81 #[.agg #[.int .i64 o.kind, .slice aI o.ints.length cI, .slice aR o.refs.length cR], .int .i64 k0] w fun e w' => e = .returned (.int .i64 (k0 + o.ints.length + o.refs.length)) ∧ Below w.heap.size w w' := by
 obtain ⟨k, ints, refs⟩ := o
 obtain ⟨hI, hR, hap⟩ := ho
 simp only [markO] at *
 obtain ⟨W, hW, b0, hbW, hsW⟩ := boxes1 w [.int .i64 k, .slice aI ints.length cI, .slice aR refs.length cR] 26
 have hI' := hI.below hbW
 have hR' := hR.below hbW
 have c2 := b0.cell 2 _ rfl
 go_enter Try.func81, Try.ntmps81
 go_wp2_with fail
 rw [hW.out]
 refine (heldIntS_own lo hi aI cI k0 ints.length W hI' h0 (by omega)).mono ?_
 rintro e w1 ⟨rfl, rfl⟩
 go_wp2_with fail
 refine (heldIntS_own lo hi aR cR (k0 + ints.length) refs.length w1 hR' (by omega) (by omega)).mono ?_
 rintro e w2 ⟨rfl, rfl⟩
 go_wp2
 go_ret
 exact ⟨rfl, hbW⟩
theorem markSlot_touch (s : SlotA) (lo hi : Nat) (k0 : Int) (w : World) (ho : s.own w lo hi) (h0 : 0 ≤ k0) (hlI : s.v.o.ints.length ≤ 1099511627776) (hlR : s.v.o.refs.length ≤ 1099511627776) (hk : k0 ≤ 109951162777600) :
  Calls Try.prog 77 #[.agg s.cells.toArray, .int .i64 k0] w fun e w' => e = .returned (.int .i64 (k0 + s.count)) ∧ (s.mark k0).own w' lo hi ∧ Touch s.blocks w w' := by
 obtain ⟨W, hW, b0, hbW, hsW⟩ := boxes1 w s.cells 28
 have C := markObj_touch s.v.o lo hi s.aI s.cI s.aR s.cR k0 W (OwnO.below ho hbW) h0 hlI hlR hk
 have HC : Hid ((s.count : Int) = s.v.o.ints.length + s.v.o.refs.length) := by simp [Hid, SlotA.count]
 simp only [SlotA.cells] at *
 go_enter Try.func77, Try.ntmps77
 go_wp2_with fail
 rw [hW.out]
 refine C.mono ?_
 clear C
 rintro e w1 ⟨rfl, ho1, ht1⟩
 go_wp2
 go_ret
 exact ⟨ret_int (by rw [HC.out]; omega), ho1, (Touch.of_below hbW).trans ht1⟩
theorem heldSlot_any (s : SlotA) (lo hi : Nat) (k0 : Int) (w : World) (ho : (s.mark k0).own w lo hi) (h0 : 0 ≤ k0) (hlI : s.v.o.ints.length ≤ 1099511627776) (hlR : s.v.o.refs.length ≤ 1099511627776) (hk : k0 ≤ 109951162777600) :
  Calls Try.prog 78 #[.agg s.cells.toArray, .int .i64 k0] w fun e w' => e = .returned (.int .i64 (k0 + s.count)) ∧ Below w.heap.size w w' := by
 obtain ⟨W, hW, b0, hbW, hsW⟩ := boxes1 w s.cells 28
 have C := heldObj_any s.v.o lo hi s.aI s.cI s.aR s.cR k0 W (OwnO.below ho hbW) h0 hlI hlR hk
 have HC : Hid ((s.count : Int) = s.v.o.ints.length + s.v.o.refs.length) := by simp [Hid, SlotA.count]
 simp only [SlotA.cells] at *
 go_enter Try.func78, Try.ntmps78
 go_wp2_with fail
 rw [hW.out]
 refine C.mono ?_
 clear C
 rintro e w1 ⟨rfl, hb1⟩
 go_wp2
 go_ret
 exact ⟨ret_int (by rw [HC.out]; omega), hbW.trans (hb1.mono hbW.size)⟩
structure OpV where
 kd : Int
 oid : Int
 num : Int
def OpV.cells (l : OpV) : List Value := [.int .i64 l.kd, .int .i64 l.oid, .int .i64 l.num]
def zeroQ : OpV := ⟨0, 0, 0⟩
def cellsQ (ls : List OpV) : List Value := ls.flatMap OpV.cells
theorem cellsQ_len (ls : List OpV) : (cellsQ ls).length = ls.length * 3 := by
 induction ls with
 | nil => rfl
 | cons s r ih => simp only [cellsQ, List.flatMap_cons, List.length_append, OpV.cells, List.length_cons, List.length_nil] at *; omega
theorem cellsQ_app (a b : List OpV) : cellsQ (a ++ b) = cellsQ a ++ cellsQ b := by simp [cellsQ]
theorem cellsQ_at (ls : List OpV) (k j : Nat) (hk : k < ls.length) (hj : j < 3) : (cellsQ ls)[k * 3 + j]? = (ls.getD k zeroQ).cells[j]? := by
 induction ls generalizing k with
 | nil => simp at hk
 | cons s r ih =>
  have e : cellsQ (s :: r) = s.cells ++ cellsQ r := by simp [cellsQ]
  have l3 : s.cells.length = 3 := rfl
  rw [e]
  cases k with
  | zero => rw [List.getElem?_append_left (by rw [l3]; omega)]; simp
  | succ k =>
   rw [List.getElem?_append_right (by rw [l3]; omega), l3]
   have := ih k (by simpa using hk)
   rw [show (k + 1) * 3 + j - 3 = k * 3 + j by omega, this]
   simp
theorem cellsQ_set (ls : List OpV) (k : Nat) (hk : k < ls.length) (t : OpV) :
  (((cellsQ ls).set (k * 3) (.int .i64 t.kd)).set (k * 3 + 1) (.int .i64 t.oid)).set (k * 3 + 2) (.int .i64 t.num) = cellsQ (ls.set k t) := by
 induction ls generalizing k with
 | nil => simp at hk
 | cons s r ih =>
  cases k with
  | zero => simp [cellsQ, OpV.cells]
  | succ k =>
   have := ih k (by simpa using hk)
   have e2 : ∀ x, cellsQ (s :: x) = s.cells ++ cellsQ x := fun x => by simp [cellsQ]
   have l3 : s.cells.length = 3 := rfl
   rw [e2, List.set_append_right _ _ (by rw [l3]; omega), List.set_append_right _ _ (by rw [l3]; omega), List.set_append_right _ _ (by rw [l3]; omega), l3, show (k + 1) * 3 - 3 = k * 3 by omega, show (k + 1) * 3 + 1 - 3 = k * 3 + 1 by omega, show (k + 1) * 3 + 2 - 3 = k * 3 + 2 by omega, this, List.set_cons_succ, e2]
def ReadsQ (w : World) (a : Option Addr) (ls : List OpV) : Prop := ls ≠ [] → ∃ b off, a = some ⟨b, off, none⟩ ∧ ∀ k, k < ls.length → w.cell? ⟨b, off + k * 3, none⟩ = some (.int .i64 (ls.getD k zeroQ).kd) ∧ w.cell? ⟨b, off + k * 3 + 1, none⟩ = some (.int .i64 (ls.getD k zeroQ).oid) ∧ w.cell? ⟨b, off + k * 3 + 2, none⟩ = some (.int .i64 (ls.getD k zeroQ).num)
theorem ReadsQ.nil (w : World) (a : Option Addr) : ReadsQ w a [] := fun h => absurd rfl h
theorem ReadsQ.below {w w' : World} {a : Option Addr} {ls : List OpV} (h : ReadsQ w a ls) (hb : Below w.heap.size w w') : ReadsQ w' a ls := by
 intro hne
 obtain ⟨b, off, ha, hc⟩ := h hne
 refine ⟨b, off, ha, fun k hk => ?_⟩
 obtain ⟨h0, h1, h2⟩ := hc k hk
 have hlt := block_lt h0
 exact ⟨by rw [hb.cell (p := ⟨b, off + k * 3, none⟩) hlt]; exact h0, by rw [hb.cell (p := ⟨b, off + k * 3 + 1, none⟩) hlt]; exact h1, by rw [hb.cell (p := ⟨b, off + k * 3 + 2, none⟩) hlt]; exact h2⟩
theorem ReadsQ.cases {w : World} {a : Option Addr} {ls : List OpV} (h : ReadsQ w a ls) : ls = [] ∨ ∃ b off, a = some ⟨b, off, none⟩ ∧ 0 < ls.length ∧ ∀ k, k < ls.length → w.cell? ⟨b, off + k * 3, none⟩ = some (.int .i64 (ls.getD k zeroQ).kd) ∧ w.cell? ⟨b, off + k * 3 + 1, none⟩ = some (.int .i64 (ls.getD k zeroQ).oid) ∧ w.cell? ⟨b, off + k * 3 + 2, none⟩ = some (.int .i64 (ls.getD k zeroQ).num) := by
 by_cases e : ls = []
 ·exact .inl e
 ·obtain ⟨b, off, ha, hc⟩ := h e
  exact .inr ⟨b, off, ha, List.length_pos_iff.2 e, hc⟩
def OwnQ (w : World) (lo hi : Nat) (a : Option Addr) (c : Nat) (ls : List OpV) : Prop :=
 w.ownsRow lo 73 3 (.slice a ls.length c) ls.length (cellsQ ls) ∧ hi ≤ w.heap.size ∧ ∀ k, (Value.slice a ls.length c).ownBlock = some k → k < hi
theorem OwnQ.lt {w : World} {lo hi : Nat} {a : Option Addr} {c : Nat} {ls : List OpV} (h : OwnQ w lo hi a c ls) : ∀ k, (Value.slice a ls.length c).ownBlock = some k → lo ≤ k ∧ k < hi := fun k hk => ⟨(h.1.lt k hk).1, h.2.2 k hk⟩
theorem OwnQ.touch {w w' : World} {lo hi : Nat} {a : Option Addr} {c : Nat} {ls : List OpV} {bl : List Nat} (h : OwnQ w lo hi a c ls) (ht : Touch bl w w') (hd : ∀ k, (Value.slice a ls.length c).ownBlock = some k → k ∉ bl) : OwnQ w' lo hi a c ls :=
 ⟨ownsRow_block h.1 (fun k hk => ht.block k (h.1.lt k hk).2 (hd k hk)), Nat.le_trans h.2.1 ht.size, h.2.2⟩
theorem OwnQ.within {w w' : World} {lo hi l r : Nat} {a : Option Addr} {c : Nat} {ls : List OpV} (h : OwnQ w lo hi a c ls) (hw : Within l r w w') (hd : hi ≤ l ∨ r ≤ lo) : OwnQ w' lo hi a c ls :=
 ⟨ownsRow_block h.1 (fun k hk => hw.block k (by have := h.2.2 k hk; have := h.2.1; omega) (by have := h.lt k hk; omega)), Nat.le_trans h.2.1 hw.size, h.2.2⟩
theorem OwnQ.below {w w' : World} {lo hi : Nat} {a : Option Addr} {c : Nat} {ls : List OpV} (h : OwnQ w lo hi a c ls) (hb : Below w.heap.size w w') : OwnQ w' lo hi a c ls :=
 h.within (Within.of_below (lo := w.heap.size) (hi := w.heap.size) hb) (.inl h.2.1)
theorem OwnQ.widen {w : World} {lo hi lo' hi' : Nat} {a : Option Addr} {c : Nat} {ls : List OpV} (h : OwnQ w lo hi a c ls) (h1 : lo' ≤ lo) (h2 : hi ≤ hi') (h3 : hi' ≤ w.heap.size) : OwnQ w lo' hi' a c ls :=
 ⟨ownsRow_base h.1 (fun k hk => by have := h.lt k hk; omega), h3, fun k hk => by have := h.lt k hk; omega⟩
theorem ownQ_nil (w : World) (lo hi : Nat) (h : hi ≤ w.heap.size) : OwnQ w lo hi none 0 [] := ⟨⟨by simp [cellsQ], .inl ⟨rfl, rfl⟩⟩, h, fun k hk => by cases hk⟩
theorem OwnQ.nocap {w : World} {lo hi : Nat} {a : Option Addr} {c : Nat} {ls : List OpV} (h : OwnQ w lo hi a c ls) : a = none → c = 0 := by
 intro ha
 rcases h.1.2 with ⟨hv, _⟩ | ⟨g, cap, cur, hv, _⟩
 ·simp only [Value.slice.injEq] at hv; exact hv.2.2
 ·simp [ha] at hv
theorem row_op {w : World} {base g n cap : Nat} {ls : List OpV} (h : w.ownsRow base 73 3 (.slice (some ⟨g, 0, none⟩) n cap) n (cellsQ ls)) (hn : ls.length = n) (k : Nat) (hk : k < n) :
  w.cell? ⟨g, k * 3, none⟩ = some (.int .i64 (ls.getD k zeroQ).kd) ∧ w.cell? ⟨g, k * 3 + 1, none⟩ = some (.int .i64 (ls.getD k zeroQ).oid) ∧ w.cell? ⟨g, k * 3 + 2, none⟩ = some (.int .i64 (ls.getD k zeroQ).num) ∧ (∀ i, w.frozen? ⟨g, i, none⟩ = false) := by
 have a0 := cellsQ_at ls k 0 (by omega) (by omega)
 have a1 := cellsQ_at ls k 1 (by omega) (by omega)
 have a2 := cellsQ_at ls k 2 (by omega) (by omega)
 simp only [OpV.cells, Nat.add_zero, List.getElem?_cons_zero, List.getElem?_cons_succ] at a0 a1 a2
 exact ⟨by rw [h.cellAt (k * 3) (by omega)]; exact a0, by rw [h.cellAt (k * 3 + 1) (by omega)]; exact a1, by rw [h.cellAt (k * 3 + 2) (by omega)]; exact a2, fun i => h.frozenAt i⟩
theorem row_storeQ {w : World} {base g n cap : Nat} {ls : List OpV} (h : w.ownsRow base 73 3 (.slice (some ⟨g, 0, none⟩) n cap) n (cellsQ ls)) (hn : ls.length = n) (k : Nat) (hk : k < n) (t : OpV) :
  ∃ W, Hid (((w.setCell ⟨g, k * 3, none⟩ (.int .i64 t.kd)).setCell ⟨g, k * 3 + 1, none⟩ (.int .i64 t.oid)).setCell ⟨g, k * 3 + 2, none⟩ (.int .i64 t.num) = W) ∧ W.ownsRow base 73 3 (.slice (some ⟨g, 0, none⟩) n cap) n (cellsQ (ls.set k t)) ∧ w.grownBy W (some g) := by
 have s1 := h.stored (k * 3) (.int .i64 t.kd)
 have s2 := s1.1.stored (k * 3 + 1) (.int .i64 t.oid)
 have s3 := s2.1.stored (k * 3 + 2) (.int .i64 t.num)
 refine ⟨_, rfl, ?_, grownBy_trans (grownBy_trans s1.2 s2.2) s3.2⟩
 have := s3.1
 rw [cellsQ_set ls k (by omega) t] at this
 exact this
theorem OwnQ.reads {w : World} {lo hi : Nat} {a : Option Addr} {c : Nat} {ls : List OpV} (h : OwnQ w lo hi a c ls) : ReadsQ w a ls := by
 intro hne
 rcases h.1.2 with ⟨_, h0⟩ | ⟨g, cap', cur, hv, hb, hg, hr⟩
 ·exact absurd (List.length_eq_zero_iff.1 h0) hne
 ·simp only [Value.slice.injEq] at hv
  obtain ⟨rfl, _, rfl⟩ := hv
  refine ⟨g, 0, rfl, fun k hk => ?_⟩
  obtain ⟨a0, a1, a2, _⟩ := row_op h.1 rfl k hk
  rw [Nat.zero_add]
  exact ⟨a0, a1, a2⟩
theorem toOp_any (l : OpV) (w : World) :
  Calls Try.prog 34 #[.agg l.cells.toArray] w fun e w' => e = .returned (.agg l.cells.toArray) ∧ Below w.heap.size w w' := by
 obtain ⟨x, y, z⟩ := l
 simp only [OpV.cells]
 obtain ⟨W, hW, b0, b1, b2, hbW, hsW⟩ := boxes3 w [.int .i64 x, .int .i64 y, .int .i64 z] [.int .i64 x, .int .i64 y, .int .i64 z] [.int .i64 x, .int .i64 y, .int .i64 z] 75 73 73
 obtain ⟨q0, q1, q2, _⟩ := b1.three
 clear b0 b2 hsW
 go_enter Try.func34, Try.ntmps34
 go_wp2
 rw [hW.out]
 exact bodyPost_ret (v := .agg #[.int .i64 x, .int .i64 y, .int .i64 z]) (by simp [results, Try.results34, go_sem, q0, q1, q2]) rfl ⟨rfl, hbW⟩
theorem zero_cellsQ (n : Nat) : (madeCells #[.int .i64 0, .int .i64 0, .int .i64 0] (n * 3)).toList = cellsQ (List.replicate n zeroQ) := by
 apply List.ext_getElem?
 intro i
 by_cases h : i < n * 3
 ·have e := cellsQ_at (List.replicate n zeroQ) (i / 3) (i % 3) (by simp; omega) (Nat.mod_lt _ (by omega))
  rw [show i / 3 * 3 + i % 3 = i by omega] at e
  rw [e]
  have hg : (List.replicate n zeroQ).getD (i / 3) zeroQ = zeroQ := by simp [List.getD, show i / 3 < n by omega]
  rw [hg]
  simp only [madeCells, Array.toList_map, List.getElem?_map, Array.toList_range, List.getElem?_range h, Option.map_some, OpV.cells, zeroQ]
  have : i % 3 < 3 := Nat.mod_lt _ (by omega)
  show some (#[Value.int .i64 0, .int .i64 0, .int .i64 0][i % 3]!) = _
  rcases (by omega : i % 3 = 0 ∨ i % 3 = 1 ∨ i % 3 = 2) with h' | h' | h' <;> rw [h'] <;> rfl
 ·rw [List.getElem?_eq_none (by simp [size_madeCells]; omega), List.getElem?_eq_none (by rw [cellsQ_len]; simp; omega)]
theorem made_op (n : Nat) : (madeCells (Value.agg #[.int .i64 0, .int .i64 0, .int .i64 0]).cells (n * 3)).toList = cellsQ (List.replicate n zeroQ) := zero_cellsQ n
def partQ (ls : List OpV) (k : Nat) : List OpV := ls.take k ++ List.replicate (ls.length - k) zeroQ
theorem partQ_len (ls : List OpV) (k : Nat) (h : k ≤ ls.length) : (partQ ls k).length = ls.length := by simp [partQ]; omega
theorem partQ_all (ls : List OpV) : partQ ls ls.length = ls := by simp [partQ]
theorem partQ_none (ls : List OpV) : partQ ls 0 = List.replicate ls.length zeroQ := by simp [partQ]
theorem partQ_set (ls : List OpV) (k : Nat) (h : k < ls.length) : (partQ ls k).set k (ls.getD k zeroQ) = partQ ls (k + 1) := by
 unfold partQ
 rw [List.set_append, if_neg (by simp; omega), List.take_succ_eq_append_getElem h]
 have e : ls.length - k = (ls.length - (k + 1)) + 1 := by omega
 have e2 : k - (List.take k ls).length = 0 := by simp; omega
 rw [e2, e, List.replicate_succ, List.set_cons_zero]
 simp only [List.getD, h, List.getElem?_eq_getElem, Option.getD_some, List.append_assoc, List.singleton_append]
theorem Try.infoOp : (Try.prog.info? 73).map (fun i => (i.zero, i.size, i.bytes)) = some (some (.agg #[.int .i64 0, .int .i64 0, .int .i64 0]), 3, 24) := by kernel_rfl
theorem toOpS_any (a : Option Addr) (cap : Nat) (ls : List OpV) (w : World) (hr : ReadsQ w a ls) (hl : ls.length ≤ 1099511627776) :
  Calls Try.prog 17 #[.slice a ls.length cap] w fun e w' => ∃ a' c', e = .returned (.slice a' ls.length c') ∧ OwnQ w' w.heap.size w'.heap.size a' c' ls ∧ Below w.heap.size w w' := by
 obtain ⟨i0, hi, hz0, hz1, hz2⟩ := info_parts Try.infoOp
 rcases hr.cases with rfl | ⟨b, off, rfl, hpos, hcell⟩
 ·go_enter Try.func17, Try.ntmps17
  go_wp2_with (at_make; refine wpList_make_full _ rfl _ _ 61 rfl w.heap.size 73 i0 (.agg #[.int .i64 0, .int .i64 0, .int .i64 0]) 3 Try.underlying61 hi hz0 hz1 _ _ _ _ 0 rfl rfl (by simp) (by simp) (by omega) (by simp [maxLen]) (Nat.le_refl _) ?_)
  intro w0 hown0 hgrow0
  go_wp2
  refine wp_loop_rounds 1 ?_
  rw [rounds_succ]
  go_wp2
  go_ret
  have ho : w0.ownsRow w.heap.size 73 3 (.slice (some ⟨w.heap.size, 0, none⟩) 0 0) 0 (cellsQ []) := by
   have e := made_op 0
   simp only [List.replicate_zero] at e
   rw [← e]
   exact hown0
  exact ⟨_, _, rfl, ⟨ho, Nat.le_refl _, fun k hk => (ho.lt k hk).2⟩, (Below.refl _ _).grown hgrow0 (Nat.le_refl _) (fun k h => by cases h)⟩
 ·have hbB : b < w.heap.size := block_lt (hcell 0 hpos).1
  go_enter Try.func17, Try.ntmps17
  go_wp2_with (at_make; refine wpList_make_full _ rfl _ _ 61 rfl w.heap.size 73 i0 (.agg #[.int .i64 0, .int .i64 0, .int .i64 0]) 3 Try.underlying61 hi hz0 hz1 _ _ _ _ ls.length rfl rfl rfl rfl (by rw [hz2]; omega) (by simp [maxLen]; omega) (Nat.le_refl _) ?_)
  intro w0 hown0 hgrow0
  have hown1 : w0.ownsRow w.heap.size 73 3 (.slice (some ⟨w.heap.size, 0, none⟩) ls.length ls.length) ls.length (cellsQ (partQ ls 0)) := by
   rw [partQ_none, ← made_op]
   exact hown0
  have hb0 : Below w.heap.size w w0 := (Below.refl _ _).grown hgrow0 (Nat.le_refl _) (fun k h => by cases h)
  clear hown0 hgrow0
  go_wp2
  go_loopw [4] (fun i wr => ∃ k : Nat, k ≤ ls.length ∧ i = .int .i64 k ∧ wr.ownsRow w.heap.size 73 3 (.slice (some ⟨w.heap.size, 0, none⟩) ls.length ls.length) ls.length (cellsQ (partQ ls k)) ∧ Below w.heap.size w wr)
   (fun i _ => ls.length - (intOf i).toNat)
  case atStart => exact ⟨0, Nat.zero_le _, rfl, hown1, hb0⟩
  case round =>
   obtain ⟨k, hk, rfl, hown, hnx⟩ := hrel
   by_cases hlt : k < ls.length
   ·obtain ⟨c0, c1, c2⟩ := hcell k hlt
    have d0 : wr.cell? ⟨b, off + k * 3, none⟩ = _ := (hnx.cell (by exact hbB)).trans c0
    have d1 : wr.cell? ⟨b, off + k * 3 + 1, none⟩ = _ := (hnx.cell (by exact hbB)).trans c1
    have d2 : wr.cell? ⟨b, off + k * 3 + 2, none⟩ = _ := (hnx.cell (by exact hbB)).trans c2
    have hp := partQ_len ls k hk
    have HSET : Hid ((partQ ls k).set k (ls.getD k zeroQ) = partQ ls (k + 1)) := partQ_set ls k hlt
    clear c0 c1 c2 hcell hown1 hb0
    generalize ls.getD k zeroQ = z at *
    have C := toOp_any z wr
    simp only [OpV.cells] at C
    go_wp2_with fail
    refine C.mono ?_
    clear C d0 d1 d2
    rintro e w1 ⟨rfl, hb1⟩
    have hownA := ownsRow_block hown (fun j hj => hb1.block j (hown.lt j hj).2)
    obtain ⟨x0, x1, x2, hfz⟩ := row_op hownA hp k hlt
    have f0 := hfz (k * 3)
    have f1 := hfz (k * 3 + 1)
    have f2 := hfz (k * 3 + 2)
    obtain ⟨W2, hW2, ho2, hg2⟩ := row_storeQ hownA hp k hlt z
    rw [HSET.out] at ho2
    have hB2 : Below w.heap.size w W2 := (hnx.trans (hb1.mono hnx.size)).grown hg2 (by have := hnx.size; have := hb1.size; omega) (fun j hj => by cases hj; omega)
    have HH : Hid (_ ∧ _) := ⟨ho2, hB2⟩
    clear ho2 hB2 hg2 hfz hownA hown hb1 hnx HSET
    generalize (partQ ls k).getD k zeroQ = old at *
    go_wp2_with fail
    rw [hW2.out]
    go_roundw
    case rel => exact ⟨k + 1, by omega, by go_num, HH.out.1, HH.out.2⟩
    case measure => simp [intOf]; omega
   ·have HE : Hid (wr.ownsRow w.heap.size 73 3 (.slice (some ⟨w.heap.size, 0, none⟩) ls.length ls.length) ls.length (cellsQ ls)) := by
     have e : k = ls.length := by omega
     rw [e, partQ_all] at hown
     exact hown
    go_wp2
    go_ret
    exact ⟨_, _, rfl, ⟨HE.out, Nat.le_refl _, fun k hk => (HE.out.lt k hk).2⟩, hnx⟩
theorem eqOp_same (l : OpV) (w : World) :
  Calls Try.prog 42 #[.agg l.cells.toArray, .agg l.cells.toArray] w fun e w' => e = .returned (.bool true) ∧ Below w.heap.size w w' := by
 obtain ⟨x, y, z⟩ := l
 simp only [OpV.cells]
 obtain ⟨W, hW, b0, b1, hbW, hsW⟩ := boxes2 w [.int .i64 x, .int .i64 y, .int .i64 z] [.int .i64 x, .int .i64 y, .int .i64 z] 73 73
 clear b0 b1 hsW
 go_enter Try.func42, Try.ntmps42
 go_wp2
 rw [hW.out]
 go_ret
 exact ⟨rfl, hbW⟩
theorem eqOpS_same (a b : Option Addr) (ca cb : Nat) (ls : List OpV) (w : World) (ha : ReadsQ w a ls) (hb : ReadsQ w b ls) (hl : ls.length ≤ 1099511627776) :
  Calls Try.prog 24 #[.slice a ls.length ca, .slice b ls.length cb] w fun e w' => e = .returned (.bool true) ∧ Below w.heap.size w w' := by
 rcases ha.cases with rfl | ⟨b1, o1, rfl, hpos, hc1⟩
 ·go_enter Try.func24, Try.ntmps24
  go_wp2
  refine wp_loop_rounds 1 ?_
  rw [rounds_succ]
  go_wp2
  go_ret
  exact ⟨rfl, Below.refl _ _⟩
 ·rcases hb.cases with rfl | ⟨b2, o2, rfl, _, hc2⟩
  ·simp at hpos
  ·go_enter Try.func24, Try.ntmps24
   go_wp2
   go_loopw [5] (fun i wr => ∃ k : Nat, k ≤ ls.length ∧ i = .int .i64 k ∧ Below w.heap.size w wr) (fun i _ => ls.length - (intOf i).toNat)
   case atStart => exact ⟨0, Nat.zero_le _, rfl, Below.refl _ _⟩
   case round =>
    obtain ⟨k, hk, rfl, hbl⟩ := hrel
    by_cases hlt : k < ls.length
    ·have h1 := hc1 k hlt
     have h2 := hc2 k hlt
     clear hc1 hc2
     generalize ls.getD k zeroQ = z at *
     have HS : Hid (∀ w1, Below w.heap.size w w1 → (w1.cell? ⟨b1, o1 + k * 3, none⟩ = some (.int .i64 z.kd) ∧ w1.cell? ⟨b1, o1 + k * 3 + 1, none⟩ = some (.int .i64 z.oid) ∧ w1.cell? ⟨b1, o1 + k * 3 + 2, none⟩ = some (.int .i64 z.num)) ∧ (w1.cell? ⟨b2, o2 + k * 3, none⟩ = some (.int .i64 z.kd) ∧ w1.cell? ⟨b2, o2 + k * 3 + 1, none⟩ = some (.int .i64 z.oid) ∧ w1.cell? ⟨b2, o2 + k * 3 + 2, none⟩ = some (.int .i64 z.num))) := fun w1 hh =>
      ⟨⟨(hh.cell (block_lt h1.1)).trans h1.1, (hh.cell (block_lt h1.2.1)).trans h1.2.1, (hh.cell (block_lt h1.2.2)).trans h1.2.2⟩, (hh.cell (block_lt h2.1)).trans h2.1, (hh.cell (block_lt h2.2.1)).trans h2.2.1, (hh.cell (block_lt h2.2.2)).trans h2.2.2⟩
     have hh := HS.out wr hbl
     clear h1 h2
     go_wp2_with fail
     go_region_held3 (fun w1 => (w1.cell? ⟨b1, o1 + k * 3, none⟩ = some (.int .i64 z.kd) ∧ w1.cell? ⟨b1, o1 + k * 3 + 1, none⟩ = some (.int .i64 z.oid) ∧ w1.cell? ⟨b1, o1 + k * 3 + 2, none⟩ = some (.int .i64 z.num)) ∧ (w1.cell? ⟨b2, o2 + k * 3, none⟩ = some (.int .i64 z.kd) ∧ w1.cell? ⟨b2, o2 + k * 3 + 1, none⟩ = some (.int .i64 z.oid) ∧ w1.cell? ⟨b2, o2 + k * 3 + 2, none⟩ = some (.int .i64 z.num)))
      (first | exact HS.out _ hw2 | go_keep | fail)
      ((first | (go_at_call 42; refine (eqOp_same z _).mono ?_; rintro e w2 ⟨rfl, hb2⟩; have hw2 : Below w.heap.size w w2 := (hbl.drew).trans (hb2.mono hbl.size)) | fail))
     all_goals
      go_wp2_with fail
      go_roundw
      case rel => exact ⟨k + 1, by omega, by go_num, hw2⟩
      case measure => simp [intOf]; omega
    ·go_wp2
     go_ret
     exact ⟨rfl, hbl⟩
end Go.Proofs.Ytgnkplbefclpgaa
namespace Go.Proofs.Ytgnkplbefclpgaa
open Go.RowKit
structure JobA where
 ops : List OpV
 a : Option Addr
 c : Nat
def JobA.cell (j : JobA) : Value := .slice j.a j.ops.length j.c
def zeroJ : JobA := ⟨[], none, 0⟩
def cellsJ (js : List JobA) : List Value := js.map JobA.cell
def opsJ (js : List JobA) : List (List OpV) := js.map JobA.ops
theorem cellsJ_len (js : List JobA) : (cellsJ js).length = js.length := by simp [cellsJ]
theorem opsJ_len (js : List JobA) : (opsJ js).length = js.length := by simp [opsJ]
theorem opsJ_at (js : List JobA) (k : Nat) : (opsJ js).getD k [] = (js.getD k zeroJ).ops := by
 simp only [opsJ, List.getD, List.getElem?_map]
 cases js[k]? <;> rfl
theorem cellsJ_app (a b : List JobA) : cellsJ (a ++ b) = cellsJ a ++ cellsJ b := by simp [cellsJ]
theorem cellsJ_cons (j : JobA) (b : List JobA) : cellsJ (j :: b) = j.cell :: cellsJ b := rfl
theorem cellsJ_at (js : List JobA) (k : Nat) (hk : k < js.length) : (cellsJ js)[k]? = some (js.getD k zeroJ).cell := by
 simp [cellsJ, List.getD, hk]
theorem jobD_mem (js : List JobA) (k : Nat) (hk : k < js.length) : js.getD k zeroJ ∈ js := by
 have e : js.getD k zeroJ = js[k] := by simp [List.getD, hk]
 rw [e]
 exact List.getElem_mem hk
def ReadsJ (w : World) (a : Option Addr) (js : List JobA) : Prop := js ≠ [] → ∃ b off, a = some ⟨b, off, none⟩ ∧ ∀ k, k < js.length → w.cell? ⟨b, off + k, none⟩ = some (js.getD k zeroJ).cell ∧ ReadsQ w (js.getD k zeroJ).a (js.getD k zeroJ).ops
theorem ReadsJ.nil (w : World) (a : Option Addr) : ReadsJ w a [] := fun h => absurd rfl h
theorem ReadsJ.below {w w' : World} {a : Option Addr} {js : List JobA} (h : ReadsJ w a js) (hb : Below w.heap.size w w') : ReadsJ w' a js := by
 intro hne
 obtain ⟨b, off, ha, hc⟩ := h hne
 refine ⟨b, off, ha, fun k hk => ?_⟩
 obtain ⟨h0, h1⟩ := hc k hk
 exact ⟨by rw [hb.cell (p := ⟨b, off + k, none⟩) (block_lt h0)]; exact h0, h1.below hb⟩
theorem ReadsJ.cases {w : World} {a : Option Addr} {js : List JobA} (h : ReadsJ w a js) : js = [] ∨ ∃ b off, a = some ⟨b, off, none⟩ ∧ 0 < js.length ∧ ∀ k, k < js.length → w.cell? ⟨b, off + k, none⟩ = some (js.getD k zeroJ).cell ∧ ReadsQ w (js.getD k zeroJ).a (js.getD k zeroJ).ops := by
 by_cases e : js = []
 ·exact .inl e
 ·obtain ⟨b, off, ha, hc⟩ := h e
  exact .inr ⟨b, off, ha, List.length_pos_iff.2 e, hc⟩
def JobA.blocks (j : JobA) : List Nat := j.cell.ownBlock.toList
structure OwnJ (w : World) (lo hi : Nat) (a : Option Addr) (c : Nat) (js : List JobA) : Prop where
 row : w.ownsRow lo 61 1 (.slice a js.length c) js.length (cellsJ js)
 top : hi ≤ w.heap.size
 blk : ∀ k, (Value.slice a js.length c).ownBlock = some k → k < hi
 each : ∀ j ∈ js, OwnQ w lo hi j.a j.c j.ops
 apart : ((Value.slice a js.length c).ownBlock.toList ++ js.flatMap JobA.blocks).Nodup
def blocksJ (a : Option Addr) (c : Nat) (js : List JobA) : List Nat := (Value.slice a js.length c).ownBlock.toList ++ js.flatMap JobA.blocks
theorem jobBlocks_lt {w : World} {lo hi : Nat} {j : JobA} (h : OwnQ w lo hi j.a j.c j.ops) : ∀ k ∈ j.blocks, lo ≤ k ∧ k < hi := fun k hk => h.lt k (Option.mem_toList.1 hk)
theorem OwnJ.blocks_lt {w : World} {lo hi : Nat} {a : Option Addr} {c : Nat} {js : List JobA} (h : OwnJ w lo hi a c js) : ∀ k ∈ blocksJ a c js, lo ≤ k ∧ k < hi := by
 intro k hk
 simp only [blocksJ, List.mem_append, List.mem_flatMap, Option.mem_toList] at hk
 rcases hk with h1 | ⟨r, hr, h1⟩
 ·exact ⟨(h.row.lt k h1).1, h.blk k h1⟩
 ·exact jobBlocks_lt (h.each r hr) k h1
theorem OwnJ.touch {w w' : World} {lo hi : Nat} {a : Option Addr} {c : Nat} {js : List JobA} {bl : List Nat} (h : OwnJ w lo hi a c js) (ht : Touch bl w w') (hd : ∀ k ∈ blocksJ a c js, k ∉ bl) : OwnJ w' lo hi a c js :=
 ⟨ownsRow_block h.row (fun k hk => ht.block k (h.row.lt k hk).2 (hd k (List.mem_append.2 (.inl (Option.mem_toList.2 hk))))), Nat.le_trans h.top ht.size, h.blk, fun r hr => (h.each r hr).touch ht (fun k hk => hd k (List.mem_append.2 (.inr (List.mem_flatMap.2 ⟨r, hr, Option.mem_toList.2 hk⟩)))), h.apart⟩
theorem OwnJ.within {w w' : World} {lo hi l r : Nat} {a : Option Addr} {c : Nat} {js : List JobA} (h : OwnJ w lo hi a c js) (hw : Within l r w w') (hd : hi ≤ l ∨ r ≤ lo) : OwnJ w' lo hi a c js :=
 ⟨ownsRow_block h.row (fun k hk => hw.block k (by have := h.blk k hk; have := h.top; omega) (by have := h.blk k hk; have := (h.row.lt k hk).1; omega)), Nat.le_trans h.top hw.size, h.blk, fun x hx => (h.each x hx).within hw hd, h.apart⟩
theorem OwnJ.below {w w' : World} {lo hi : Nat} {a : Option Addr} {c : Nat} {js : List JobA} (h : OwnJ w lo hi a c js) (hb : Below w.heap.size w w') : OwnJ w' lo hi a c js :=
 h.within (Within.of_below (lo := w.heap.size) (hi := w.heap.size) hb) (.inl h.top)
theorem OwnJ.widen {w : World} {lo hi lo' hi' : Nat} {a : Option Addr} {c : Nat} {js : List JobA} (h : OwnJ w lo hi a c js) (h1 : lo' ≤ lo) (h2 : hi ≤ hi') (h3 : hi' ≤ w.heap.size) : OwnJ w lo' hi' a c js :=
 ⟨ownsRow_base h.row (fun k hk => by have := (h.row.lt k hk).1; omega), h3, fun k hk => by have := h.blk k hk; omega, fun x hx => (h.each x hx).widen h1 h2 h3, h.apart⟩
theorem ownJ_nil (w : World) (lo hi : Nat) (h : hi ≤ w.heap.size) : OwnJ w lo hi none 0 [] := ⟨⟨by simp [cellsJ], .inl ⟨rfl, rfl⟩⟩, h, (fun k hk => by cases hk), (fun r hr => by simp at hr), by simp [Value.ownBlock]⟩
theorem OwnJ.nocap {w : World} {lo hi : Nat} {a : Option Addr} {c : Nat} {js : List JobA} (h : OwnJ w lo hi a c js) : a = none → c = 0 := by
 intro ha
 rcases h.row.2 with ⟨hv, _⟩ | ⟨g, cap, cur, hv, _⟩
 ·simp only [Value.slice.injEq] at hv; exact hv.2.2
 ·simp [ha] at hv
theorem OwnJ.reads {w : World} {lo hi : Nat} {a : Option Addr} {c : Nat} {js : List JobA} (h : OwnJ w lo hi a c js) : ReadsJ w a js := by
 intro hne
 rcases h.row.2 with ⟨_, h0⟩ | ⟨g, cap', cur, hv, hb, hg, hr⟩
 ·exact absurd (List.length_eq_zero_iff.1 h0) hne
 ·simp only [Value.slice.injEq] at hv
  obtain ⟨rfl, _, rfl⟩ := hv
  refine ⟨g, 0, rfl, fun k hk => ?_⟩
  rw [Nat.zero_add]
  refine ⟨?_, (h.each _ (jobD_mem js k hk)).reads⟩
  rw [h.row.cellAt k (by omega), cellsJ_at js k hk]
theorem OwnJ.fill {w : World} {lo hi g c : Nat} {A B : List JobA} {z : JobA} (h : OwnJ w lo hi (some ⟨g, 0, none⟩) c (A ++ z :: B)) (q : JobA) {l u : Nat} (hq : OwnQ w l u q.a q.c q.ops) (hl : hi ≤ l) (hlo : lo ≤ hi) (hu : u ≤ w.heap.size) :
  ∃ W, Hid (w.setCell ⟨g, A.length, none⟩ q.cell = W) ∧ OwnJ W lo (max hi u) (some ⟨g, 0, none⟩) c (A ++ q :: B) ∧ Touch [g] w W ∧ W.heap.size = w.heap.size := by
 have hrow := h.row
 rw [cellsJ_app, cellsJ_cons, List.length_append, List.length_cons] at hrow
 have hg : lo ≤ g ∧ g < hi := ⟨(hrow.lt g rfl).1, h.blk g rfl⟩
 obtain ⟨h1, h2⟩ := hrow.stored A.length q.cell
 rw [show A.length = (cellsJ A).length from (cellsJ_len A).symm, List.set_append_right _ _ (Nat.le_refl _), Nat.sub_self, List.set_cons_zero, cellsJ_len] at h1
 have ht : Touch [g] w (w.setCell ⟨g, A.length, none⟩ q.cell) := Touch.of_grown h2 (fun k hk => by cases hk; simp)
 have hap := h.apart
 simp only [List.flatMap_append, List.flatMap_cons, Value.ownBlock, Option.toList, List.singleton_append, List.nodup_cons, List.nodup_append, List.mem_append, not_or] at hap
 obtain ⟨⟨n1, n2, n3⟩, a1, ⟨a2, a3, a4⟩, a5⟩ := hap
 have hqb := jobBlocks_lt (j := q) hq
 have hA : ∀ x ∈ A.flatMap JobA.blocks, lo ≤ x ∧ x < hi := fun x hx => by
  obtain ⟨r, hr, hx⟩ := List.mem_flatMap.1 hx
  exact jobBlocks_lt (h.each r (by simp [hr])) x hx
 have hB : ∀ x ∈ B.flatMap JobA.blocks, lo ≤ x ∧ x < hi := fun x hx => by
  obtain ⟨r, hr, hx⟩ := List.mem_flatMap.1 hx
  exact jobBlocks_lt (h.each r (by simp [hr])) x hx
 have hsz : (w.setCell ⟨g, A.length, none⟩ q.cell).heap.size = w.heap.size := by simp
 refine ⟨_, rfl, ⟨?_, ?_, fun k hk => ?_, fun r hr => ?_, ?_⟩, ht, hsz⟩
 ·rw [cellsJ_app, cellsJ_cons, List.length_append, List.length_cons]
  exact h1
 ·rw [hsz]
  have := h.top
  omega
 ·cases hk
  show g < max hi u
  omega
 ·rcases List.mem_append.1 hr with hr | hr
  ·exact ((h.each r (by simp [hr])).touch ht (fun k hk hk' => n1 (by rw [← List.mem_singleton.1 hk']; exact List.mem_flatMap.2 ⟨r, hr, Option.mem_toList.2 hk⟩))).widen (Nat.le_refl _) (by omega) (by rw [hsz]; have := h.top; omega)
  ·rcases List.mem_cons.1 hr with rfl | hr
   ·exact (hq.touch ht (fun k hk hk' => by have := hq.lt k hk; have := List.mem_singleton.1 hk'; omega)).widen (by omega) (by omega) (by rw [hsz]; have := h.top; omega)
   ·exact ((h.each r (by simp [hr])).touch ht (fun k hk hk' => n3 (by rw [← List.mem_singleton.1 hk']; exact List.mem_flatMap.2 ⟨r, hr, Option.mem_toList.2 hk⟩))).widen (Nat.le_refl _) (by omega) (by rw [hsz]; have := h.top; omega)
 ·have hqn : q.blocks.Nodup := by
   unfold JobA.blocks
   cases q.cell.ownBlock <;> simp
  simp only [List.flatMap_append, List.flatMap_cons, Value.ownBlock, Option.toList, List.singleton_append, List.nodup_cons, List.nodup_append, List.mem_append, not_or]
  refine ⟨⟨n1, fun hk => by have := hqb g hk; omega, n3⟩, a1, ⟨hqn, a3, fun x hx y hy e => by have := hqb x hx; have := hB y hy; omega⟩, fun x hx y hy e => ?_⟩
  rcases hy with hy | hy
  ·have := hqb y hy; have := hA x hx; omega
  ·exact a5 x hx y (.inr hy) e
theorem Try.infoOps : (Try.prog.info? 61).map (fun i => (i.zero, i.size, i.bytes)) = some (some (.slice none 0 0), 1, 24) := by kernel_rfl
theorem made_jobs (n : Nat) : (madeCells (Value.slice none 0 0).cells (n * 1)).toList = cellsJ (List.replicate n zeroJ) := by
 apply List.ext_getElem?
 intro i
 by_cases h : i < n
 ·rw [cellsJ_at _ _ (by simpa using h)]
  have hg : (List.replicate n zeroJ).getD i zeroJ = zeroJ := by simp [List.getD, h]
  rw [hg]
  simp only [madeCells, Array.toList_map, List.getElem?_map, Array.toList_range, List.getElem?_range (show i < n * 1 by omega), Option.map_some]
  show some (#[Value.slice none 0 0][i % 1]!) = _
  rw [Nat.mod_one]
  rfl
 ·rw [List.getElem?_eq_none (by simp [size_madeCells]; omega), List.getElem?_eq_none (by rw [cellsJ_len]; simp; omega)]
theorem ownJ_made {w : World} {lo g n : Nat} (h : w.ownsRow lo 61 1 (.slice (some ⟨g, 0, none⟩) n n) n (cellsJ (List.replicate n zeroJ))) : OwnJ w lo w.heap.size (some ⟨g, 0, none⟩) n (List.replicate n zeroJ) := by
 refine ⟨by rw [List.length_replicate]; exact h, Nat.le_refl _, fun k hk => ?_, fun j hj => ?_, ?_⟩
 ·exact (h.lt k (by rw [List.length_replicate] at hk; exact hk)).2
 ·rw [List.eq_of_mem_replicate hj]
  exact ownQ_nil _ _ _ (Nat.le_refl _)
 ·have e : (List.replicate n zeroJ).flatMap JobA.blocks = [] := by
   rw [List.flatMap_eq_nil_iff]
   intro x hx
   rw [List.eq_of_mem_replicate hx]
   rfl
  rw [e]
  simp [Value.ownBlock]
end Go.Proofs.Ytgnkplbefclpgaa