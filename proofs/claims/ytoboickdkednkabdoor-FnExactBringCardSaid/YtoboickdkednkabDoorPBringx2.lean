/- Several texts in one, in their order. -/
import Derived.Test.YtoboickdkednkabDoorPBringx1
import Derived.Test.YtoboickdkednkabDoorProg
import Derived.Laws.AppendOwnNone
import Derived.Deep.QuietTactic
import Derived.BigQuiet
import Derived.WalkSmall
import Derived.Deep.RegionHeld3
import Derived.Deep.MidRow
set_option maxHeartbeats 8000000
set_option maxRecDepth 100000
namespace Go.Proofs.YtoboickdkednkabDoor
open Go.RowKit
theorem eqObj_same (o : ObjV) (aI : Option Addr) (cI : Nat) (aR : Option Addr) (cR : Nat) (bI : Option Addr) (dI : Nat) (bR : Option Addr) (dR : Nat) (w : World) (ha : ReadsO w aI cI aR cR o) (hb : ReadsO w bI dI bR dR o) (hlI : o.ints.length ≤ 1099511627776) (hlR : o.refs.length ≤ 1099511627776) :
  Calls Tryd.prog 63 #[.agg #[.int .i64 o.kind, .slice aI o.ints.length cI, .slice aR o.refs.length cR], .agg #[.int .i64 o.kind, .slice bI o.ints.length dI, .slice bR o.refs.length dR]] w fun e w' => e = .returned (.bool true) ∧ Below w.heap.size w w' := by
 obtain ⟨k, ints, refs⟩ := o
 obtain ⟨haI, haR, _, _⟩ := ha
 obtain ⟨hbI, hbR, _, _⟩ := hb
 simp only at *
 obtain ⟨W, hW, b0, b1, hbW, hsW⟩ := boxes2 w [.int .i64 k, .slice aI ints.length cI, .slice aR refs.length cR] [.int .i64 k, .slice bI ints.length dI, .slice bR refs.length dR] 38 38
 go_enter Tryd.func63, Tryd.ntmps63
 go_wp2_with fail
 rw [hW.out]
 refine (eqIntS_same aI bI cI dI ints W (haI.below hbW) (hbI.below hbW) hlI).mono ?_
 rintro e w1 ⟨rfl, n1, rfl⟩
 have c0 := (b0.drewN n1).cell 2 _ rfl
 have c1 := (b1.drewN n1).cell 2 _ rfl
 have hb1 : Below w.heap.size w (W.drewN n1) := below_drewN hbW n1
 go_wp2_with fail
 refine (eqIntS_same aR bR cR dR refs (W.drewN n1) (haR.below hb1) (hbR.below hb1) hlR).mono ?_
 rintro e w2 ⟨rfl, n2, rfl⟩
 go_wp2
 go_ret
 exact ⟨rfl, below_drewN hbW (n1 + n2)⟩
def markO (o : ObjV) (k0 : Int) : ObjV := ⟨o.kind, marksI k0 o.ints.length, marksI (k0 + o.ints.length) o.refs.length⟩
def OwnB (w : World) (base : Nat) (a : Option Addr) (c : Nat) (ys : List Int) : Prop :=
 (∀ z ∈ ys, 0 ≤ z ∧ z < 256) ∧ w.ownsRow base 5 1 (.slice a ys.length c) ys.length (ys.map (Value.int .u8))
theorem OwnB.reads {w : World} {base : Nat} {a : Option Addr} {c : Nat} {ys : List Int} (h : OwnB w base a c ys) : Reads w a ys := Reads.of_own h.1 h.2
theorem OwnB.nocap {w : World} {base : Nat} {a : Option Addr} {c : Nat} {ys : List Int} (h : OwnB w base a c ys) : a = none → c = 0 := by
 intro ha
 rcases h.2.2 with ⟨hv, _⟩ | ⟨g, cap, cur, hv, _⟩
 ·simp only [Value.slice.injEq] at hv; exact hv.2.2
 ·simp [ha] at hv
theorem OwnB.below {w w' : World} {base : Nat} {a : Option Addr} {c : Nat} {ys : List Int} (h : OwnB w base a c ys) (hb : Below w.heap.size w w') : OwnB w' base a c ys := by
 refine ⟨h.1, h.2.1, ?_⟩
 rcases h.2.2 with h0 | ⟨g, cap, cur, hv, hg, hgg, hr⟩
 ·exact .inl h0
 ·exact .inr ⟨g, cap, cur, hv, hg, by rw [hb.block g (Array.getElem?_eq_some_iff.1 hgg).1]; exact hgg, hr⟩
theorem OwnB.alloc {w : World} {base : Nat} {a : Option Addr} {c : Nat} {ys : List Int} (h : OwnB w base a c ys) (o : Obj) : OwnB (w.alloc o) base a c ys := ⟨h.1, h.2.alloc o⟩
theorem OwnB.base {w : World} {base base' : Nat} {a : Option Addr} {c : Nat} {ys : List Int} (h : OwnB w base a c ys) (hb : base' ≤ base) : OwnB w base' a c ys := by
 refine ⟨h.1, h.2.1, ?_⟩
 rcases h.2.2 with h0 | ⟨g, cap, cur, hv, hg, hr⟩
 ·exact .inl h0
 ·exact .inr ⟨g, cap, cur, hv, by omega, hr⟩
theorem Reads.alloc {w : World} {a : Option Addr} {zs : List Int} (h : Reads w a zs) (o : Obj) : Reads (w.alloc o) a zs := h.below ((Below.refl _ _).alloc (Nat.le_refl _) o)
def marks (k0 : Int) (n : Nat) : List Int := (List.range n).map fun i : Nat => (k0 + i) % 256
def part (zs : List Int) (k : Nat) : List Int := zs.take k ++ List.replicate (zs.length - k) 0
theorem OwnB.kept {w w' : World} {base : Nat} {a : Option Addr} {c : Nat} {ys : List Int} {row : Option Nat} (h : OwnB w base a c ys) (hg : w.grownBy w' row)
  (hne : ∀ k, (Value.slice a ys.length c).ownBlock = some k → row ≠ some k) : OwnB w' base a c ys := by
 refine ⟨h.1, h.2.kept hg ?_⟩
 cases hv : (Value.slice a ys.length c).ownBlock with
 | none => exact .inl rfl
 | some k => exact .inr fun e => hne k hv e.symm
theorem OwnB.drewN {w : World} {base : Nat} {a : Option Addr} {c : Nat} {ys : List Int} (h : OwnB w base a c ys) (n : Nat) : OwnB (w.drewN n) base a c ys := h.below (below_drewN (Below.refl _ _) n)
theorem OwnB.lt {w : World} {base : Nat} {a : Option Addr} {c : Nat} {ys : List Int} (h : OwnB w base a c ys) : ∀ k, (Value.slice a ys.length c).ownBlock = some k → base ≤ k ∧ k < w.heap.size := h.2.lt
def OwnR (w : World) (lo hi : Nat) (a : Option Addr) (c : Nat) (ys : List Int) : Prop := OwnB w lo a c ys ∧ hi ≤ w.heap.size ∧ ∀ k, (Value.slice a ys.length c).ownBlock = some k → k < hi
theorem OwnR.lt {w : World} {lo hi : Nat} {a : Option Addr} {c : Nat} {ys : List Int} (h : OwnR w lo hi a c ys) : ∀ k, (Value.slice a ys.length c).ownBlock = some k → lo ≤ k ∧ k < hi := fun k hk => ⟨(h.1.2.lt k hk).1, h.2.2 k hk⟩
theorem OwnR.reads {w : World} {lo hi : Nat} {a : Option Addr} {c : Nat} {ys : List Int} (h : OwnR w lo hi a c ys) : Reads w a ys := h.1.reads
theorem OwnR.within {w w' : World} {lo hi l r : Nat} {a : Option Addr} {c : Nat} {ys : List Int} (h : OwnR w lo hi a c ys) (hw : Within l r w w') (hd : hi ≤ l ∨ r ≤ lo) : OwnR w' lo hi a c ys :=
 ⟨⟨h.1.1, ownsRow_block h.1.2 (fun k hk => hw.block k (by have := h.2.2 k hk; have := h.2.1; omega) (by have := h.lt k hk; omega))⟩, Nat.le_trans h.2.1 hw.size, h.2.2⟩
theorem OwnR.below {w w' : World} {lo hi : Nat} {a : Option Addr} {c : Nat} {ys : List Int} (h : OwnR w lo hi a c ys) (hb : Below w.heap.size w w') : OwnR w' lo hi a c ys :=
 h.within (Within.of_below (lo := w.heap.size) (hi := w.heap.size) hb) (.inl h.2.1)
structure Touch (bl : List Nat) (w w' : World) : Prop where
 os : w'.os = w.os
 tape : w'.tape = w.tape
 output : w'.output = w.output
 size : w.heap.size ≤ w'.heap.size
 block : ∀ k, k < w.heap.size → k ∉ bl → w'.heap[k]? = w.heap[k]?
theorem Touch.refl (bl : List Nat) (w : World) : Touch bl w w := ⟨rfl, rfl, rfl, Nat.le_refl _, fun _ _ _ => rfl⟩
theorem Touch.trans {bl : List Nat} {a b c : World} (h : Touch bl a b) (k : Touch bl b c) : Touch bl a c :=
 ⟨k.os.trans h.os, k.tape.trans h.tape, k.output.trans h.output, Nat.le_trans h.size k.size, fun i hi hn => (k.block i (Nat.lt_of_lt_of_le hi h.size) hn).trans (h.block i hi hn)⟩
theorem Touch.mono {bl bl' : List Nat} {w w' : World} (h : Touch bl w w') (hs : ∀ k ∈ bl, k ∈ bl') : Touch bl' w w' :=
 ⟨h.os, h.tape, h.output, h.size, fun k hk hn => h.block k hk (fun hh => hn (hs k hh))⟩
theorem Touch.of_below {bl : List Nat} {w w' : World} (h : Below w.heap.size w w') : Touch bl w w' := ⟨h.os, h.tape, h.output, h.size, fun k hk _ => h.block k hk⟩
theorem Touch.of_grown {bl : List Nat} {w w' : World} {row : Option Nat} (h : w.grownBy w' row) (hr : ∀ k, row = some k → k ∈ bl) : Touch bl w w' :=
 ⟨h.os, h.tape, h.output, h.size, fun k hk hn => h.block k hk (fun e => hn (hr k e.symm))⟩
theorem Touch.within {bl : List Nat} {lo hi : Nat} {w w' : World} (h : Touch bl w w') (hb : ∀ k ∈ bl, lo ≤ k ∧ k < hi) : Within lo hi w w' :=
 ⟨h.os, h.tape, h.output, h.size, fun k hk hn => h.block k hk (fun hh => hn (hb k hh))⟩
theorem Box.touch {w w' : World} {B : Nat} {vs : List Value} {t : TypeId} {bl : List Nat} (h : Box w B vs t) (ht : Touch bl w w') (hn : B ∉ bl) : Box w' B vs t := h.block (ht.block B h.lt hn)
theorem OwnI.touch {w w' : World} {lo hi : Nat} {a : Option Addr} {c : Nat} {ns : List Int} {bl : List Nat} (h : OwnI w lo hi a c ns) (ht : Touch bl w w') (hd : ∀ k, (Value.slice a ns.length c).ownBlock = some k → k ∉ bl) : OwnI w' lo hi a c ns :=
 ⟨ownsRow_block h.1 (fun k hk => ht.block k (h.1.lt k hk).2 (hd k hk)), Nat.le_trans h.2.1 ht.size, h.2.2⟩
theorem SlotA.touch {w w' : World} {lo hi : Nat} {s : SlotA} {bl : List Nat} (h : s.own w lo hi) (ht : Touch bl w w') (hd : ∀ k ∈ s.blocks, k ∉ bl) : s.own w' lo hi :=
 ⟨h.ints.touch ht (fun k hk => hd k (List.mem_append.2 (.inl (Option.mem_toList.2 hk)))), h.refs.touch ht (fun k hk => hd k (List.mem_append.2 (.inr (Option.mem_toList.2 hk)))), h.apart⟩
theorem OwnS.replace {w w' : World} {lo hi : Nat} {A B : List SlotA} {s t : SlotA} (h : OwnS w lo hi (A ++ s :: B)) (ht : Touch s.blocks w w') (ho : t.own w' lo hi) (hb : t.blocks = s.blocks) : OwnS w' lo hi (A ++ t :: B) := by
 have hap := h.apart
 rw [List.flatMap_append, List.flatMap_cons, List.nodup_append] at hap
 obtain ⟨_, h2, h3⟩ := hap
 rw [List.nodup_append] at h2
 obtain ⟨_, _, h5⟩ := h2
 refine ⟨fun x hx => ?_, ?_⟩
 ·rcases List.mem_append.1 hx with hA | hB
  ·refine SlotA.touch (h.each x (by simp [hA])) ht (fun k hk hk' => ?_)
   exact h3 k (List.mem_flatMap.2 ⟨x, hA, hk⟩) k (List.mem_append.2 (.inl hk')) rfl
  ·rcases List.mem_cons.1 hB with rfl | hB
   ·exact ho
   ·refine SlotA.touch (h.each x (by simp [hB])) ht (fun k hk hk' => ?_)
    exact h5 k hk' k (List.mem_flatMap.2 ⟨x, hB, hk⟩) rfl
 ·have := h.apart
  rw [List.flatMap_append, List.flatMap_cons] at this ⊢
  rw [hb]; exact this
def SlotA.mark (s : SlotA) (k : Int) : SlotA := { s with v := ⟨s.v.has, markO s.v.o k⟩ }
def SlotA.count (s : SlotA) : Nat := s.v.o.ints.length + s.v.o.refs.length
def markSs : List SlotA → Int → List SlotA
 | [], _ => []
 | s :: r, k => s.mark k :: markSs r (k + s.count)
def countS : List SlotA → Nat
 | [] => 0
 | s :: r => s.count + countS r
theorem mark_blocks (s : SlotA) (k : Int) : (s.mark k).blocks = s.blocks := by simp [SlotA.mark, SlotA.blocks, markO, marksI_len]
theorem countS_snoc (ss : List SlotA) (s : SlotA) : countS (ss ++ [s]) = countS ss + s.count := by
 induction ss with
 | nil => simp [countS]
 | cons x r ih => simp only [List.cons_append, countS, ih]; omega
theorem markSs_snoc (ss : List SlotA) (s : SlotA) : ∀ k, markSs (ss ++ [s]) k = markSs ss k ++ [s.mark (k + countS ss)] := by
 induction ss with
 | nil => intro k; simp [markSs, countS]
 | cons x r ih =>
  intro k
  simp only [List.cons_append, markSs, ih, countS]
  congr 3
  congr 1
  omega
theorem markSs_app (A B : List SlotA) : ∀ k, markSs (A ++ B) k = markSs A k ++ markSs B (k + countS A) := by
 induction A with
 | nil => intro k; simp [markSs, countS]
 | cons x r ih =>
  intro k
  simp only [List.cons_append, markSs, ih, countS]
  congr 3
  omega
theorem markSs_at (ss : List SlotA) (k : Int) (j : Nat) (h : j < ss.length) : (ss.getD j zeroS).mark (k + countS (ss.take j)) ∈ markSs ss k := by
 have e : markSs ss k = markSs (ss.take j) k ++ markSs (ss.drop j) (k + countS (ss.take j)) := by rw [← markSs_app, List.take_append_drop]
 have e2 : ss.getD j zeroS = ss[j] := by simp [List.getD, h]
 rw [e, List.drop_eq_getElem_cons h, markSs, e2]
 exact List.mem_append.2 (.inr (List.mem_cons.2 (.inl rfl)))
theorem take_split (ss : List SlotA) (j : Nat) (h : j < ss.length) : ss.drop j = ss.getD j zeroS :: ss.drop (j + 1) ∧ ss.take (j + 1) = ss.take j ++ [ss.getD j zeroS] := by
 refine ⟨by rw [List.drop_eq_getElem_cons h]; simp [List.getD, h], ?_⟩
 rw [List.take_add_one]
 simp [List.getD, h]
theorem countS_le (ss : List SlotA) (M : Nat) (h : ∀ s ∈ ss, s.v.o.ints.length ≤ M ∧ s.v.o.refs.length ≤ M) : countS ss ≤ ss.length * (2 * M) := by
 induction ss with
 | nil => simp [countS]
 | cons x r ih =>
  have h1 := h x (by simp)
  have h2 := ih (fun s hs => h s (by simp [hs]))
  simp only [countS, SlotA.count, List.length_cons, Nat.add_mul]
  omega
theorem markObj_touch (o : ObjV) (lo hi : Nat) (aI : Option Addr) (cI : Nat) (aR : Option Addr) (cR : Nat) (k0 : Int) (w : World) (ho : OwnO w lo hi aI cI aR cR o) (h0 : 0 ≤ k0) (hlI : o.ints.length ≤ 1099511627776) (hlR : o.refs.length ≤ 1099511627776) (hk : k0 ≤ 109951162777600) :
  Calls Tryd.prog 64 #[.agg #[.int .i64 o.kind, .slice aI o.ints.length cI, .slice aR o.refs.length cR], .int .i64 k0] w fun e w' => e = .returned (.int .i64 (k0 + o.ints.length + o.refs.length)) ∧ OwnO w' lo hi aI cI aR cR (markO o k0) ∧
   Touch ((Value.slice aI o.ints.length cI).ownBlock.toList ++ (Value.slice aR o.refs.length cR).ownBlock.toList) w w' := by
 obtain ⟨k, ints, refs⟩ := o
 obtain ⟨hI, hR, hap⟩ := ho
 simp only at *
 obtain ⟨W, hW, b0, hbW, hsW⟩ := boxes1 w [.int .i64 k, .slice aI ints.length cI, .slice aR refs.length cR] 38
 have hI' := hI.below hbW
 have hR' := hR.below hbW
 go_enter Tryd.func64, Tryd.ntmps64
 go_wp2_with fail
 rw [hW.out]
 refine (markIntS_any lo aI cI k0 ints W hI'.1 h0 (by omega)).mono ?_
 rintro e w1 ⟨rfl, h1, h2⟩
 have hR1 := hR'.kept h2 (fun k hk e => hap k e hk)
 have b1 := b0.block (h2.block _ (by omega) (fun e => by have h3 := (hI.lt _ e.symm).2; have := hI.2.1; omega))
 have c2 := b1.cell 2 _ rfl
 have hI1 : OwnI w1 lo hi aI cI (marksI k0 ints.length) := ⟨by rw [marksI_len]; exact h1, Nat.le_trans hI'.2.1 h2.size, by rw [marksI_len]; exact hI.2.2⟩
 go_wp2_with fail
 refine (markIntS_any lo aR cR (k0 + ints.length) refs w1 hR1.1 (by omega) (by omega)).mono ?_
 rintro e w2 ⟨rfl, h3, h4⟩
 have hI2 := hI1.kept h4 (fun k hk e => by rw [marksI_len] at hk; exact hap k hk e)
 have hR2 : OwnI w2 lo hi aR cR (marksI (k0 + ints.length) refs.length) := ⟨by rw [marksI_len]; exact h3, Nat.le_trans hR1.2.1 h4.size, by rw [marksI_len]; exact hR.2.2⟩
 go_wp2
 go_ret
 refine ⟨rfl, ⟨hI2, hR2, ?_⟩, ((Touch.of_below hbW).trans (Touch.of_grown h2 (fun j hj => List.mem_append.2 (.inl (Option.mem_toList.2 hj))))).trans (Touch.of_grown h4 (fun j hj => List.mem_append.2 (.inr (Option.mem_toList.2 hj))))⟩
 simp only [markO, marksI_len]
 exact hap
theorem heldObj_any (o : ObjV) (lo hi : Nat) (aI : Option Addr) (cI : Nat) (aR : Option Addr) (cR : Nat) (k0 : Int) (w : World) (ho : OwnO w lo hi aI cI aR cR (markO o k0)) (h0 : 0 ≤ k0) (hlI : o.ints.length ≤ 1099511627776) (hlR : o.refs.length ≤ 1099511627776) (hk : k0 ≤ 109951162777600) :
  Calls Tryd.prog 74 #[.agg #[.int .i64 o.kind, .slice aI o.ints.length cI, .slice aR o.refs.length cR], .int .i64 k0] w fun e w' => e = .returned (.int .i64 (k0 + o.ints.length + o.refs.length)) ∧ Below w.heap.size w w' := by
 obtain ⟨k, ints, refs⟩ := o
 obtain ⟨hI, hR, hap⟩ := ho
 simp only [markO] at *
 obtain ⟨W, hW, b0, hbW, hsW⟩ := boxes1 w [.int .i64 k, .slice aI ints.length cI, .slice aR refs.length cR] 38
 have hI' := hI.below hbW
 have hR' := hR.below hbW
 have c2 := b0.cell 2 _ rfl
 go_enter Tryd.func74, Tryd.ntmps74
 go_wp2_with fail
 rw [hW.out]
 refine (heldIntS_own lo hi aI cI k0 ints.length W hI' h0 (by omega)).mono ?_
 rintro e w1 ⟨rfl, rfl⟩
 go_wp2_with fail
 refine (heldIntS_own lo hi aR cR (k0 + ints.length) refs.length w1 hR' (by omega) (by omega)).mono ?_
 rintro e w2 ⟨rfl, rfl⟩
 go_wp2
 go_ret
 exact ⟨rfl, hbW⟩
theorem markSlot_touch (s : SlotA) (lo hi : Nat) (k0 : Int) (w : World) (ho : s.own w lo hi) (h0 : 0 ≤ k0) (hlI : s.v.o.ints.length ≤ 1099511627776) (hlR : s.v.o.refs.length ≤ 1099511627776) (hk : k0 ≤ 109951162777600) :
  Calls Tryd.prog 54 #[.agg s.cells.toArray, .int .i64 k0] w fun e w' => e = .returned (.int .i64 (k0 + s.count)) ∧ (s.mark k0).own w' lo hi ∧ Touch s.blocks w w' := by
 obtain ⟨W, hW, b0, hbW, hsW⟩ := boxes1 w s.cells 40
 have C := markObj_touch s.v.o lo hi s.aI s.cI s.aR s.cR k0 W (OwnO.below ho hbW) h0 hlI hlR hk
 have HC : Hid ((s.count : Int) = s.v.o.ints.length + s.v.o.refs.length) := by simp [Hid, SlotA.count]
 simp only [SlotA.cells] at *
 go_enter Tryd.func54, Tryd.ntmps54
 go_wp2_with fail
 rw [hW.out]
 refine C.mono ?_
 clear C
 rintro e w1 ⟨rfl, ho1, ht1⟩
 go_wp2
 go_ret
 exact ⟨ret_int (by rw [HC.out]; omega), ho1, (Touch.of_below hbW).trans ht1⟩
theorem heldSlot_any (s : SlotA) (lo hi : Nat) (k0 : Int) (w : World) (ho : (s.mark k0).own w lo hi) (h0 : 0 ≤ k0) (hlI : s.v.o.ints.length ≤ 1099511627776) (hlR : s.v.o.refs.length ≤ 1099511627776) (hk : k0 ≤ 109951162777600) :
  Calls Tryd.prog 65 #[.agg s.cells.toArray, .int .i64 k0] w fun e w' => e = .returned (.int .i64 (k0 + s.count)) ∧ Below w.heap.size w w' := by
 obtain ⟨W, hW, b0, hbW, hsW⟩ := boxes1 w s.cells 40
 have C := heldObj_any s.v.o lo hi s.aI s.cI s.aR s.cR k0 W (OwnO.below ho hbW) h0 hlI hlR hk
 have HC : Hid ((s.count : Int) = s.v.o.ints.length + s.v.o.refs.length) := by simp [Hid, SlotA.count]
 simp only [SlotA.cells] at *
 go_enter Tryd.func65, Tryd.ntmps65
 go_wp2_with fail
 rw [hW.out]
 refine C.mono ?_
 clear C
 rintro e w1 ⟨rfl, hb1⟩
 go_wp2
 go_ret
 exact ⟨ret_int (by rw [HC.out]; omega), hbW.trans (hb1.mono hbW.size)⟩
structure LiveV where
 tx : Int
 last : Int
 aborts : Bool
def LiveV.cells (l : LiveV) : List Value := [.int .i64 l.tx, .int .i64 l.last, .bool l.aborts]
def zeroL : LiveV := ⟨0, 0, false⟩
def ReadsL (w : World) (a : Option Addr) (ls : List LiveV) : Prop := ls ≠ [] → ∃ b off, a = some ⟨b, off, none⟩ ∧ ∀ k, k < ls.length → w.cell? ⟨b, off + k * 3, none⟩ = some (.int .i64 (ls.getD k zeroL).tx) ∧ w.cell? ⟨b, off + k * 3 + 1, none⟩ = some (.int .i64 (ls.getD k zeroL).last) ∧ w.cell? ⟨b, off + k * 3 + 2, none⟩ = some (.bool (ls.getD k zeroL).aborts)
theorem ReadsL.nil (w : World) (a : Option Addr) : ReadsL w a [] := fun h => absurd rfl h
theorem ReadsL.below {w w' : World} {a : Option Addr} {ls : List LiveV} (h : ReadsL w a ls) (hb : Below w.heap.size w w') : ReadsL w' a ls := by
 intro hne
 obtain ⟨b, off, ha, hc⟩ := h hne
 refine ⟨b, off, ha, fun k hk => ?_⟩
 obtain ⟨h0, h1, h2⟩ := hc k hk
 have hlt := block_lt h0
 exact ⟨by rw [hb.cell (p := ⟨b, off + k * 3, none⟩) hlt]; exact h0, by rw [hb.cell (p := ⟨b, off + k * 3 + 1, none⟩) hlt]; exact h1, by rw [hb.cell (p := ⟨b, off + k * 3 + 2, none⟩) hlt]; exact h2⟩
theorem ReadsL.cases {w : World} {a : Option Addr} {ls : List LiveV} (h : ReadsL w a ls) : ls = [] ∨ ∃ b off, a = some ⟨b, off, none⟩ ∧ 0 < ls.length ∧ ∀ k, k < ls.length → w.cell? ⟨b, off + k * 3, none⟩ = some (.int .i64 (ls.getD k zeroL).tx) ∧ w.cell? ⟨b, off + k * 3 + 1, none⟩ = some (.int .i64 (ls.getD k zeroL).last) ∧ w.cell? ⟨b, off + k * 3 + 2, none⟩ = some (.bool (ls.getD k zeroL).aborts) := by
 by_cases e : ls = []
 ·exact .inl e
 ·obtain ⟨b, off, ha, hc⟩ := h e
  exact .inr ⟨b, off, ha, List.length_pos_iff.2 e, hc⟩
end Go.Proofs.YtoboickdkednkabDoor
namespace Go.Proofs.YtoboickdkednkabDoor
open Go.RowKit
def zero4 : List SlotA := [zeroS, zeroS, zeroS, zeroS]
theorem within_setCells (B o : Nat) (vs : List Value) (w : World) : Within B (B + 1) w (w.setCells B o vs) := by
 induction vs generalizing o w with
 | nil => exact Within.refl _ _ _
 | cons v r ih => exact (within_set w B o v (by omega)).trans (ih (o + 1) _)
theorem set_snoc (ts : List SlotA) (n : Nat) (t : SlotA) : (ts ++ List.replicate (n + 1) zeroS).set ts.length t = (ts ++ [t]) ++ List.replicate n zeroS := by
 rw [List.set_append_right _ _ (Nat.le_refl _)]
 simp [List.replicate_succ]
theorem getD_mem {ss : List SlotA} {k : Nat} (h : k < ss.length) : ss.getD k zeroS ∈ ss := by simp [List.getD, h]
theorem toSlotA4_own (ss : List SlotA) (h4 : ss.length = 4) (w : World) (hr : ReadsS w ss) (hl : ∀ s ∈ ss, s.v.o.ints.length ≤ 1099511627776 ∧ s.v.o.refs.length ≤ 1099511627776) :
  Calls Tryd.prog 27 #[.agg (cellsS ss).toArray] w fun e w' => ∃ ts : List SlotA, e = .returned (.agg (cellsS ts).toArray) ∧ Hid (ts.map (·.v) = ss.map (·.v)) ∧ OwnS w' w.heap.size w'.heap.size ts ∧ Below w.heap.size w w' := by
 obtain ⟨W, hW, b0, b1, b2, hbW, hsW⟩ := boxes3 w (cellsS ss) [.bool false, .int .i64 0, .slice none 0 0, .slice none 0 0, .bool false, .int .i64 0, .slice none 0 0, .slice none 0 0, .bool false, .int .i64 0, .slice none 0 0, .slice none 0 0, .bool false, .int .i64 0, .slice none 0 0, .slice none 0 0] [.bool false, .int .i64 0, .slice none 0 0, .slice none 0 0, .bool false, .int .i64 0, .slice none 0 0, .slice none 0 0, .bool false, .int .i64 0, .slice none 0 0, .slice none 0 0, .bool false, .int .i64 0, .slice none 0 0, .slice none 0 0] 30 41 41
 have b1' : Box W (w.heap.size + 1) (cellsS zero4) 41 := b1
 have b2' : Box W (w.heap.size + 1 + 1) (cellsS zero4) 41 := b2
 have hsW' : w.heap.size + 1 + 1 < W.heap.size := by omega
 clear b1 b2 hsW
 go_enter Tryd.func27, Tryd.ntmps27
 go_wp2_with fail
 rw [hW.out]
 clear hW
 have H4 : Hid (ss.length = 4) := h4
 clear h4
 go_loopw [4] (fun i wr => ∃ (k : Nat) (ts : List SlotA), i = .int .i64 k ∧ k ≤ 4 ∧ Hid (ts.length = k ∧ ts.map (·.v) = (ss.take k).map (·.v)) ∧ OwnS wr W.heap.size wr.heap.size ts ∧ Box wr (w.heap.size + 1 + 1) (cellsS (ts ++ List.replicate (4 - k) zeroS)) 41 ∧ Below (w.heap.size + 1 + 1) W wr)
  (fun i _ => 4 - (intOf i).toNat)
 case atStart => exact ⟨0, [], rfl, by omega, ⟨rfl, rfl⟩, OwnS.nil _ _ _, b2', Below.refl _ _⟩
 case round =>
  obtain ⟨k, ts, rfl, hk, hts, hown, hbox, hbl⟩ := hrel
  clear b2'
  have b0r := b0.below hbl (by omega)
  have b1r := b1'.below hbl (by omega)
  have hsr := hbl.size
  by_cases hlt : k < 4
  ·have hkl : k < ss.length := by rw [H4.out]; exact hlt
   obtain ⟨c0, c1, c2, c3, _⟩ := b0r.slot k hkl
   have hrk := (hr _ (getD_mem hkl)).below (hbW.trans (hbl.mono (by omega)))
   have hlk := hl _ (getD_mem hkl)
   have HV : Hid ((ss.take (k + 1)).map (·.v) = (ss.take k).map (·.v) ++ [(ss.getD k zeroS).v]) := by
    rw [Hid, List.take_add_one, List.map_append]
    simp [List.getD, hkl]
   generalize ss.getD k zeroS = s at *
   go_wp2_with fail
   refine (toSlot_own s wr hrk hlk.1 hlk.2).mono ?_
   clear hrk hlk c0 c1 c2 c3
   rintro e w1 ⟨t, rfl, hv, ho, hb1⟩
   have hs1 := hb1.size
   have hbx := hbox.below hb1 hbox.lt
   have hkt : k < (ts ++ List.replicate (4 - k) zeroS).length := by have := hts.out.1; simp; omega
   obtain ⟨W2, hW2, b2, hw2, hs2⟩ := slot_fill hbx k hkt t
   obtain ⟨x0, x1, x2, x3, hfz⟩ := hbx.slot k hkt
   have f0 := hfz (k * 4)
   have f1 := hfz (k * 4 + 1)
   have f2 := hfz (k * 4 + 2)
   have f3 := hfz (k * 4 + 3)
   generalize (ts ++ List.replicate (4 - k) zeroS).getD k zeroS = old at *
   have b2' : Box W2 (w.heap.size + 1 + 1) (cellsS ((ts ++ [t]) ++ List.replicate (4 - (k + 1)) zeroS)) 41 := by
    rw [show 4 - k = (4 - (k + 1)) + 1 by omega] at b2
    have e := set_snoc ts (4 - (k + 1)) t
    rw [hts.out.1] at e
    rw [e] at b2
    exact b2
   have hO1 : OwnS w1 W.heap.size w1.heap.size (ts ++ [t]) := (hown.below hb1).snoc ho hsr hs1 (Nat.le_refl _)
   have hO2 : OwnS W2 W.heap.size W2.heap.size (ts ++ [t]) := (hO1.within hw2 (.inr (by omega))).widen (Nat.le_refl _) (by omega) (Nat.le_refl _)
   have hB2 : Below (w.heap.size + 1 + 1) W W2 := (hbl.trans (hb1.mono (by omega))).trans (hw2.below (Nat.le_refl _) (by omega))
   have HT : Hid ((ts ++ [t]).length = k + 1 ∧ (ts ++ [t]).map (·.v) = (ss.take (k + 1)).map (·.v)) := by
    refine ⟨by have := hts.out.1; simp; omega, ?_⟩
    rw [HV.out, List.map_append, hts.out.2, ← hv.out]
    rfl
   clear hfz hs2 hw2 b2 hO1 hown hbox hbx hts HV hkt hb1 ho
   simp only [SlotA.cells]
   go_wp2_with fail
   rw [hW2.out]
   go_roundw
   case rel => exact ⟨k + 1, ts ++ [t], by go_num, by omega, HT, hO2, b2', hB2⟩
   case measure => simp [intOf]; omega
  ·obtain rfl : k = 4 := by omega
   have hrp : ts ++ List.replicate (4 - 4) zeroS = ts := by simp
   rw [hrp] at hbox
   have htl : ts.length = 4 := hts.out.1
   have hmv : ts.map (·.v) = ss.map (·.v) := by rw [hts.out.2, List.take_of_length_le (by rw [H4.out]; omega)]
   have hrg : wr.rangeAt (w.heap.size + 1 + 1) 0 (cellsS ts) := fun j v hv => by rw [Nat.zero_add]; exact hbox.cell j v hv
   have hth : wr.there (w.heap.size + 1) 0 (cellsS ts).toArray.size := by
    intro j hj
    rw [Nat.zero_add]
    have hj16 : j < (cellsS zero4).length := by simp only [List.size_toArray, cellsS_len] at hj ⊢; rw [htl] at hj; exact hj
    exact ⟨by rw [b1r.cell j _ (List.getElem?_eq_getElem hj16)]; rfl, b1r.frozen j⟩
   have hone : (cellsS ts).toArray.all (·.oneCell') = true := by
    apply all_oneCell_toArray
    intro v hv
    obtain ⟨s, _, hs⟩ := List.mem_flatMap.1 hv
    simp only [SlotA.cells, List.mem_cons, List.not_mem_nil, or_false] at hs
    rcases hs with rfl | rfl | rfl | rfl <;> rfl
   have hsz : (cellsS ts).toArray.size = 16 := by simp [cellsS_len, htl]
   have hi : (Tryd.prog.info? 41).map (·.size) = some (cellsS ts).toArray.size := by rw [hsz]; kernel_rfl
   have hi' : (Tryd.prog.info? 41).map (·.size) = some (cellsS ts).length := by rw [hi]; simp
   clear hsz htl hrp
   go_wp2_with (first | (guard_target = wpList _ _ _ (Oper.mk (some 15) _ _ _ _ _ :: _) _ _; refine wpList_load_mid rfl 41 (.tmp 3) rfl (w.heap.size + 1 + 1) 0 rfl (cellsS ts) _ hrg Tryd.underlying41 rfl hi' ?_) | (guard_target = wpList _ _ _ (Oper.mk none (Op.store _ (Operand.tmp 2) _) _ _ _ _ :: _) _ _; refine wpList_store_mid rfl 41 (.tmp 2) (.tmp 15) rfl (w.heap.size + 1) 0 (cellsS ts).toArray rfl rfl hth hi hone ?_) | fail)
   have hgs : Within (w.heap.size + 1) (w.heap.size + 1 + 1) wr (wr.setCells (w.heap.size + 1) 0 (cellsS ts)) := within_setCells _ _ _ _
   have hrF : (wr.setCells (w.heap.size + 1) 0 (cellsS ts)).rangeAt (w.heap.size + 1) 0 (cellsS ts) := World.rangeAt_setCells_same _ _ _ _ (by simpa using hth)
   have hlF := run_loadVar_mid (P := Tryd.prog) _ (w.heap.size + 1) 0 41 (cellsS ts) _ hrF Tryd.underlying41 rfl hi'
   have hsF := hgs.size
   exact bodyPost_ret (v := .agg (cellsS ts).toArray) (results_one Tryd.results27 rfl hlF) rfl ⟨ts, rfl, hmv, (hown.within hgs (.inr (by omega))).widen (by omega) (by omega) (Nat.le_refl _), (hbW.trans (hbl.mono (by omega))).trans (hgs.below (by omega) (by omega))⟩
end Go.Proofs.YtoboickdkednkabDoor