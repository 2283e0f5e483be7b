/- Several texts in one, in their order. -/
import Derived.WalkKit
import Derived.Test.YtajcffchopcamaaGreatDoorProg
import Derived.Laws.AppendOwnNone
import Derived.Deep.QuietTactic
import Derived.BigQuiet
/- What a slice of bytes reads; small lemmas on it. -/
namespace Go.Proofs.YtajcffchopcamaaGreatDoor
open Go.RowKit

theorem ret_bool {a b : Bool} (h : a = b) : Ending.returned (.bool a) = .returned (.bool b) := by rw [h]
/-- The slice at a, as long as zs, holds the bytes zs in w. -/
def Reads (w : World) (a : Option Addr) (zs : List Int) : Prop :=
  (∀ z ∈ zs, 0 ≤ z ∧ z < 256) ∧ (zs ≠ [] → ∃ b off, a = some ⟨b, off, none⟩ ∧ ∀ i, i < zs.length → w.cell? ⟨b, off + i, none⟩ = some (.int .u8 (zs.getD i 0)))

theorem Reads.byte {w : World} {a : Option Addr} {zs : List Int} (h : Reads w a zs) : ∀ z ∈ zs, 0 ≤ z ∧ z < 256 := h.1

theorem bytes_at {zs : List Int} (h : ∀ z ∈ zs, 0 ≤ z ∧ z < 256) (i : Nat) : 0 ≤ zs.getD i 0 ∧ zs.getD i 0 < 256 := by
  by_cases hi : i < zs.length
  · exact h _ (by simp [List.getD, hi])
  · simp [List.getD, hi]

theorem bytes_nat {zs : List Int} (h : ∀ z ∈ zs, 0 ≤ z ∧ z < 256) (i : Nat) : zs.getD i 0 = ((zs.getD i 0).toNat : Int) ∧ (zs.getD i 0).toNat < 256 := by
  have := bytes_at h i
  omega

theorem Reads.cases {w : World} {a : Option Addr} {zs : List Int} (h : Reads w a zs) :
    zs = [] ∨ ∃ b off, a = some ⟨b, off, none⟩ ∧ 0 < zs.length ∧ (∀ i, i < zs.length → w.cell? ⟨b, off + i, none⟩ = some (.int .u8 (zs.getD i 0))) := by
  by_cases e : zs = []
  · exact .inl e
  · obtain ⟨b, off, ha, hc⟩ := h.2 e
    exact .inr ⟨b, off, ha, List.length_pos_iff.2 e, hc⟩

theorem Reads.below {w w' : World} {a : Option Addr} {zs : List Int} (h : Reads w a zs) (hb : Below w.heap.size w w') : Reads w' a zs := by
  refine ⟨h.1, fun hne => ?_⟩
  obtain ⟨b, off, ha, hc⟩ := h.2 hne
  refine ⟨b, off, ha, fun i hi => ?_⟩
  have hlt : b < w.heap.size := by
    have := hc i hi
    simp only [World.cell?] at this
    by_cases hb : b < w.heap.size
    · exact hb
    · simp [Array.getElem?_eq_none (Nat.le_of_not_lt hb)] at this
  rw [hb.cell (p := ⟨b, off + i, none⟩) hlt]
  exact hc i hi

/-- The slice at a holds the numbers ns in w. -/
def ReadsI (w : World) (a : Option Addr) (ns : List Int) : Prop :=
  ns ≠ [] → ∃ b off, a = some ⟨b, off, none⟩ ∧ ∀ i, i < ns.length → w.cell? ⟨b, off + i, none⟩ = some (.int .i64 (ns.getD i 0))

theorem block_lt {w : World} {b off : Nat} {v : Value} (h : w.cell? ⟨b, off, none⟩ = some v) : b < w.heap.size := by
  simp only [World.cell?] at h
  by_cases hb : b < w.heap.size
  · exact hb
  · simp [Array.getElem?_eq_none (Nat.le_of_not_lt hb)] at h

theorem ReadsI.grown {w w' : World} {a : Option Addr} {ns : List Int} {B : Nat} (h : ReadsI w a ns) (hg : w.grownBy w' (some B)) (hne : ∀ b off, a = some ⟨b, off, none⟩ → b ≠ B) : ReadsI w' a ns := by
  intro e
  obtain ⟨b, off, ha, hc⟩ := h e
  refine ⟨b, off, ha, fun i hi => hg.cell (hc i hi) ?_⟩
  intro he
  exact hne b off ha (Option.some.inj he)

theorem readsI_lit (w : World) (ns : List Int) (e : TypeId) : ReadsI (w.alloc (.cells (ns.map (Value.int .i64)).toArray e)) (some ⟨w.heap.size, 0, none⟩) ns := by
  intro _
  refine ⟨_, _, rfl, fun i hi => ?_⟩
  have h : (w.alloc (.cells (ns.map (Value.int .i64)).toArray e)).cell? ⟨w.heap.size, 0 + i, none⟩ = (ns.map (Value.int .i64)).toArray[0 + i]? := by
    unfold World.cell?
    rw [heap_alloc_new]
    simp
  rw [h]
  simp [List.getD, hi]

/-- What the call owns, it reads. -/
theorem Reads.of_own {w : World} {base : Nat} {a : Option Addr} {cap e n : Nat} {zs : List Int} (hz : ∀ z ∈ zs, 0 ≤ z ∧ z < 256) (h : w.ownsRow base e 1 (.slice a n cap) zs.length (zs.map (Value.int .u8))) : Reads w a zs := by
  refine ⟨hz, fun hne => ?_⟩
  rcases h.2 with ⟨_, h0⟩ | ⟨g, cap', cur, hv, hb, hg, hr⟩
  · exact absurd (List.length_eq_zero_iff.1 h0) hne
  · simp only [Value.slice.injEq] at hv
    obtain ⟨rfl, rfl, rfl⟩ := hv
    refine ⟨g, 0, rfl, fun i hi => ?_⟩
    have := h.cellAt i (by omega)
    rw [Nat.zero_add, this]
    simp [List.getD, hi]

theorem grownBy_trans {a b c : World} {row : Option Nat} (h : a.grownBy b row) (k : b.grownBy c row) : a.grownBy c row :=
  ⟨k.os.trans h.os, k.tape.trans h.tape, k.output.trans h.output, Nat.le_trans h.size k.size, fun i hi hr => (k.block i (Nat.lt_of_lt_of_le hi h.size) hr).trans (h.block i hi hr)⟩

theorem Addr_add (b off i : Nat) : (⟨b, off, none⟩ : Addr).add i = ⟨b, off + i, none⟩ := by unfold Addr.add; split <;> simp_all

theorem readsI_one (w : World) (n : Int) (e : TypeId) : ReadsI (w.alloc (.cells #[.int .i64 n] e)) (some ⟨w.heap.size, 0, none⟩) [n] := by
  intro _
  refine ⟨_, _, rfl, fun i hi => ?_⟩
  simp at hi
  subst hi
  simp

end Go.Proofs.YtajcffchopcamaaGreatDoor

/- Appending bytes that are read to a row that the call owns: one law for the walk. -/
namespace Go.Proofs.YtajcffchopcamaaGreatDoor
open Go.RowKit

/-- The slice at a, of capacity c, owns the bytes ys; its row lies from base on. -/
def OwnB (w : World) (base : Nat) (a : Option Addr) (c : Nat) (ys : List Int) : Prop :=
  (∀ z ∈ ys, 0 ≤ z ∧ z < 256) ∧ w.ownsRow base 5 1 (.slice a ys.length c) ys.length (ys.map (Value.int .u8))

theorem OwnB.reads {w : World} {base : Nat} {a : Option Addr} {c : Nat} {ys : List Int} (h : OwnB w base a c ys) : Reads w a ys := Reads.of_own h.1 h.2

theorem OwnB.nocap {w : World} {base : Nat} {a : Option Addr} {c : Nat} {ys : List Int} (h : OwnB w base a c ys) : a = none → c = 0 := by
  intro ha
  rcases h.2.2 with ⟨hv, _⟩ | ⟨g, cap, cur, hv, _⟩
  · simp only [Value.slice.injEq] at hv; exact hv.2.2
  · simp [ha] at hv

theorem OwnB.below {w w' : World} {base : Nat} {a : Option Addr} {c : Nat} {ys : List Int} (h : OwnB w base a c ys) (hb : Below w.heap.size w w') : OwnB w' base a c ys := by
  refine ⟨h.1, h.2.1, ?_⟩
  rcases h.2.2 with h0 | ⟨g, cap, cur, hv, hg, hgg, hr⟩
  · exact .inl h0
  · exact .inr ⟨g, cap, cur, hv, hg, by rw [hb.block g (Array.getElem?_eq_some_iff.1 hgg).1]; exact hgg, hr⟩

theorem OwnB.alloc {w : World} {base : Nat} {a : Option Addr} {c : Nat} {ys : List Int} (h : OwnB w base a c ys) (o : Obj) : OwnB (w.alloc o) base a c ys := ⟨h.1, h.2.alloc o⟩

theorem OwnB.base {w : World} {base base' : Nat} {a : Option Addr} {c : Nat} {ys : List Int} (h : OwnB w base a c ys) (hb : base' ≤ base) : OwnB w base' a c ys := by
  refine ⟨h.1, h.2.1, ?_⟩
  rcases h.2.2 with h0 | ⟨g, cap, cur, hv, hg, hr⟩
  · exact .inl h0
  · exact .inr ⟨g, cap, cur, hv, by omega, hr⟩

theorem Reads.alloc {w : World} {a : Option Addr} {zs : List Int} (h : Reads w a zs) (o : Obj) : Reads (w.alloc o) a zs := h.below ((Below.refl _ _).alloc (Nat.le_refl _) o)

end Go.Proofs.YtajcffchopcamaaGreatDoor

/- Plain mathematics of the sum: one bit, eight bits, a list of bytes; what stays below 2 to the 32. -/
namespace Go.Proofs.YtajcffchopcamaaGreatDoor

def crcBit (x : Nat) : Nat := if x % 2 = 1 then (x / 2) ^^^ 3988292384 else x / 2
def crcBits : Nat → Nat → Nat
  | 0, x => x
  | k + 1, x => crcBit (crcBits k x)
def crcByte (x : Nat) (c : Nat) : Nat := crcBits 8 (x ^^^ c)
def crcTo (zs : List Int) (k : Nat) : Nat := (zs.take k).foldl (fun x c => crcByte x c.toNat) 4294967295
def crcOf (zs : List Int) : Nat := 4294967295 ^^^ crcTo zs zs.length

end Go.Proofs.YtajcffchopcamaaGreatDoor

/- The cursor of a draw: what spec.l1Byte and spec.l1Below answer and leave. -/
namespace Go.Proofs.YtajcffchopcamaaGreatDoor
open Go.RowKit

/-- A cursor over the bytes zs lies in block B. -/
def CurAt (w : World) (B : Nat) (zs : List Int) : Prop :=
  ∃ (a : Option Addr) (c i : Nat) (h : Int), w.heap[B]? = some (.cells #[.slice a zs.length c, .int .i64 i, .int .i64 h] 92 (0, 0)) ∧ i ≤ zs.length ∧ Reads w a zs ∧ (zs ≠ [] → ∀ b off, a = some ⟨b, off, none⟩ → b < B)

theorem cell_of3 {w : World} {B : Nat} {v0 v1 v2 : Value} {t : TypeId} (h : w.heap[B]? = some (.cells #[v0, v1, v2] t (0, 0))) :
    w.cell? ⟨B, 0, none⟩ = some v0 ∧ w.cell? ⟨B, 1, none⟩ = some v1 ∧ w.cell? ⟨B, 2, none⟩ = some v2 ∧ (∀ o, w.frozen? ⟨B, o, none⟩ = false) := by
  refine ⟨?_, ?_, ?_, fun o => ?_⟩
  · simp [World.cell?, h]
  · simp [World.cell?, h]
  · simp [World.cell?, h]
  · simp [World.frozen?, h]

theorem set_of3 {w : World} {B : Nat} {v0 v1 v2 u : Value} {t : TypeId} (h : w.heap[B]? = some (.cells #[v0, v1, v2] t (0, 0))) :
    (w.setCell ⟨B, 1, none⟩ u).heap[B]? = some (.cells #[v0, u, v2] t (0, 0)) ∧ (w.setCell ⟨B, 2, none⟩ u).heap[B]? = some (.cells #[v0, v1, u] t (0, 0)) := by
  constructor
  · rw [heap_setCell_same w B 1 _ t u h]; simp
  · rw [heap_setCell_same w B 2 _ t u h]; simp

theorem grown_set (w : World) (B o : Nat) (u : Value) : w.grownBy (w.setCell ⟨B, o, none⟩ u) (some B) :=
  ⟨rfl, rfl, rfl, by simp, fun k _ hk => heap_setCell_other w ⟨B, o, none⟩ k u (fun e => hk (by simp [e]))⟩

theorem grown_drew_set (w : World) (n B o : Nat) (u : Value) : w.grownBy ((w.drewN n).setCell ⟨B, o, none⟩ u) (some B) :=
  ⟨rfl, rfl, rfl, by simp, fun k _ hk => heap_setCell_other (w.drewN n) ⟨B, o, none⟩ k u (fun e => hk (by simp [e]))⟩

theorem Reads.grown {w w' : World} {a : Option Addr} {zs : List Int} {B : Nat} (h : Reads w a zs) (hg : w.grownBy w' (some B)) (hne : zs ≠ [] → ∀ b off, a = some ⟨b, off, none⟩ → b ≠ B) : Reads w' a zs := by
  refine ⟨h.1, fun e => ?_⟩
  obtain ⟨b, off, ha, hc⟩ := h.2 e
  refine ⟨b, off, ha, fun i hi => hg.cell (hc i hi) ?_⟩
  intro he
  exact hne e b off ha (Option.some.inj he)

theorem CurAt.lt {w : World} {B : Nat} {zs : List Int} (h : CurAt w B zs) : B < w.heap.size := by
  obtain ⟨a, c, i, h, hh, _⟩ := h
  exact (Array.getElem?_eq_some_iff.1 hh).1

theorem CurAt.kept {w w' : World} {B : Nat} {zs : List Int} {row : Option Nat} (h : CurAt w B zs) (hg : w.grownBy w' row) (hrow : ∀ k, row = some k → B < k) : CurAt w' B zs := by
  have hB := h.lt
  obtain ⟨a, c, i, h, hh, hi, hr, hlt⟩ := h
  refine ⟨a, c, i, h, ?_, hi, ⟨hr.1, fun e => ?_⟩, hlt⟩
  · rw [hg.block B hB (fun e => by have := hrow B e.symm; omega)]; exact hh
  · obtain ⟨b, off, ha, hc⟩ := hr.2 e
    refine ⟨b, off, ha, fun j hj => hg.cell (hc j hj) ?_⟩
    intro he
    have h1 := hlt e b off ha
    have h2 := hrow b he.symm
    omega

theorem CurAt.alloc {w : World} {B : Nat} {zs : List Int} (h : CurAt w B zs) (o : Obj) : CurAt (w.alloc o) B zs := h.kept (World.grownBy_alloc w o none) (fun k e => by cases e)

theorem CurAt.below {w w' : World} {B : Nat} {zs : List Int} (h : CurAt w B zs) (hb : Below w.heap.size w w') : CurAt w' B zs :=
  h.kept (row := none) ⟨hb.os, hb.tape, hb.output, hb.size, fun k hk _ => hb.block k hk⟩ (fun k e => by cases e)

theorem grownBy_new {w w1 w2 : World} {r row : Option Nat} (h : w.grownBy w1 r) (hg : w1.grownBy w2 row) (hrow : ∀ k, row = some k → w.heap.size ≤ k) : w.grownBy w2 r :=
  ⟨hg.os.trans h.os, hg.tape.trans h.tape, hg.output.trans h.output, Nat.le_trans h.size hg.size, fun k hk hr => (hg.block k (Nat.lt_of_lt_of_le hk h.size) (fun e => by have := hrow k e.symm; omega)).trans (h.block k hk hr)⟩

theorem i64_and255 (n : Int) : bits .and .i64 n 255 = n % 256 := by
  have h1 : (BitVec.ofInt 64 255).toNat = 2 ^ 8 - 1 := by decide
  have key : (BitVec.ofInt 64 n &&& BitVec.ofInt 64 255).toNat = (n % ((2 ^ 64 : Nat) : Int)).toNat % 2 ^ 8 := by
    rw [BitVec.toNat_and, BitVec.toNat_ofInt, h1, Nat.and_two_pow_sub_one_eq_mod]
  show IntKind.i64.wrap ((BitVec.ofInt 64 n &&& BitVec.ofInt 64 255).toNat : Nat) = n % 256
  rw [key, IntKind.wrap_i64]
  omega

theorem ret_nat {a : Int} (h0 : 0 ≤ a) : Ending.returned (.int .i64 a) = .returned (.int .i64 ((a.toNat : Nat) : Int)) := by rw [Int.toNat_of_nonneg h0]

set_option maxHeartbeats 1000000 in
theorem l1Byte_any (B : Nat) (zs : List Int) (w : World) (hc : CurAt w B zs) (hl : zs.length ≤ 70368744177664) :
    Calls Tryz.prog 77 #[.pointer (some ⟨B, 0, none⟩)] w fun e w' => ∃ x : Nat, e = .returned (.int .i64 x) ∧ x < 256 ∧ CurAt w' B zs ∧ w.grownBy w' (some B) := by
  obtain ⟨a, c, i, h, hh, hi, hr, hlt0⟩ := hc
  have hne : zs ≠ [] → ∀ b off, a = some ⟨b, off, none⟩ → b ≠ B := fun h b off e => Nat.ne_of_lt (hlt0 h b off e)
  obtain ⟨c0, c1, c2, hf⟩ := cell_of3 hh
  have hf2 := hf 2
  clear hf
  have ha := i64_and255
  go_enter Tryz.func77, Tryz.ntmps77
  go_wp2
  generalize wrap64 (wrap64 (h * 6364136223846793005) + 1442695040888963407) = h1
  have hh1 := (set_of3 (u := .int .i64 h1) hh).2
  have hg1 := grown_set w B 2 (.int .i64 h1)
  have hr1 := hr.grown hg1 hne
  clear c0 c1 c2 hf2 hh hr
  generalize w.setCell ⟨B, 2, none⟩ (.int .i64 h1) = w1 at *
  obtain ⟨c0, c1, c2, hf⟩ := cell_of3 hh1
  have hf1 := hf 1
  clear hf
  go_quiet (fail)
  go_wp2
  have hxb : 0 ≤ bits .xor .i64 (h1 / 8589934592) (h1 / 140737488355328) % 256 ∧ bits .xor .i64 (h1 / 8589934592) (h1 / 140737488355328) % 256 < 256 := by omega
  generalize bits .xor .i64 (h1 / 8589934592) (h1 / 140737488355328) % 256 = y at *
  by_cases hlt : i < zs.length
  · rcases hr1.cases with rfl | ⟨b, off, rfl, hpos, hcell⟩
    · simp at hlt
    have hck := hcell i hlt
    have hby := bytes_at hr1.byte i
    clear hcell
    generalize zs.getD i 0 = z at *
    go_quiet (fail)
    go_wp2
    go_quiet (fail)
    go_wp2
    go_ret
    refine ⟨((y + z) % 256).toNat, ret_nat (by omega), by omega, ⟨some ⟨b, off, none⟩, c, i + 1, h1, ?_, by omega, ?_, hlt0⟩, ?_⟩
    · exact (set_of3 (u := .int .i64 ((i : Int) + 1)) hh1).1
    · exact hr1.grown (grown_drew_set w1 _ B 1 _) hne
    · exact grownBy_trans hg1 (grown_drew_set w1 _ B 1 _)
  · go_quiet (fail)
    go_wp2
    go_ret
    exact ⟨y.toNat, ret_nat hxb.1, by omega, ⟨a, c, i, h1, hh1, hi, hr1, hlt0⟩, ⟨hg1.os, hg1.tape, hg1.output, hg1.size, hg1.block⟩⟩

set_option maxHeartbeats 400000 in
theorem l1Below_any (B : Nat) (zs : List Int) (n : Int) (w : World) (hc : CurAt w B zs) (hl : zs.length ≤ 70368744177664) (hn : n ≤ 1000000000) :
    Calls Tryz.prog 52 #[.pointer (some ⟨B, 0, none⟩), .int .i64 n] w fun e w' => ∃ x : Nat, e = .returned (.int .i64 x) ∧ (0 < n → (x : Int) < n) ∧ CurAt w' B zs ∧ w.grownBy w' (some B) := by
  by_cases h0 : n ≤ 0
  · go_enter Tryz.func52, Tryz.ntmps52
    go_wp2
    go_ret
    exact ⟨0, rfl, fun h => by omega, hc, World.grownBy.refl _ _⟩
  by_cases h1 : n ≤ 256
  · go_enter Tryz.func52, Tryz.ntmps52
    go_wp2_with fail
    refine (l1Byte_any B zs w hc hl).mono ?_
    rintro e w1 ⟨x, rfl, hx, hc1, hg1⟩
    have hnz : ¬ n = 0 := by omega
    go_wp2
    go_ret
    exact ⟨((x : Int) % n).toNat, ret_nat (Int.emod_nonneg _ hnz), fun h => by have := Int.emod_nonneg (x : Int) hnz; have := Int.emod_lt_of_pos (x : Int) h; omega, hc1, hg1⟩
  · go_enter Tryz.func52, Tryz.ntmps52
    go_wp2_with fail
    refine (l1Byte_any B zs w hc hl).mono ?_
    rintro e w1 ⟨x, rfl, hx, hc1, hg1⟩
    go_wp2_with fail
    refine (l1Byte_any B zs w1 hc1 hl).mono ?_
    rintro e w2 ⟨y, rfl, hy, hc2, hg2⟩
    go_wp2_with fail
    refine (l1Byte_any B zs w2 hc2 hl).mono ?_
    rintro e w3 ⟨z, rfl, hz, hc3, hg3⟩
    have hnz : ¬ n = 0 := by omega
    clear hc hc1 hc2
    go_wp2
    go_ret
    exact ⟨(((x : Int) * 65536 + (y : Int) * 256 + (z : Int)) % n).toNat, ret_nat (Int.emod_nonneg _ hnz), fun h => by have := Int.emod_nonneg ((x : Int) * 65536 + (y : Int) * 256 + (z : Int)) hnz; have := Int.emod_lt_of_pos ((x : Int) * 65536 + (y : Int) * 256 + (z : Int)) h; omega, hc3, grownBy_trans (grownBy_trans hg1 hg2) hg3⟩
end Go.Proofs.YtajcffchopcamaaGreatDoor

/- The walks of spec.l1Int, l1Bytes and l1New. -/
namespace Go.Proofs.YtajcffchopcamaaGreatDoor
open Go.RowKit

set_option maxHeartbeats 400000 in
theorem l1Int_any (B : Nat) (zs : List Int) (na : Option Addr) (nc : Nat) (ns : List Int) (w : World) (hc : CurAt w B zs) (hl : zs.length ≤ 70368744177664) (hn : ReadsI w na ns) (hne : ∀ b off, na = some ⟨b, off, none⟩ → b ≠ B) (h1 : 1 ≤ ns.length) (h2 : ns.length ≤ 1000) :
    Calls Tryz.prog 53 #[.pointer (some ⟨B, 0, none⟩), .slice na ns.length nc] w fun e w' => ∃ j : Nat, j < ns.length ∧ e = .returned (.int .i64 (ns.getD j 0)) ∧ CurAt w' B zs ∧ w.grownBy w' (some B) := by
  have HN : Hid (ReadsI w na ns) := hn
  have HNE : Hid (∀ b off, na = some ⟨b, off, none⟩ → b ≠ B) := hne
  obtain ⟨b, off, rfl, _⟩ := hn (by intro e; simp [e] at h1)
  clear hn hne
  go_enter Tryz.func53, Tryz.ntmps53
  go_wp2_with fail
  refine (l1Below_any B zs ns.length w hc hl (by omega)).mono ?_
  rintro e w1 ⟨x, rfl, hx, hc1, hg1⟩
  have hx' : x < ns.length := by have := hx (by omega); omega
  obtain ⟨b', off', hh, hcell⟩ := (HN.out.grown hg1 HNE.out) (by intro e; simp [e] at h1)
  cases hh
  have hcx := hcell x hx'
  clear hcell hx
  generalize hv : ns.getD x 0 = v at *
  have HV : Hid (ns.getD x 0 = v) := hv
  clear hv
  go_wp2
  go_ret
  exact ⟨x, hx', by rw [HV.out]; rfl, hc1, hg1⟩

set_option maxHeartbeats 400000 in
set_option maxRecDepth 100000 in
theorem l1New_any (a : Option Addr) (c : Nat) (zs : List Int) (w : World) (hr : Reads w a zs) (hl : zs.length ≤ 70368744177664) :
    Calls Tryz.prog 26 #[.slice a zs.length c] w fun e w' => e = .returned (.pointer (some ⟨w.heap.size, 0, none⟩)) ∧ CurAt w' w.heap.size zs ∧ Below w.heap.size w w' := by
  have HW : Hid (zs ≠ [] → ∀ b off, a = some ⟨b, off, none⟩ → b < w.heap.size) := by
    intro hne b off e
    obtain ⟨b', off', ha, hcc⟩ := hr.2 hne
    rw [ha] at e
    cases e
    exact block_lt (hcc 0 (List.length_pos_iff.2 hne))
  have HR : Hid (Reads w a zs) := hr
  have fin : ∀ h : Int, CurAt (w.alloc (.cells #[.slice a zs.length c, .int .i64 0, .int .i64 h] 92)) w.heap.size zs := fun h => ⟨a, c, 0, h, heap_alloc_new w _, by omega, HR.out.alloc _, HW.out⟩
  have FIN : Hid (∀ h : Int, CurAt (w.alloc (.cells #[.slice a zs.length c, .int .i64 0, .int .i64 h] 92)) w.heap.size zs) := fin
  clear fin
  rcases hr.cases with rfl | ⟨b, off, rfl, hpos, hcell⟩
  · clear hr
    go_enter Tryz.func26, Tryz.ntmps26
    go_wp2
    refine wp_loop_rounds 1 ?_
    rw [rounds_succ]
    go_wp2
    go_ret
    exact ⟨rfl, FIN.out _, (Below.refl _ _).alloc (Nat.le_refl _) _⟩
  · have hby := hr.byte
    clear hr
    go_enter Tryz.func26, Tryz.ntmps26
    go_wp2
    go_loop [3, 4] (fun hv i => ∃ (k : Nat) (h : Int), k ≤ zs.length ∧ k ≤ 4000 ∧ i = .int .i64 k ∧ hv = .int .i64 h) (fun _ i => 4000 - (RowKit.intOf i).toNat)
    case atStart => exact ⟨0, _, by omega, by omega, rfl, rfl⟩
    case round =>
      obtain ⟨k, h, hk, hk4, rfl, rfl⟩ := hrel
      by_cases h1 : k < zs.length
      · by_cases h2 : k < 4000
        · have hck := hcell k h1
          have hbk := bytes_at hby k
          clear hcell hby
          generalize zs.getD k 0 = z at *
          go_wp2
          go_round
          case rel => exact ⟨k + 1, _, by omega, by omega, by go_num, rfl⟩
          case measure => simp [RowKit.intOf]; omega
        · go_wp2
          go_ret
          exact ⟨rfl, FIN.out _, (Below.refl _ _).alloc (Nat.le_refl _) _⟩
      · go_wp2
        go_ret
        exact ⟨rfl, FIN.out _, (Below.refl _ _).alloc (Nat.le_refl _) _⟩
end Go.Proofs.YtajcffchopcamaaGreatDoor
