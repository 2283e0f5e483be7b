/- The cursor of a draw: what spec.l1Byte and spec.l1Below answer and leave. -/
import Derived.Test.YtajcffchopcamaaAppend
import Derived.Test.YtajcffchopcamaaCrcMath
import Derived.Deep.QuietTactic
import Derived.BigQuiet
namespace Go.Proofs.Ytajcffchopcamaa
open Go.RowKit

theorem cell_of3 {w : World} {B : Nat} {v0 v1 v2 : Value} {t : TypeId} (h : w.heap[B]? = some (.cells #[v0, v1, v2] t (0, 0))) :
    w.cell? ⟨B, 0, none⟩ = some v0 ∧ w.cell? ⟨B, 1, none⟩ = some v1 ∧ w.cell? ⟨B, 2, none⟩ = some v2 ∧ (∀ o, w.frozen? ⟨B, o, none⟩ = false) := by
  refine ⟨?_, ?_, ?_, fun o => ?_⟩
  · simp [World.cell?, h]
  · simp [World.cell?, h]
  · simp [World.cell?, h]
  · simp [World.frozen?, h]

theorem set_of3 {w : World} {B : Nat} {v0 v1 v2 u : Value} {t : TypeId} (h : w.heap[B]? = some (.cells #[v0, v1, v2] t (0, 0))) :
    (w.setCell ⟨B, 1, none⟩ u).heap[B]? = some (.cells #[v0, u, v2] t (0, 0)) ∧ (w.setCell ⟨B, 2, none⟩ u).heap[B]? = some (.cells #[v0, v1, u] t (0, 0)) := by
  constructor
  · rw [heap_setCell_same w B 1 _ t u h]; simp
  · rw [heap_setCell_same w B 2 _ t u h]; simp

theorem grown_set (w : World) (B o : Nat) (u : Value) : w.grownBy (w.setCell ⟨B, o, none⟩ u) (some B) :=
  ⟨rfl, rfl, rfl, by simp, fun k _ hk => heap_setCell_other w ⟨B, o, none⟩ k u (fun e => hk (by simp [e]))⟩

theorem grown_drew_set (w : World) (n B o : Nat) (u : Value) : w.grownBy ((w.drewN n).setCell ⟨B, o, none⟩ u) (some B) :=
  ⟨rfl, rfl, rfl, by simp, fun k _ hk => heap_setCell_other (w.drewN n) ⟨B, o, none⟩ k u (fun e => hk (by simp [e]))⟩

theorem Reads.grown {w w' : World} {a : Option Addr} {zs : List Int} {B : Nat} (h : Reads w a zs) (hg : w.grownBy w' (some B)) (hne : zs ≠ [] → ∀ b off, a = some ⟨b, off, none⟩ → b ≠ B) : Reads w' a zs := by
  refine ⟨h.1, fun e => ?_⟩
  obtain ⟨b, off, ha, hc⟩ := h.2 e
  refine ⟨b, off, ha, fun i hi => hg.cell (hc i hi) ?_⟩
  intro he
  exact hne e b off ha (Option.some.inj he)

theorem grownBy_new {w w1 w2 : World} {r row : Option Nat} (h : w.grownBy w1 r) (hg : w1.grownBy w2 row) (hrow : ∀ k, row = some k → w.heap.size ≤ k) : w.grownBy w2 r :=
  ⟨hg.os.trans h.os, hg.tape.trans h.tape, hg.output.trans h.output, Nat.le_trans h.size hg.size, fun k hk hr => (hg.block k (Nat.lt_of_lt_of_le hk h.size) (fun e => by have := hrow k e.symm; omega)).trans (h.block k hk hr)⟩

theorem i64_and255 (n : Int) : bits .and .i64 n 255 = n % 256 := by
  have h1 : (BitVec.ofInt 64 255).toNat = 2 ^ 8 - 1 := by decide
  have key : (BitVec.ofInt 64 n &&& BitVec.ofInt 64 255).toNat = (n % ((2 ^ 64 : Nat) : Int)).toNat % 2 ^ 8 := by
    rw [BitVec.toNat_and, BitVec.toNat_ofInt, h1, Nat.and_two_pow_sub_one_eq_mod]
  show IntKind.i64.wrap ((BitVec.ofInt 64 n &&& BitVec.ofInt 64 255).toNat : Nat) = n % 256
  rw [key, IntKind.wrap_i64]
  omega

theorem ret_nat {a : Int} (h0 : 0 ≤ a) : Ending.returned (.int .i64 a) = .returned (.int .i64 ((a.toNat : Nat) : Int)) := by rw [Int.toNat_of_nonneg h0]

end Go.Proofs.Ytajcffchopcamaa
