/- Several texts in one, in their order. -/
import Derived.Test.YtickiokdcbeefabDoorPVictimx6
import Derived.Test.YtickiokdcbeefabDoorPVictimx8
import Derived.Test.YtickiokdcbeefabDoorProg
import Derived.Test.YtickiokdcbeefabDoorPVictimx1
import Derived.Test.YtickiokdcbeefabDoorPVictimx7
/- The walk of impl.putInts: b, and behind it the bytes of each number. -/
namespace Go.Proofs.YtickiokdcbeefabDoor
open Go.RowKit

def putTo (ns : List Int) (k : Nat) : List Int := (ns.take k).flatMap putOf
theorem putTo_succ (ns : List Int) (k : Nat) (h : k < ns.length) : putTo ns (k + 1) = putTo ns k ++ putOf (ns.getD k 0) := by
  unfold putTo
  rw [List.take_succ_eq_append_getElem h, List.flatMap_append]
  simp [List.getD, h]
theorem putTo_all (ns : List Int) (k : Nat) (h : ns.length ≤ k) : putTo ns k = ns.flatMap putOf := by
  unfold putTo; rw [List.take_of_length_le h]
theorem putTo_len (ns : List Int) (k : Nat) : (putTo ns k).length ≤ 65 * k := by
  induction k with
  | zero => simp [putTo]
  | succ k ih =>
    by_cases h : k < ns.length
    · rw [putTo_succ ns k h, List.length_append]
      have := (putOf_len (ns.getD k 0)).2
      omega
    · rw [putTo_all ns _ (by omega), ← putTo_all ns k (by omega)]
      omega

end Go.Proofs.YtickiokdcbeefabDoor

/- The walk of impl.Frame: it comes to frameOf. -/
namespace Go.Proofs.YtickiokdcbeefabDoor
open Go.RowKit

def frameOf (zs : List Int) : List Int := (putOf zs.length ++ zs) ++ four (crcOf zs)

theorem crcOf_lt (zs : List Int) (h : ∀ z ∈ zs, 0 ≤ z ∧ z < 256) : crcOf zs < 4294967296 := by
  have := crcTo_lt zs h zs.length
  exact Nat.xor_lt_two_pow (n := 32) (by omega) (by omega)
theorem frameOf_len (zs : List Int) : (frameOf zs).length ≤ zs.length + 69 := by
  have := (putOf_len zs.length).2
  simp [frameOf, four, fourTo]; omega

theorem readsI_lit1 (w : World) (n : Int) (e : TypeId) : ReadsI (w.alloc (.cells #[.int .i64 n] e)) (some ⟨w.heap.size, 0, none⟩) [n] := by
  intro _
  refine ⟨_, _, rfl, fun i hi => ?_⟩
  simp at hi
  subst hi
  simp

theorem reads_nil (w : World) (a : Option Addr) : Reads w a [] := ⟨by simp, by simp⟩

end Go.Proofs.YtickiokdcbeefabDoor

/- The walks of impl.unfoldSign and impl.joinGroups. -/
namespace Go.Proofs.YtickiokdcbeefabDoor
open Go.RowKit

theorem unzig_even (m : Nat) (h : (m : Int) % 2 = 0) : unzig m = (m : Int) / 2 := by unfold unzig; rw [if_pos (by omega)]; omega
theorem unzig_odd (m : Nat) (h : ¬ (m : Int) % 2 = 0) : unzig m = -((m : Int) / 2) - 1 := by unfold unzig; rw [if_neg (by omega)]; omega

/-- May these groups be a number's? -/
def fits (G : List Int) : Prop := G.length ≤ 6 ∧ ¬ (1 < G.length ∧ G.getD (G.length - 1) 0 = 0)

theorem shl_go (c j : Nat) (hj : j < 6) : wrap64 ((c : Int) % 128 * 2 ^ (7 * j)) = (((c % 128) * 128 ^ j : Nat) : Int) ∧ (c % 128) * 128 ^ j ≤ 4398046511104 := by
  have e7 : (128 : Nat) ^ j = 2 ^ (7 * j) := by rw [Nat.pow_mul]
  have hp : (128 : Nat) ^ j ≤ 128 ^ 5 := Nat.pow_le_pow_right (by omega) (by omega)
  have h5 : (128 : Nat) ^ 5 = 34359738368 := by decide
  have hb : (c % 128) * 128 ^ j ≤ 127 * 34359738368 := Nat.mul_le_mul (by omega) (by omega)
  have e : ((c : Int) % 128 * 2 ^ (7 * j)) = (((c % 128) * 128 ^ j : Nat) : Int) := by
    rw [e7]; simp
  rw [e]
  constructor
  · unfold wrap64; omega
  · omega

theorem join_end (m v : Nat) (h : m = v) : Ending.returned (.tuple #[.int .i64 (m : Int), .bool (decide ((m : Int) ≤ 2000000000000))]) = .returned (.tuple #[.int .i64 ((v : Nat) : Int), .bool (decide (v ≤ 2000000000000))]) := by
  subst h
  have e : decide ((m : Int) ≤ 2000000000000) = decide (m ≤ 2000000000000) := decide_eq_decide.2 (by omega)
  rw [e]

end Go.Proofs.YtickiokdcbeefabDoor

/- The walk of impl.countGroups. -/
namespace Go.Proofs.YtickiokdcbeefabDoor
open Go.RowKit

/-- How many groups are counted: those that say more, up to six, and one. -/
def countOf (L : List Int) : Nat := min (lead L) 6 + 1

theorem countOf_go (L : List Int) (j : Nat) (hj : j ≤ 6) (hl : j ≤ L.length) (hall : ∀ i, i < j → 128 ≤ L.getD i 0) (hs : j = 6 ∨ j = L.length ∨ (j < L.length ∧ L.getD j 0 < 128)) : countOf L = j + 1 := by
  have h1 := lead_ge j L hl hall
  have h2 := lead_le L
  unfold countOf
  rcases hs with h | h | ⟨h, h'⟩
  · omega
  · omega
  · have := lead_stop j L h h'
    omega

end Go.Proofs.YtickiokdcbeefabDoor

/- The walk of impl.scanInt. -/
namespace Go.Proofs.YtickiokdcbeefabDoor
open Go.RowKit

/-- What scanInt answers where there is a number. -/
def scanOk (r : Int × Nat) : Value := .tuple #[.int .i64 r.1, .int .i64 (r.2 : Nat), .int .i64 0]
/-- Why there is none: 1: the bytes end within fewer than six groups; 3: else. -/
def scanWhy (zs : List Int) (p : Int) : Int := if 0 ≤ p ∧ p ≤ zs.length ∧ lead (zs.drop p.toNat) = zs.length - p.toNat ∧ lead (zs.drop p.toNat) < 6 then 1 else 3
def scanOf (zs : List Int) (p : Int) : Value := match getAt zs p with
  | some r => scanOk r
  | none => .tuple #[.int .i64 0, .int .i64 0, .int .i64 (scanWhy zs p)]

theorem scan_none (zs : List Int) (p : Int) (h : getAt zs p = none) (c : Int) (hc : scanWhy zs p = c) : scanOf zs p = .tuple #[.int .i64 0, .int .i64 0, .int .i64 c] := by
  unfold scanOf; rw [h, hc]

theorem scan_got {zs : List Int} {q j v : Nat} (hA : getAt zs q = (getOf (zs.drop q)).map fun r => (r.1, q + r.2)) (hG : getOf (zs.drop q) = some (unzig v, j + 1)) :
    Ending.returned (.tuple #[.int .i64 (unzig v), .int .i64 ((q : Int) + (j : Int) + 1), .int .i64 0]) = .returned (scanOf zs q) := by
  unfold scanOf
  rw [hA, hG]
  simp only [Option.map_some, scanOk]
  rw [show ((q + (j + 1) : Nat) : Int) = (q : Int) + (j : Int) + 1 from by omega]

theorem reads_part {w : World} {b off : Nat} {zs : List Int} (hby : ∀ z ∈ zs, 0 ≤ z ∧ z < 256) (hcell : ∀ i, i < zs.length → w.cell? ⟨b, off + i, none⟩ = some (.int .u8 (zs.getD i 0))) (q k : Nat) (h : q + k ≤ zs.length) :
    Reads w (some ⟨b, off + q, none⟩) ((zs.drop q).take k) := by
  refine ⟨fun z hz => hby z (List.mem_of_mem_drop (List.mem_of_mem_take hz)), fun _ => ⟨b, off + q, rfl, fun i hi => ?_⟩⟩
  have hi' : i < k := by simp at hi; omega
  rw [Nat.add_assoc, hcell (q + i) (by omega)]
  have : ((zs.drop q).take k).getD i 0 = zs.getD (q + i) 0 := by simp [List.getD, hi']
  rw [this]

theorem reads_slice {w : World} {a : Option Addr} {zs : List Int} (hr : Reads w a zs) (q k : Nat) (h : q + k ≤ zs.length) : Reads w (a.map fun x => x.add q) ((zs.drop q).take k) := by
  rcases hr.cases with rfl | ⟨b, off, rfl, hpos, hcell⟩
  · exact ⟨by simp, by simp⟩
  · have := reads_part hr.byte hcell q k h
    have e : (⟨b, off, none⟩ : Addr).add q = ⟨b, off + q, none⟩ := by unfold Addr.add; split <;> simp_all
    rw [Option.map_some, e]
    exact this

theorem reads_from {w : World} {b off : Nat} {zs : List Int} (hby : ∀ z ∈ zs, 0 ≤ z ∧ z < 256) (hcell : ∀ i, i < zs.length → w.cell? ⟨b, off + i, none⟩ = some (.int .u8 (zs.getD i 0))) (q : Nat) (h : q ≤ zs.length) :
    Reads w (some ⟨b, off + q, none⟩) (zs.drop q) := by
  have := reads_part hby hcell q (zs.length - q) (by omega)
  rwa [List.take_of_length_le (by simp)] at this

end Go.Proofs.YtickiokdcbeefabDoor

/- What Unframe answers, in plain mathematics; four bytes and the sum that they hold. -/
namespace Go.Proofs.YtickiokdcbeefabDoor
open Go.RowKit

/-- The sum that the first k bytes hold, the lowest first. -/
def sumTo (zs : List Int) : Nat → Nat
  | 0 => 0
  | k + 1 => sumTo zs k + (zs.getD k 0).toNat * 256 ^ k

theorem sumTo_lt (zs : List Int) (hb : ∀ z ∈ zs, 0 ≤ z ∧ z < 256) (k : Nat) : sumTo zs k < 256 ^ k := by
  induction k with
  | zero => simp [sumTo]
  | succ k ih =>
    have := (bytes_nat hb k).2
    unfold sumTo
    rw [Nat.pow_succ]
    have h : (zs.getD k 0).toNat * 256 ^ k ≤ 255 * 256 ^ k := Nat.mul_le_mul_right _ (by omega)
    omega

theorem sumTo_four (zs : List Int) : sumTo zs 4 = (zs.getD 0 0).toNat + (zs.getD 1 0).toNat * 256 + (zs.getD 2 0).toNat * 65536 + (zs.getD 3 0).toNat * 16777216 := by
  simp [sumTo]

theorem take4 (zs : List Int) (h : 4 ≤ zs.length) : zs.take 4 = [zs.getD 0 0, zs.getD 1 0, zs.getD 2 0, zs.getD 3 0] := by
  match zs, h with
  | a :: b :: c :: d :: r, _ => simp

theorem sum_iff (zs : List Int) (hb : ∀ z ∈ zs, 0 ≤ z ∧ z < 256) (h : 4 ≤ zs.length) (x : Nat) (hx : x < 4294967296) : sumTo zs 4 = x ↔ zs.take 4 = four x := by
  rw [take4 zs h, four_eq, sumTo_four]
  have h0 := bytes_nat hb 0
  have h1 := bytes_nat hb 1
  have h2 := bytes_nat hb 2
  have h3 := bytes_nat hb 3
  generalize (zs.getD 0 0) = a at *
  generalize (zs.getD 1 0) = b at *
  generalize (zs.getD 2 0) = c at *
  generalize (zs.getD 3 0) = d at *
  simp only [List.cons.injEq, and_true]
  omega

/-- What Unframe answers: the body, the place, the code. -/
def unfOf (zs : List Int) (p : Int) : List Int × Int × Int := match getAt zs p with
  | none => ([], p, scanWhy zs p)
  | some r => if r.1 < 0 then ([], p, 3) else if (zs.length : Int) - (r.2 : Int) < r.1 + 4 then ([], p, 1) else
    if (zs.drop (r.2 + r.1.toNat)).take 4 = four (crcOf ((zs.drop r.2).take r.1.toNat)) then ((zs.drop r.2).take r.1.toNat, (r.2 : Int) + r.1 + 4, 0) else ([], p, 2)

/-- Its answer as a value: the slice at a. -/
def unfVal (a : Option Addr) (c : Nat) (r : List Int × Int × Int) : Value := .tuple #[.slice a r.1.length c, .int .i64 r.2.1, .int .i64 r.2.2]

theorem unf_none (zs : List Int) (p : Int) (h : getAt zs p = none) : unfOf zs p = ([], p, scanWhy zs p) := by unfold unfOf; rw [h]
theorem unf_neg (zs : List Int) (p n : Int) (k : Nat) (h : getAt zs p = some (n, k)) (hn : n < 0) : unfOf zs p = ([], p, 3) := by unfold unfOf; rw [h]; simp only; rw [if_pos hn]
theorem unf_end (zs : List Int) (p : Int) (m k : Nat) (h : getAt zs p = some ((m : Int), k)) (hn : (zs.length : Int) - (k : Int) < (m : Int) + 4) : unfOf zs p = ([], p, 1) := by
  unfold unfOf; rw [h]; simp only; rw [if_neg (by omega), if_pos hn]
theorem unf_sum (zs : List Int) (p : Int) (m k : Nat) (h : getAt zs p = some ((m : Int), k)) (hn : ¬ (zs.length : Int) - (k : Int) < (m : Int) + 4) (hs : ¬ (zs.drop (k + m)).take 4 = four (crcOf ((zs.drop k).take m))) : unfOf zs p = ([], p, 2) := by
  unfold unfOf; rw [h]; simp only; rw [if_neg (by omega), if_neg hn, Int.toNat_natCast, if_neg hs]
theorem unf_good (zs : List Int) (p : Int) (m k : Nat) (h : getAt zs p = some ((m : Int), k)) (hn : ¬ (zs.length : Int) - (k : Int) < (m : Int) + 4) (hs : (zs.drop (k + m)).take 4 = four (crcOf ((zs.drop k).take m))) : unfOf zs p = ((zs.drop k).take m, (k : Int) + (m : Int) + 4, 0) := by
  unfold unfOf; rw [h]; simp only; rw [if_neg (by omega), if_neg hn, Int.toNat_natCast, if_pos hs]

theorem own_none (w : World) (base : Nat) : OwnB w base none 0 [] := ⟨by simp, by simp, .inl ⟨rfl, rfl⟩⟩
end Go.Proofs.YtickiokdcbeefabDoor
