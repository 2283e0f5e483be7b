/- Several texts in one, in their order. -/
import Derived.WalkKit
import Derived.Test.YtjaojcgfgkppgaaDoorProg
import Derived.Laws.AppendOwnNone
/- What a slice of bytes reads; small lemmas on it. -/
namespace Go.Proofs.YtjaojcgfgkppgaaDoor
open Go.RowKit

theorem ret_int {k : IntKind} {a b : Int} (h : a = b) : Ending.returned (.int k a) = .returned (.int k b) := by rw [h]
theorem ret_bool {a b : Bool} (h : a = b) : Ending.returned (.bool a) = .returned (.bool b) := by rw [h]
theorem val_int {k : IntKind} {a b : Int} (h : a = b) : Value.int k a = Value.int k b := by rw [h]

/-- The slice at a, as long as zs, holds the bytes zs in w. -/
def Reads (w : World) (a : Option Addr) (zs : List Int) : Prop :=
  (∀ z ∈ zs, 0 ≤ z ∧ z < 256) ∧ (zs ≠ [] → ∃ b off, a = some ⟨b, off, none⟩ ∧ ∀ i, i < zs.length → w.cell? ⟨b, off + i, none⟩ = some (.int .u8 (zs.getD i 0)))

theorem Reads.byte {w : World} {a : Option Addr} {zs : List Int} (h : Reads w a zs) : ∀ z ∈ zs, 0 ≤ z ∧ z < 256 := h.1

theorem bytes_at {zs : List Int} (h : ∀ z ∈ zs, 0 ≤ z ∧ z < 256) (i : Nat) : 0 ≤ zs.getD i 0 ∧ zs.getD i 0 < 256 := by
  by_cases hi : i < zs.length
  · exact h _ (by simp [List.getD, hi])
  · simp [List.getD, hi]

theorem bytes_nat {zs : List Int} (h : ∀ z ∈ zs, 0 ≤ z ∧ z < 256) (i : Nat) : zs.getD i 0 = ((zs.getD i 0).toNat : Int) ∧ (zs.getD i 0).toNat < 256 := by
  have := bytes_at h i
  omega

theorem Reads.cases {w : World} {a : Option Addr} {zs : List Int} (h : Reads w a zs) :
    zs = [] ∨ ∃ b off, a = some ⟨b, off, none⟩ ∧ 0 < zs.length ∧ (∀ i, i < zs.length → w.cell? ⟨b, off + i, none⟩ = some (.int .u8 (zs.getD i 0))) := by
  by_cases e : zs = []
  · exact .inl e
  · obtain ⟨b, off, ha, hc⟩ := h.2 e
    exact .inr ⟨b, off, ha, List.length_pos_iff.2 e, hc⟩

theorem Reads.below {w w' : World} {a : Option Addr} {zs : List Int} (h : Reads w a zs) (hb : Below w.heap.size w w') : Reads w' a zs := by
  refine ⟨h.1, fun hne => ?_⟩
  obtain ⟨b, off, ha, hc⟩ := h.2 hne
  refine ⟨b, off, ha, fun i hi => ?_⟩
  have hlt : b < w.heap.size := by
    have := hc i hi
    simp only [World.cell?] at this
    by_cases hb : b < w.heap.size
    · exact hb
    · simp [Array.getElem?_eq_none (Nat.le_of_not_lt hb)] at this
  rw [hb.cell (p := ⟨b, off + i, none⟩) hlt]
  exact hc i hi

/-- The slice at a holds the numbers ns in w. -/
def ReadsI (w : World) (a : Option Addr) (ns : List Int) : Prop :=
  ns ≠ [] → ∃ b off, a = some ⟨b, off, none⟩ ∧ ∀ i, i < ns.length → w.cell? ⟨b, off + i, none⟩ = some (.int .i64 (ns.getD i 0))

theorem block_lt {w : World} {b off : Nat} {v : Value} (h : w.cell? ⟨b, off, none⟩ = some v) : b < w.heap.size := by
  simp only [World.cell?] at h
  by_cases hb : b < w.heap.size
  · exact hb
  · simp [Array.getElem?_eq_none (Nat.le_of_not_lt hb)] at h

theorem ReadsI.grown {w w' : World} {a : Option Addr} {ns : List Int} {B : Nat} (h : ReadsI w a ns) (hg : w.grownBy w' (some B)) (hne : ∀ b off, a = some ⟨b, off, none⟩ → b ≠ B) : ReadsI w' a ns := by
  intro e
  obtain ⟨b, off, ha, hc⟩ := h e
  refine ⟨b, off, ha, fun i hi => hg.cell (hc i hi) ?_⟩
  intro he
  exact hne b off ha (Option.some.inj he)

theorem readsI_lit (w : World) (ns : List Int) (e : TypeId) : ReadsI (w.alloc (.cells (ns.map (Value.int .i64)).toArray e)) (some ⟨w.heap.size, 0, none⟩) ns := by
  intro _
  refine ⟨_, _, rfl, fun i hi => ?_⟩
  have h : (w.alloc (.cells (ns.map (Value.int .i64)).toArray e)).cell? ⟨w.heap.size, 0 + i, none⟩ = (ns.map (Value.int .i64)).toArray[0 + i]? := by
    unfold World.cell?
    rw [heap_alloc_new]
    simp
  rw [h]
  simp [List.getD, hi]

/-- What the call owns, it reads. -/
theorem Reads.of_own {w : World} {base : Nat} {a : Option Addr} {cap e n : Nat} {zs : List Int} (hz : ∀ z ∈ zs, 0 ≤ z ∧ z < 256) (h : w.ownsRow base e 1 (.slice a n cap) zs.length (zs.map (Value.int .u8))) : Reads w a zs := by
  refine ⟨hz, fun hne => ?_⟩
  rcases h.2 with ⟨_, h0⟩ | ⟨g, cap', cur, hv, hb, hg, hr⟩
  · exact absurd (List.length_eq_zero_iff.1 h0) hne
  · simp only [Value.slice.injEq] at hv
    obtain ⟨rfl, rfl, rfl⟩ := hv
    refine ⟨g, 0, rfl, fun i hi => ?_⟩
    have := h.cellAt i (by omega)
    rw [Nat.zero_add, this]
    simp [List.getD, hi]

/-- What the row's reading tells of a slice of bytes that came in. -/
theorem reads_of_row {w : World} {a : Option Addr} {len cap : Nat} {zs : List Int}
    (h : (a = none ∧ len = 0 ∧ cap = 0 ∧ zs = []) ∨ ∃ x, a = some x ∧ len ≤ cap ∧ cap ≤ maxLen ∧ zs.length = cap ∧ (∀ i, i < zs.length → w.cell? (x.add i) = some (.int .u8 (zs.getD i 0))) ∧ ∀ n ∈ zs, (Lit.int .u8 n).wf = true) :
    ∃ ys : List Int, ys.length = len ∧ Reads w a ys ∧ len ≤ maxLen := by
  rcases h with ⟨rfl, rfl, rfl, rfl⟩ | ⟨x, rfl, hlc, hcm, hz, hcell, hwf⟩
  · exact ⟨[], rfl, ⟨by simp, by simp⟩, by simp [maxLen]⟩
  · refine ⟨zs.take len, by simp; omega, ⟨fun z hzz => ?_, fun hne => ?_⟩, by omega⟩
    · have := hwf z (List.mem_of_mem_take hzz)
      simp [Lit.wf, IntKind.min, IntKind.max, IntKind.signed, IntKind.bits] at this
      omega
    · have hpos := List.length_pos_iff.2 hne
      simp at hpos
      obtain ⟨b, off, spot⟩ := x
      have hc0 := hcell 0 (by omega)
      have hspot : spot = none := by simpa [Addr.add] using World.cell?_spot hc0
      subst hspot
      refine ⟨b, off, rfl, fun i hi => ?_⟩
      have hi' : i < len := by simp at hi; omega
      have := hcell i (by omega)
      have e : (List.take len zs).getD i 0 = zs.getD i 0 := by simp [List.getD, hi']
      have ea : (⟨b, off, none⟩ : Addr).add i = ⟨b, off + i, none⟩ := by unfold Addr.add; split <;> simp_all
      rw [e, ← ea]
      exact this

theorem own_cell {w : World} {base e g n cap : Nat} {xs : List Value} (h : w.ownsRow base e 1 (.slice (some ⟨g, 0, none⟩) n cap) n xs) (k : Nat) (hk : k < n) : ∃ u, w.cell? ⟨g, k, none⟩ = some u := by
  have h1 := h.1
  have := h.cellAt k (by omega)
  rw [List.getElem?_eq_getElem (by omega)] at this
  exact ⟨_, this⟩

theorem grownBy_trans {a b c : World} {row : Option Nat} (h : a.grownBy b row) (k : b.grownBy c row) : a.grownBy c row :=
  ⟨k.os.trans h.os, k.tape.trans h.tape, k.output.trans h.output, Nat.le_trans h.size k.size, fun i hi hr => (k.block i (Nat.lt_of_lt_of_le hi h.size) hr).trans (h.block i hi hr)⟩

theorem Addr_add (b off i : Nat) : (⟨b, off, none⟩ : Addr).add i = ⟨b, off + i, none⟩ := by unfold Addr.add; split <;> simp_all

theorem readsI_one (w : World) (n : Int) (e : TypeId) : ReadsI (w.alloc (.cells #[.int .i64 n] e)) (some ⟨w.heap.size, 0, none⟩) [n] := by
  intro _
  refine ⟨_, _, rfl, fun i hi => ?_⟩
  simp at hi
  subst hi
  simp

end Go.Proofs.YtjaojcgfgkppgaaDoor

/- Appending bytes that are read to a row that the call owns: one law for the walk. -/
namespace Go.Proofs.YtjaojcgfgkppgaaDoor
open Go.RowKit

theorem Tryd.infoU8 : (Tryd.prog.info? 5).map (fun i => (i.zero, i.size, i.bytes)) = some (some (.int .u8 0), 1, 1) := by kernel_rfl

/-- The slice at a, of capacity c, owns the bytes ys; its row lies from base on. -/
def OwnB (w : World) (base : Nat) (a : Option Addr) (c : Nat) (ys : List Int) : Prop :=
  (∀ z ∈ ys, 0 ≤ z ∧ z < 256) ∧ w.ownsRow base 5 1 (.slice a ys.length c) ys.length (ys.map (Value.int .u8))

theorem OwnB.reads {w : World} {base : Nat} {a : Option Addr} {c : Nat} {ys : List Int} (h : OwnB w base a c ys) : Reads w a ys := Reads.of_own h.1 h.2

theorem OwnB.nocap {w : World} {base : Nat} {a : Option Addr} {c : Nat} {ys : List Int} (h : OwnB w base a c ys) : a = none → c = 0 := by
  intro ha
  rcases h.2.2 with ⟨hv, _⟩ | ⟨g, cap, cur, hv, _⟩
  · simp only [Value.slice.injEq] at hv; exact hv.2.2
  · simp [ha] at hv

theorem OwnB.below {w w' : World} {base : Nat} {a : Option Addr} {c : Nat} {ys : List Int} (h : OwnB w base a c ys) (hb : Below w.heap.size w w') : OwnB w' base a c ys := by
  refine ⟨h.1, h.2.1, ?_⟩
  rcases h.2.2 with h0 | ⟨g, cap, cur, hv, hg, hgg, hr⟩
  · exact .inl h0
  · exact .inr ⟨g, cap, cur, hv, hg, by rw [hb.block g (Array.getElem?_eq_some_iff.1 hgg).1]; exact hgg, hr⟩

theorem OwnB.alloc {w : World} {base : Nat} {a : Option Addr} {c : Nat} {ys : List Int} (h : OwnB w base a c ys) (o : Obj) : OwnB (w.alloc o) base a c ys := ⟨h.1, h.2.alloc o⟩

theorem OwnB.base {w : World} {base base' : Nat} {a : Option Addr} {c : Nat} {ys : List Int} (h : OwnB w base a c ys) (hb : base' ≤ base) : OwnB w base' a c ys := by
  refine ⟨h.1, h.2.1, ?_⟩
  rcases h.2.2 with h0 | ⟨g, cap, cur, hv, hg, hr⟩
  · exact .inl h0
  · exact .inr ⟨g, cap, cur, hv, by omega, hr⟩

theorem Reads.alloc {w : World} {a : Option Addr} {zs : List Int} (h : Reads w a zs) (o : Obj) : Reads (w.alloc o) a zs := h.below ((Below.refl _ _).alloc (Nat.le_refl _) o)

theorem reads_lit1 (w : World) (z : Int) (e : TypeId) (hz : 0 ≤ z ∧ z < 256) : Reads (w.alloc (.cells #[.int .u8 z] e)) (some ⟨w.heap.size, 0, none⟩) [z] := by
  refine ⟨by simpa using hz, fun _ => ⟨_, _, rfl, fun i hi => ?_⟩⟩
  simp at hi
  subst hi
  simp

theorem own_lit0 (w : World) : OwnB (w.alloc (.cells #[] 5)) w.heap.size (some ⟨w.heap.size, 0, none⟩) 0 [] :=
  ⟨by simp, World.ownsRow_lit w #[] 0 (Nat.le_refl _) (by simp [maxLen]) rfl⟩

theorem append_bytes {w : World} {ops : Array Oper} {rest : List Oper} {o : Oper} {act : Act} {Q : Exit → Act → World → Prop} (hgd : o.guard = none) (s x : Operand)
    (ho : o.op = .call { callee := .builtin .append, args := #[s, x], argTypes := #[22, 22] })
    (base : Nat) (a : Option Addr) (c : Nat) (xs : List Int) (hs : act.eval s = .slice a xs.length c) (hown : OwnB w base a c xs)
    (sa : Option Addr) (sc : Nat) (zs : List Int) (hx : act.eval x = .slice sa zs.length sc) (hr : Reads w sa zs) (hc : sa = none → sc = 0)
    (hb : xs.length + zs.length ≤ 70368744177664) (hbase : base ≤ w.heap.size)
    (h : ∀ a' c' ys w', Hid (ys = xs ++ zs) → OwnB w' base a' c' ys → w.grownBy w' (Value.slice a xs.length c).ownBlock → wpList Tryd.prog ops Q rest (act.put o.dst (.slice a' ys.length c')) w') :
    wpList Tryd.prog ops Q (o :: rest) act w := by
  obtain ⟨i0, hi, hz0, hz1, hz2⟩ := info_parts Tryd.infoU8
  have hby : ∀ z ∈ xs ++ zs, 0 ≤ z ∧ z < 256 := by
    intro z hz
    rcases List.mem_append.1 hz with h1 | h1
    · exact hown.1 z h1
    · exact hr.1 z h1
  have fin : ∀ v' w', w'.ownsRow base 5 1 v' (xs.length + zs.length) (xs.map (Value.int .u8) ++ zs.map (Value.int .u8)) → w.grownBy w' (Value.slice a xs.length c).ownBlock → wpList Tryd.prog ops Q rest (act.put o.dst v') w' := by
    intro v' w' h1 h2
    rw [← List.map_append, ← List.length_append] at h1
    have sh : ∃ a' c', v' = .slice a' (xs ++ zs).length c' := by
      rcases h1.2 with ⟨rfl, h0⟩ | ⟨g, cap, cur, rfl, _⟩
      · exact ⟨none, 0, by rw [h0]⟩
      · exact ⟨_, _, rfl⟩
    obtain ⟨a', c', rfl⟩ := sh
    exact h a' c' (xs ++ zs) w' rfl ⟨hby, h1⟩ h2
  cases sa with
  | none =>
    have hz : zs = [] := by
      by_cases e : zs = []
      · exact e
      · obtain ⟨b, off, hh, _⟩ := hr.2 e
        cases hh
    subst hz
    have := hc rfl
    subst this
    exact wpList_append_own_none hgd s x 22 ho base 5 i0 1 Tryd.underlying22 hi _ _ _ hs hown.2 hx (fin _ w (by simpa using hown.2) (World.grownBy.refl _ _))
  | some ad =>
    refine wpList_append_own w hgd s x 22 ho base 5 i0 (.int .u8 0) 1 1 Tryd.underlying22 hi hz0 hz1 hz2 rfl (by decide) _ _ _ hs hown.2 ad zs.length sc (zs.map (Value.int .u8)) hx (by simp) ?_ (ints_oneCell _ _) (by simp only [maxLen]; omega) (by omega) hbase (fun v' w' h1 h2 _ => fin v' w' h1 h2)
    intro j u hj
    have hjl : j < zs.length := by
      by_cases e : j < zs.length
      · exact e
      · simp [List.getElem?_eq_none (Nat.le_of_not_lt e)] at hj
    have hne : zs ≠ [] := by intro e; simp [e] at hjl
    obtain ⟨b, off, hh, hcell⟩ := hr.2 hne
    cases hh
    rw [Addr_add, hcell j hjl]
    simpa [hjl] using hj

end Go.Proofs.YtjaojcgfgkppgaaDoor

/- Plain mathematics of the sum: one bit, eight bits, a list of bytes; what stays below 2 to the 32. -/
namespace Go.Proofs.YtjaojcgfgkppgaaDoor

def crcBit (x : Nat) : Nat := if x % 2 = 1 then (x / 2) ^^^ 3988292384 else x / 2
def crcBits : Nat → Nat → Nat
  | 0, x => x
  | k + 1, x => crcBit (crcBits k x)
def crcByte (x : Nat) (c : Nat) : Nat := crcBits 8 (x ^^^ c)
def crcTo (zs : List Int) (k : Nat) : Nat := (zs.take k).foldl (fun x c => crcByte x c.toNat) 4294967295
def crcOf (zs : List Int) : Nat := 4294967295 ^^^ crcTo zs zs.length

theorem crcBit_lt (x : Nat) (h : x < 4294967296) : crcBit x < 4294967296 := by
  unfold crcBit
  split
  · exact Nat.xor_lt_two_pow (n := 32) (by omega) (by omega)
  · omega

theorem crcBits_lt (k x : Nat) (h : x < 4294967296) : crcBits k x < 4294967296 := by
  induction k with
  | zero => exact h
  | succ k ih => exact crcBit_lt _ ih

theorem xor_byte_lt (x c : Nat) (h : x < 4294967296) (hc : c < 256) : x ^^^ c < 4294967296 :=
  Nat.xor_lt_two_pow (n := 32) (by omega) (by omega)

theorem crcByte_lt (x c : Nat) (h : x < 4294967296) (hc : c < 256) : crcByte x c < 4294967296 :=
  crcBits_lt 8 _ (xor_byte_lt x c h hc)

theorem crcTo_zero (zs : List Int) : crcTo zs 0 = 4294967295 := by simp [crcTo]

theorem crcTo_succ (zs : List Int) (k : Nat) (h : k < zs.length) : crcTo zs (k + 1) = crcByte (crcTo zs k) (zs.getD k 0).toNat := by
  unfold crcTo
  rw [List.take_succ_eq_append_getElem h, List.foldl_append]
  simp [h]

theorem crcTo_lt (zs : List Int) (hb : ∀ z ∈ zs, 0 ≤ z ∧ z < 256) (k : Nat) : crcTo zs k < 4294967296 := by
  induction k with
  | zero => rw [crcTo_zero]; omega
  | succ k ih =>
    by_cases h : k < zs.length
    · rw [crcTo_succ zs k h]
      have hm : zs.getD k 0 ∈ zs := by simp [List.getD, h]
      have := hb _ hm
      exact crcByte_lt _ _ ih (by omega)
    · have e : crcTo zs (k + 1) = crcTo zs k := by
        unfold crcTo
        rw [List.take_of_length_le (by omega), List.take_of_length_le (by omega)]
      rw [e]; exact ih

/-- xor of two numbers below 2 to the 32, as an int. -/
theorem i64_xor_nat (a b : Nat) (ha : a < 4294967296) (hb : b < 4294967296) : bits .xor .i64 (a : Int) (b : Int) = ((a ^^^ b : Nat) : Int) := by
  have h : a ^^^ b < 4294967296 := Nat.xor_lt_two_pow (n := 32) (by omega) (by omega)
  have ha' : a % 2 ^ IntKind.i64.bits = a := Nat.mod_eq_of_lt (by simp [IntKind.bits]; omega)
  have hb' : b % 2 ^ IntKind.i64.bits = b := Nat.mod_eq_of_lt (by simp [IntKind.bits]; omega)
  simp only [bits, BitVec.ofInt_natCast, BitVec.toNat_xor, BitVec.toNat_ofNat, ha', hb']
  rw [IntKind.wrap_i64]
  omega

theorem i64_and1 (n : Int) : bits .and .i64 n 1 = n % 2 := by
  have h1 : (BitVec.ofInt 64 1).toNat = 2 ^ 1 - 1 := by decide
  have key : (BitVec.ofInt 64 n &&& BitVec.ofInt 64 1).toNat = (n % ((2 ^ 64 : Nat) : Int)).toNat % 2 ^ 1 := by
    rw [BitVec.toNat_and, BitVec.toNat_ofInt, h1, Nat.and_two_pow_sub_one_eq_mod]
  show IntKind.i64.wrap ((BitVec.ofInt 64 n &&& BitVec.ofInt 64 1).toNat : Nat) = n % 2
  rw [key, IntKind.wrap_i64]
  omega

end Go.Proofs.YtjaojcgfgkppgaaDoor
