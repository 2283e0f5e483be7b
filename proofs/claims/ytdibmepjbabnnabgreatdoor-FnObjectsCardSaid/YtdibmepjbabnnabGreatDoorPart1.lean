/- Several texts in one, in their order. -/
import Derived.WalkKit
import Derived.Below
import Derived.WalkSmall
import Derived.Laws.AppendOwnNone
import Derived.Test.YtdibmepjbabnnabGreatDoorProg
import Derived.Laws.Strings
/- What a slice of bytes reads; small lemmas on it. -/
namespace Go.Proofs.YtdibmepjbabnnabGreatDoor
open Go.RowKit

theorem ret_int {k : IntKind} {a b : Int} (h : a = b) : Ending.returned (.int k a) = .returned (.int k b) := by rw [h]
theorem ret_bool {a b : Bool} (h : a = b) : Ending.returned (.bool a) = .returned (.bool b) := by rw [h]
theorem val_int {k : IntKind} {a b : Int} (h : a = b) : Value.int k a = Value.int k b := by rw [h]

/-- The slice at a, as long as zs, holds the bytes zs in w. -/
def Reads (w : World) (a : Option Addr) (zs : List Int) : Prop :=
  (∀ z ∈ zs, 0 ≤ z ∧ z < 256) ∧ (zs ≠ [] → ∃ b off, a = some ⟨b, off, none⟩ ∧ ∀ i, i < zs.length → w.cell? ⟨b, off + i, none⟩ = some (.int .u8 (zs.getD i 0)))

theorem Reads.byte {w : World} {a : Option Addr} {zs : List Int} (h : Reads w a zs) : ∀ z ∈ zs, 0 ≤ z ∧ z < 256 := h.1

theorem bytes_at {zs : List Int} (h : ∀ z ∈ zs, 0 ≤ z ∧ z < 256) (i : Nat) : 0 ≤ zs.getD i 0 ∧ zs.getD i 0 < 256 := by
  by_cases hi : i < zs.length
  · exact h _ (by simp [List.getD, hi])
  · simp [List.getD, hi]

theorem bytes_nat {zs : List Int} (h : ∀ z ∈ zs, 0 ≤ z ∧ z < 256) (i : Nat) : zs.getD i 0 = ((zs.getD i 0).toNat : Int) ∧ (zs.getD i 0).toNat < 256 := by
  have := bytes_at h i
  omega

theorem Reads.cases {w : World} {a : Option Addr} {zs : List Int} (h : Reads w a zs) :
    zs = [] ∨ ∃ b off, a = some ⟨b, off, none⟩ ∧ 0 < zs.length ∧ (∀ i, i < zs.length → w.cell? ⟨b, off + i, none⟩ = some (.int .u8 (zs.getD i 0))) := by
  by_cases e : zs = []
  · exact .inl e
  · obtain ⟨b, off, ha, hc⟩ := h.2 e
    exact .inr ⟨b, off, ha, List.length_pos_iff.2 e, hc⟩

theorem Reads.below {w w' : World} {a : Option Addr} {zs : List Int} (h : Reads w a zs) (hb : Below w.heap.size w w') : Reads w' a zs := by
  refine ⟨h.1, fun hne => ?_⟩
  obtain ⟨b, off, ha, hc⟩ := h.2 hne
  refine ⟨b, off, ha, fun i hi => ?_⟩
  have hlt : b < w.heap.size := by
    have := hc i hi
    simp only [World.cell?] at this
    by_cases hb : b < w.heap.size
    · exact hb
    · simp [Array.getElem?_eq_none (Nat.le_of_not_lt hb)] at this
  rw [hb.cell (p := ⟨b, off + i, none⟩) hlt]
  exact hc i hi

/-- The slice at a holds the numbers ns in w. -/
def ReadsI (w : World) (a : Option Addr) (ns : List Int) : Prop :=
  ns ≠ [] → ∃ b off, a = some ⟨b, off, none⟩ ∧ ∀ i, i < ns.length → w.cell? ⟨b, off + i, none⟩ = some (.int .i64 (ns.getD i 0))

theorem block_lt {w : World} {b off : Nat} {v : Value} (h : w.cell? ⟨b, off, none⟩ = some v) : b < w.heap.size := by
  simp only [World.cell?] at h
  by_cases hb : b < w.heap.size
  · exact hb
  · simp [Array.getElem?_eq_none (Nat.le_of_not_lt hb)] at h

theorem ReadsI.grown {w w' : World} {a : Option Addr} {ns : List Int} {B : Nat} (h : ReadsI w a ns) (hg : w.grownBy w' (some B)) (hne : ∀ b off, a = some ⟨b, off, none⟩ → b ≠ B) : ReadsI w' a ns := by
  intro e
  obtain ⟨b, off, ha, hc⟩ := h e
  refine ⟨b, off, ha, fun i hi => hg.cell (hc i hi) ?_⟩
  intro he
  exact hne b off ha (Option.some.inj he)

theorem readsI_lit (w : World) (ns : List Int) (e : TypeId) : ReadsI (w.alloc (.cells (ns.map (Value.int .i64)).toArray e)) (some ⟨w.heap.size, 0, none⟩) ns := by
  intro _
  refine ⟨_, _, rfl, fun i hi => ?_⟩
  have h : (w.alloc (.cells (ns.map (Value.int .i64)).toArray e)).cell? ⟨w.heap.size, 0 + i, none⟩ = (ns.map (Value.int .i64)).toArray[0 + i]? := by
    unfold World.cell?
    rw [heap_alloc_new]
    simp
  rw [h]
  simp [List.getD, hi]

/-- What the call owns, it reads. -/
theorem Reads.of_own {w : World} {base : Nat} {a : Option Addr} {cap e n : Nat} {zs : List Int} (hz : ∀ z ∈ zs, 0 ≤ z ∧ z < 256) (h : w.ownsRow base e 1 (.slice a n cap) zs.length (zs.map (Value.int .u8))) : Reads w a zs := by
  refine ⟨hz, fun hne => ?_⟩
  rcases h.2 with ⟨_, h0⟩ | ⟨g, cap', cur, hv, hb, hg, hr⟩
  · exact absurd (List.length_eq_zero_iff.1 h0) hne
  · simp only [Value.slice.injEq] at hv
    obtain ⟨rfl, rfl, rfl⟩ := hv
    refine ⟨g, 0, rfl, fun i hi => ?_⟩
    have := h.cellAt i (by omega)
    rw [Nat.zero_add, this]
    simp [List.getD, hi]

/-- What the row's reading tells of a slice of bytes that came in. -/
theorem reads_of_row {w : World} {a : Option Addr} {len cap : Nat} {zs : List Int}
    (h : (a = none ∧ len = 0 ∧ cap = 0 ∧ zs = []) ∨ ∃ x, a = some x ∧ len ≤ cap ∧ cap ≤ maxLen ∧ zs.length = cap ∧ (∀ i, i < zs.length → w.cell? (x.add i) = some (.int .u8 (zs.getD i 0))) ∧ ∀ n ∈ zs, (Lit.int .u8 n).wf = true) :
    ∃ ys : List Int, ys.length = len ∧ Reads w a ys ∧ len ≤ maxLen := by
  rcases h with ⟨rfl, rfl, rfl, rfl⟩ | ⟨x, rfl, hlc, hcm, hz, hcell, hwf⟩
  · exact ⟨[], rfl, ⟨by simp, by simp⟩, by simp [maxLen]⟩
  · refine ⟨zs.take len, by simp; omega, ⟨fun z hzz => ?_, fun hne => ?_⟩, by omega⟩
    · have := hwf z (List.mem_of_mem_take hzz)
      simp [Lit.wf, IntKind.min, IntKind.max, IntKind.signed, IntKind.bits] at this
      omega
    · have hpos := List.length_pos_iff.2 hne
      simp at hpos
      obtain ⟨b, off, spot⟩ := x
      have hc0 := hcell 0 (by omega)
      have hspot : spot = none := by simpa [Addr.add] using World.cell?_spot hc0
      subst hspot
      refine ⟨b, off, rfl, fun i hi => ?_⟩
      have hi' : i < len := by simp at hi; omega
      have := hcell i (by omega)
      have e : (List.take len zs).getD i 0 = zs.getD i 0 := by simp [List.getD, hi']
      have ea : (⟨b, off, none⟩ : Addr).add i = ⟨b, off + i, none⟩ := by unfold Addr.add; split <;> simp_all
      rw [e, ← ea]
      exact this

theorem own_cell {w : World} {base e g n cap : Nat} {xs : List Value} (h : w.ownsRow base e 1 (.slice (some ⟨g, 0, none⟩) n cap) n xs) (k : Nat) (hk : k < n) : ∃ u, w.cell? ⟨g, k, none⟩ = some u := by
  have h1 := h.1
  have := h.cellAt k (by omega)
  rw [List.getElem?_eq_getElem (by omega)] at this
  exact ⟨_, this⟩

theorem grownBy_trans {a b c : World} {row : Option Nat} (h : a.grownBy b row) (k : b.grownBy c row) : a.grownBy c row :=
  ⟨k.os.trans h.os, k.tape.trans h.tape, k.output.trans h.output, Nat.le_trans h.size k.size, fun i hi hr => (k.block i (Nat.lt_of_lt_of_le hi h.size) hr).trans (h.block i hi hr)⟩

theorem Addr_add (b off i : Nat) : (⟨b, off, none⟩ : Addr).add i = ⟨b, off + i, none⟩ := by unfold Addr.add; split <;> simp_all

theorem readsI_one (w : World) (n : Int) (e : TypeId) : ReadsI (w.alloc (.cells #[.int .i64 n] e)) (some ⟨w.heap.size, 0, none⟩) [n] := by
  intro _
  refine ⟨_, _, rfl, fun i hi => ?_⟩
  simp at hi
  subst hi
  simp

end Go.Proofs.YtdibmepjbabnnabGreatDoor

/- What is written lies within a span of blocks; all else is as it was. -/
namespace Go.Proofs.YtdibmepjbabnnabGreatDoor
open Go.RowKit

structure Within (lo hi : Nat) (w w' : World) : Prop where
  os : w'.os = w.os
  tape : w'.tape = w.tape
  output : w'.output = w.output
  size : w.heap.size ≤ w'.heap.size
  block : ∀ k, k < w.heap.size → ¬ (lo ≤ k ∧ k < hi) → w'.heap[k]? = w.heap[k]?

theorem Within.refl (lo hi : Nat) (w : World) : Within lo hi w w := ⟨rfl, rfl, rfl, Nat.le_refl _, fun _ _ _ => rfl⟩
theorem Within.trans {lo hi : Nat} {a b c : World} (h : Within lo hi a b) (k : Within lo hi b c) : Within lo hi a c :=
  ⟨k.os.trans h.os, k.tape.trans h.tape, k.output.trans h.output, Nat.le_trans h.size k.size, fun i hi hn => (k.block i (Nat.lt_of_lt_of_le hi h.size) hn).trans (h.block i hi hn)⟩
theorem Within.mono {lo hi lo' hi' : Nat} {w w' : World} (h : Within lo hi w w') (h1 : lo' ≤ lo) (h2 : hi ≤ hi') : Within lo' hi' w w' :=
  ⟨h.os, h.tape, h.output, h.size, fun k hk hn => h.block k hk (fun hh => hn ⟨by omega, by omega⟩)⟩
theorem Within.of_below {lo hi : Nat} {w w' : World} (h : Below w.heap.size w w') : Within lo hi w w' :=
  ⟨h.os, h.tape, h.output, h.size, fun k hk _ => h.block k hk⟩
theorem Within.of_grown {lo hi : Nat} {w w' : World} {row : Option Nat} (h : w.grownBy w' row) (hr : ∀ k, row = some k → lo ≤ k ∧ k < hi) : Within lo hi w w' :=
  ⟨h.os, h.tape, h.output, h.size, fun k hk hn => h.block k hk (fun e => hn (hr k e.symm))⟩
/-- Nothing below B is written. -/
theorem Within.below {lo hi B : Nat} {w w' : World} (h : Within lo hi w w') (hB : B ≤ lo) (hs : B ≤ w.heap.size) : Below B w w' :=
  ⟨h.os, h.tape, h.output, h.size, fun k hk => h.block k (by omega) (by omega)⟩
theorem Within.drewN {lo hi : Nat} {w w' : World} (h : Within lo hi w w') (n : Nat) : Within lo hi w (w'.drewN n) :=
  h.trans (Within.of_below (below_drewN (Below.refl _ _) n))

theorem ownsRow_block {w w' : World} {base : Nat} {e : TypeId} {size n : Nat} {v : Value} {xs : List Value} (h : w.ownsRow base e size v n xs) (hb : ∀ k, v.ownBlock = some k → w'.heap[k]? = w.heap[k]?) : w'.ownsRow base e size v n xs := by
  refine ⟨h.1, ?_⟩
  rcases h.2 with h0 | ⟨g, cap, cur, hv, hg, hgg, hr⟩
  · exact .inl h0
  · refine .inr ⟨g, cap, cur, hv, hg, ?_, hr⟩
    rw [hb g (by rw [hv]; rfl)]
    exact hgg
theorem ownsRow_base {w : World} {base base' : Nat} {e : TypeId} {size n : Nat} {v : Value} {xs : List Value} (h : w.ownsRow base e size v n xs) (hb : ∀ k, v.ownBlock = some k → base' ≤ k) : w.ownsRow base' e size v n xs := by
  refine ⟨h.1, ?_⟩
  rcases h.2 with h0 | ⟨g, cap, cur, hv, hg, hgg, hr⟩
  · exact .inl h0
  · exact .inr ⟨g, cap, cur, hv, hb g (by rw [hv]; rfl), hgg, hr⟩
end Go.Proofs.YtdibmepjbabnnabGreatDoor

/- Slices of texts: what the call owns; appending to it. -/
namespace Go.Proofs.YtdibmepjbabnnabGreatDoor
open Go.RowKit

theorem Tryz.infoStr : (Tryz.prog.info? 9).map (fun i => (i.zero, i.size, i.bytes)) = some (some (.string ⟨#[]⟩), 1, 16) := by kernel_rfl

/-- The slice at a, of capacity c, owns the texts ss; its row lies from lo on. -/
def OwnS (w : World) (lo : Nat) (a : Option Addr) (c : Nat) (ss : List ByteArray) : Prop := w.ownsRow lo 9 1 (.slice a ss.length c) ss.length (ss.map Value.string)

theorem OwnS.below {w w' : World} {lo : Nat} {a : Option Addr} {c : Nat} {ss : List ByteArray} (h : OwnS w lo a c ss) (hb : Below w.heap.size w w') : OwnS w' lo a c ss :=
  ownsRow_block h (fun k hk => hb.block k (h.lt k hk).2)
theorem ownS_lit0 (w : World) : OwnS (w.alloc (.cells #[] 9)) w.heap.size (some ⟨w.heap.size, 0, none⟩) 0 [] := World.ownsRow_lit w #[] 0 (Nat.le_refl _) (by simp [maxLen]) rfl

theorem OwnS.cell {w : World} {lo : Nat} {a : Option Addr} {c : Nat} {ss : List ByteArray} (h : OwnS w lo a c ss) (hp : 0 < ss.length) : ∃ g, a = some ⟨g, 0, none⟩ ∧ ∀ i (hi : i < ss.length), w.cell? ⟨g, i, none⟩ = some (.string ss[i]) := by
  rcases h.2 with ⟨_, h0⟩ | ⟨g, cap', cur, hv, hb, hg, hr⟩
  · omega
  · simp only [Value.slice.injEq] at hv
    obtain ⟨rfl, _, rfl⟩ := hv
    refine ⟨g, rfl, fun i hi => ?_⟩
    have := World.ownsRow.cellAt h i (by omega)
    rw [this]
    simp [hi]

/-- Appending one text to a row that the call owns. -/
theorem append_str1 {w : World} {ops : Array Oper} {rest : List Oper} {o : Oper} {act : Act} {Q : Exit → Act → World → Prop} (hgd : o.guard = none) (s x : Operand)
    (ho : o.op = .call { callee := .builtin .append, args := #[s, x], argTypes := #[58, 58] })
    (lo : Nat) (a : Option Addr) (c : Nat) (xs : List ByteArray) (hs : act.eval s = .slice a xs.length c) (hown : OwnS w lo a c xs)
    (g : Nat) (sc : Nat) (z : ByteArray) (hx : act.eval x = .slice (some ⟨g, 0, none⟩) 1 sc) (hr : w.cell? ⟨g, 0, none⟩ = some (.string z))
    (hb : xs.length ≤ 1099511627776) (hlo : lo ≤ w.heap.size)
    (h : ∀ a' c' ys w', Hid (ys = xs ++ [z]) → OwnS w' lo a' c' ys → w.grownBy w' (Value.slice a xs.length c).ownBlock → wpList Tryz.prog ops Q rest (act.put o.dst (.slice a' ys.length c')) w') :
    wpList Tryz.prog ops Q (o :: rest) act w := by
  obtain ⟨i0, hi0, hz0, hz1, hz2⟩ := info_parts Tryz.infoStr
  refine wpList_append_own w hgd s x 58 ho lo 9 i0 (.string ⟨#[]⟩) 1 16 Tryz.underlying58 hi0 hz0 hz1 hz2 rfl (by decide) _ _ _ hs hown ⟨g, 0, none⟩ 1 sc [.string z] hx (by simp) ?_ ?_ (by simp only [maxLen]; omega) (by omega) hlo ?_
  · intro j u hj
    cases j with
    | zero => simp at hj; subst hj; rw [Addr_add]; exact hr
    | succ j => simp at hj
  · intro v hv; simp at hv; subst hv; rfl
  · intro v' w' h1 h2 _
    have e1 : xs.length + 1 = (xs ++ [z]).length := by simp
    have e2 : xs.map Value.string ++ [.string z] = (xs ++ [z]).map Value.string := by simp
    rw [e1, e2] at h1
    have sh : ∃ a' c', v' = .slice a' (xs ++ [z]).length c' := by
      rcases h1.2 with ⟨rfl, h0⟩ | ⟨g, cap, cur, rfl, _⟩
      · exact ⟨none, 0, by rw [h0]⟩
      · exact ⟨_, _, rfl⟩
    obtain ⟨a', c', rfl⟩ := sh
    exact h a' c' (xs ++ [z]) w' rfl h1 h2
end Go.Proofs.YtdibmepjbabnnabGreatDoor

/- Plain mathematics: a list cut at a sign. -/
namespace Go.Proofs.YtdibmepjbabnnabGreatDoor

def splitOf (b : Int) : List Int → List (List Int)
  | [] => [[]]
  | z :: r => if z = b then [] :: splitOf b r else match splitOf b r with
    | [] => [[z]]
    | p :: ps => (z :: p) :: ps

theorem split_none (b : Int) (X : List Int) (h : ∀ z ∈ X, z ≠ b) : splitOf b X = [X] := by
  induction X with
  | nil => rfl
  | cons z r ih =>
    unfold splitOf
    rw [if_neg (h z (by simp)), ih (fun y hy => h y (by simp [hy]))]
theorem split_at (b : Int) (X Y : List Int) (h : ∀ z ∈ X, z ≠ b) : splitOf b (X ++ b :: Y) = X :: splitOf b Y := by
  induction X with
  | nil => simp [splitOf]
  | cons z r ih =>
    rw [List.cons_append, splitOf, if_neg (h z (by simp)), ih (fun y hy => h y (by simp [hy]))]
/-- Put together again by the sign. -/
def glue (b : Int) : List (List Int) → List Int
  | [] => []
  | [p] => p
  | p :: q :: r => p ++ b :: glue b (q :: r)
theorem split_ne (b : Int) (L : List Int) : splitOf b L ≠ [] := by
  cases L with
  | nil => simp [splitOf]
  | cons z r =>
    unfold splitOf
    split
    · simp
    · split <;> simp
theorem glue_split (b : Int) (L : List Int) : glue b (splitOf b L) = L := by
  induction L with
  | nil => rfl
  | cons z r ih =>
    unfold splitOf
    have hne := split_ne b r
    split
    · rename_i e
      match hs : splitOf b r, hne with
      | p :: ps, _ =>
        rw [hs] at ih
        rw [glue, ih, e]; rfl
    · match hs : splitOf b r, hne with
      | [p], _ => rw [hs] at ih; simp only [glue] at ih ⊢; rw [ih]
      | p :: q :: ps, _ => rw [hs] at ih; simp only [glue] at ih ⊢; rw [← ih]; rfl
end Go.Proofs.YtdibmepjbabnnabGreatDoor

/- Is a number within bounds? -/
namespace Go.Proofs.YtdibmepjbabnnabGreatDoor
def inB (x l m : Int) : Bool := decide (l ≤ x ∧ x ≤ m)
end Go.Proofs.YtdibmepjbabnnabGreatDoor

/- The walk of spec.l1In. -/
namespace Go.Proofs.YtdibmepjbabnnabGreatDoor
open Go.RowKit

set_option maxHeartbeats 400000 in
theorem l1In_any (x l m : Int) (w : World) : Calls Tryz.prog 19 #[.int .i64 x, .int .i64 l, .int .i64 m] w fun e w' => e = .returned (.bool (inB x l m)) ∧ w' = w := by
  by_cases h1 : l ≤ x
  · by_cases h2 : x ≤ m
    · have HB : Hid (inB x l m = true) := by simp [Hid, inB, h1, h2]
      go_enter Tryz.func19, Tryz.ntmps19
      go_wp2
      go_ret
      exact ⟨ret_bool HB.out.symm, rfl⟩
    · have HB : Hid (inB x l m = false) := by simp [Hid, inB, h2]
      go_enter Tryz.func19, Tryz.ntmps19
      go_wp2
      go_ret
      exact ⟨ret_bool HB.out.symm, rfl⟩
  · have HB : Hid (inB x l m = false) := by simp [Hid, inB, h1]
    go_enter Tryz.func19, Tryz.ntmps19
    go_wp2
    go_ret
    exact ⟨ret_bool HB.out.symm, rfl⟩

end Go.Proofs.YtdibmepjbabnnabGreatDoor

/- Plain mathematics: the digits of a number. -/
namespace Go.Proofs.YtdibmepjbabnnabGreatDoor

/-- The digits of a number, in so many steps at most. -/
def decN : Nat → Nat → List Int
  | 0, n => [((48 + n : Nat) : Int)]
  | f + 1, n => if n < 10 then [((48 + n : Nat) : Int)] else decN f (n / 10) ++ [((48 + n % 10 : Nat) : Int)]
/-- The digits of a number. -/
def decOf (n : Nat) : List Int := decN n n
theorem decN_succ (f : Nat) : ∀ n, n ≤ f → decN f n = decN (f + 1) n := by
  induction f with
  | zero => intro n h; obtain rfl : n = 0 := by omega
            rfl
  | succ f ih =>
    intro n h
    unfold decN
    split
    · rfl
    · rw [ih (n / 10) (by omega)]
theorem decN_add (n d : Nat) : decN (n + d) n = decN n n := by
  induction d with
  | zero => rfl
  | succ d ih => rw [← ih, ← Nat.add_assoc, ← decN_succ (n + d) n (by omega)]
/-- A number's text, a minus ahead below 0. -/
def numText (z : Int) : List Int := if z < 0 then 45 :: decOf (-z).toNat else decOf z.toNat

theorem decOf_small (n : Nat) (h : n < 10) : decOf n = [((48 + n : Nat) : Int)] := by
  unfold decOf
  cases n with
  | zero => rfl
  | succ m => rw [decN, if_pos h]
theorem decOf_big (n : Nat) (h : ¬ n < 10) : decOf n = decOf (n / 10) ++ [((48 + n % 10 : Nat) : Int)] := by
  unfold decOf
  obtain ⟨m, rfl⟩ : ∃ m, n = m + 1 := ⟨n - 1, by omega⟩
  rw [decN, if_neg h]
  have e : m = (m + 1) / 10 + (m - (m + 1) / 10) := by omega
  have := decN_add ((m + 1) / 10) (m - (m + 1) / 10)
  rw [← e] at this
  rw [this]

theorem decOf_len (k : Nat) : ∀ n, n < 10 ^ (k + 1) → (decOf n).length ≤ k + 1 := by
  induction k with
  | zero => intro n h; rw [decOf_small n (by omega)]; simp
  | succ k ih =>
    intro n h
    by_cases h10 : n < 10
    · rw [decOf_small n h10]; simp
    · rw [decOf_big n h10]
      have := ih (n / 10) (by rw [Nat.pow_succ] at h; omega)
      simp; omega
end Go.Proofs.YtdibmepjbabnnabGreatDoor

/- Plain mathematics of numbers in texts: which texts are numbers, and what they are. -/
namespace Go.Proofs.YtdibmepjbabnnabGreatDoor

theorem snocRec {motive : List Int → Prop} (nil : motive []) (append_singleton : ∀ (D : List Int) (c : Int), motive D → motive (D ++ [c])) (D : List Int) : motive D := by
  have key : ∀ E : List Int, motive E.reverse := by
    intro E
    induction E with
    | nil => exact nil
    | cons c r ih => rw [List.reverse_cons]; exact append_singleton _ _ ih
  have := key D.reverse
  rwa [List.reverse_reverse] at this

def isDig (c : Int) : Bool := inB c 48 57
def digStep (n : Nat) (c : Int) : Nat := n * 10 + (c - 48).toNat
def digVal (D : List Int) : Nat := D.foldl digStep 0
def digOk (minus : Bool) (D : List Int) : Bool := inB D.length 1 9 && (!(decide (1 < D.length) && decide (D.getD 0 0 = 48)) && (!(minus && decide (D = [48])) && D.all isDig))
def numMinus (L : List Int) : Bool := decide (0 < L.length) && decide (L.getD 0 0 = 45)
def numBody (L : List Int) : List Int := if numMinus L then L.drop 1 else L
def signed (minus : Bool) (n : Nat) : Int := if minus then -(n : Int) else n
/-- The number that a text is, if it is one. -/
def numberOf (L : List Int) : Option Int := if digOk (numMinus L) (numBody L) then some (signed (numMinus L) (digVal (numBody L))) else none

theorem digVal_snoc (D : List Int) (c : Int) : digVal (D ++ [c]) = digVal D * 10 + (c - 48).toNat := by simp [digVal, digStep]
theorem digVal_take (D : List Int) (k : Nat) (h : k < D.length) : digVal (D.take (k + 1)) = digVal (D.take k) * 10 + (D.getD k 0 - 48).toNat := by
  rw [List.take_succ_eq_append_getElem h, digVal_snoc]
  simp [List.getD, h]
theorem isDig_bd {c : Int} (h : isDig c = true) : 48 ≤ c ∧ c ≤ 57 := by simpa [isDig, inB] using h

theorem digVal_lt (D : List Int) (h : ∀ z ∈ D, isDig z = true) : digVal D < 10 ^ D.length := by
  induction D using snocRec with
  | nil => simp [digVal]
  | append_singleton D c ih =>
    have h1 := ih (fun z hz => h z (by simp [hz]))
    have h2 := isDig_bd (h c (by simp))
    rw [digVal_snoc, List.length_append, List.length_singleton, Nat.pow_succ]
    omega

theorem decOf_dig (n : Nat) : ∀ z ∈ decOf n, isDig z = true := by
  induction n using Nat.strongRecOn with
  | _ n ih =>
    intro z hz
    by_cases h : n < 10
    · rw [decOf_small n h] at hz
      simp at hz
      subst hz
      unfold isDig inB; rw [decide_eq_true_eq]; omega
    · rw [decOf_big n h, List.mem_append] at hz
      rcases hz with hz | hz
      · exact ih (n / 10) (by omega) z hz
      · simp at hz
        subst hz
        unfold isDig inB; rw [decide_eq_true_eq]; omega
theorem decOf_val (n : Nat) : digVal (decOf n) = n := by
  induction n using Nat.strongRecOn with
  | _ n ih =>
    by_cases h : n < 10
    · rw [decOf_small n h]; simp [digVal, digStep]; omega
    · rw [decOf_big n h, digVal_snoc, ih (n / 10) (by omega)]
      omega
theorem decOf_pos (n : Nat) : 0 < (decOf n).length := by
  by_cases h : n < 10
  · rw [decOf_small n h]; simp
  · rw [decOf_big n h]; simp
/-- No nought ahead, but of 0 itself. -/
theorem decOf_head (n : Nat) : 0 < n → (decOf n).getD 0 0 ≠ 48 := by
  induction n using Nat.strongRecOn with
  | _ n ih =>
    intro hn
    by_cases h : n < 10
    · rw [decOf_small n h]; simp; omega
    · rw [decOf_big n h]
      have hp := decOf_pos (n / 10)
      have := ih (n / 10) (by omega) (by omega)
      have e : (decOf (n / 10) ++ [((48 + n % 10 : Nat) : Int)]).getD 0 0 = (decOf (n / 10)).getD 0 0 := by
        simp only [List.getD]
        rw [List.getElem?_append_left hp]
      rw [e]
      exact this

theorem head_val (D : List Int) (h : ∀ z ∈ D, isDig z = true) (hp : 0 < D.length) (h0 : D.getD 0 0 ≠ 48) : 0 < digVal D := by
  induction D using snocRec with
  | nil => simp at hp
  | append_singleton D c ih =>
    rw [digVal_snoc]
    by_cases hD : D = []
    · subst hD
      have := isDig_bd (h c (by simp))
      simp at h0
      simp [digVal]; omega
    · have hpD := List.length_pos_iff.2 hD
      have e : (D ++ [c]).getD 0 0 = D.getD 0 0 := by simp only [List.getD]; rw [List.getElem?_append_left hpD]
      rw [e] at h0
      have := ih (fun z hz => h z (by simp [hz])) hpD h0
      omega
/-- Digits without needless noughts are the digits of what they are. -/
theorem decOf_back (D : List Int) (h : ∀ z ∈ D, isDig z = true) (hp : 0 < D.length) (h0 : 1 < D.length → D.getD 0 0 ≠ 48) : decOf (digVal D) = D := by
  induction D using snocRec with
  | nil => simp at hp
  | append_singleton D c ih =>
    have hc := isDig_bd (h c (by simp))
    by_cases hD : D = []
    · subst hD
      rw [show digVal ([] ++ [c]) = (c - 48).toNat from by simp [digVal, digStep], decOf_small _ (by omega)]
      simp; omega
    · have hpD := List.length_pos_iff.2 hD
      have hd : ∀ z ∈ D, isDig z = true := fun z hz => h z (by simp [hz])
      have e : (D ++ [c]).getD 0 0 = D.getD 0 0 := by simp only [List.getD]; rw [List.getElem?_append_left hpD]
      have hne : D.getD 0 0 ≠ 48 := by rw [← e]; exact h0 (by simp; omega)
      have hv := head_val D hd hpD hne
      rw [digVal_snoc, decOf_big _ (by omega)]
      have e1 : (digVal D * 10 + (c - 48).toNat) / 10 = digVal D := by omega
      have e2 : ((48 + (digVal D * 10 + (c - 48).toNat) % 10 : Nat) : Int) = c := by omega
      rw [e1, e2, ih hd hpD (fun _ => hne)]

theorem digOk_parts {m : Bool} {D : List Int} (h : digOk m D = true) : (1 ≤ D.length ∧ D.length ≤ 9) ∧ (1 < D.length → D.getD 0 0 ≠ 48) ∧ (m = true → D ≠ [48]) ∧ (∀ z ∈ D, isDig z = true) := by
  simp only [digOk, Bool.and_eq_true, Bool.not_eq_true', Bool.and_eq_false_iff, decide_eq_false_iff_not, inB, decide_eq_true_eq, List.all_eq_true] at h
  refine ⟨⟨by omega, by omega⟩, ?_, ?_, h.2.2.2⟩
  · intro h1 h2
    rcases h.2.1 with h3 | h3
    · exact h3 h1
    · exact h3 h2
  · intro h1 h2
    rcases h.2.2.1 with h3 | h3
    · rw [h1] at h3; cases h3
    · exact h3 h2
theorem digOk_mk {m : Bool} {D : List Int} (h1 : 1 ≤ D.length) (h2 : D.length ≤ 9) (h3 : 1 < D.length → D.getD 0 0 ≠ 48) (h4 : m = true → D ≠ [48]) (h5 : ∀ z ∈ D, isDig z = true) : digOk m D = true := by
  simp only [digOk, Bool.and_eq_true, Bool.not_eq_true', Bool.and_eq_false_iff, decide_eq_false_iff_not, inB, decide_eq_true_eq, List.all_eq_true]
  refine ⟨by omega, ?_, ?_, h5⟩
  · by_cases h : 1 < D.length
    · exact .inr (h3 h)
    · exact .inl h
  · cases m with
    | false => exact .inl rfl
    | true => exact .inr (h4 rfl)

/-- A text that is a number is that number's text. -/
theorem number_text (L : List Int) (z : Int) (h : numberOf L = some z) : numText z = L ∧ -1000000000 < z ∧ z < 1000000000 := by
  unfold numberOf at h
  split at h
  · rename_i hok
    obtain ⟨⟨h1, h2⟩, h3, h4, h5⟩ := digOk_parts hok
    have hz : signed (numMinus L) (digVal (numBody L)) = z := by simpa using h
    have hb := decOf_back (numBody L) h5 (by omega) h3
    have hlt := digVal_lt (numBody L) h5
    have hp : 10 ^ (numBody L).length ≤ 10 ^ 9 := Nat.pow_le_pow_right (by omega) h2
    have h9 : (10 : Nat) ^ 9 = 1000000000 := by decide
    cases hm : numMinus L with
    | false =>
      rw [hm] at hz
      have e : numBody L = L := by unfold numBody; rw [hm]; rfl
      rw [e] at hb hz hlt hp
      simp only [signed] at hz
      subst hz
      refine ⟨?_, by simp; omega, by simp; omega⟩
      unfold numText
      simp only [Bool.false_eq_true, if_false]
      rw [if_neg (by omega), Int.toNat_natCast]
      exact hb
    | true =>
      rw [hm] at hz h4
      have e : numBody L = L.drop 1 := by unfold numBody; rw [hm]; rfl
      rw [e] at hb hz hlt hp h1 h3 h4 h5
      have hpos : 0 < digVal (L.drop 1) := by
        by_cases hl : 1 < (L.drop 1).length
        · exact head_val _ h5 (by omega) (h3 hl)
        · have h6 := h4 rfl
          apply head_val _ h5 (by omega)
          intro h7
          apply h6
          match hd : L.drop 1, h1 with
          | [x], _ => rw [hd] at h7; simp at h7; rw [h7]
          | x :: y :: r, _ => rw [hd] at hl; simp at hl
      simp only [signed, if_true] at hz
      subst hz
      refine ⟨?_, by omega, by omega⟩
      unfold numText
      rw [if_pos (by omega), show (- -((digVal (L.drop 1) : Nat) : Int)).toNat = digVal (L.drop 1) from by omega, hb]
      have hm' := hm
      simp only [numMinus, Bool.and_eq_true, decide_eq_true_eq] at hm'
      match L, hm' with
      | x :: r, hm' => simp at hm'; simp [hm'] 
  · simp at h

/-- .. and back. -/
theorem text_number (z : Int) (h : -1000000000 < z ∧ z < 1000000000) : numberOf (numText z) = some z := by
  have key : ∀ n : Nat, n < 1000000000 → (decOf n).length ≤ 9 := fun n hn => decOf_len 8 n (by omega)
  have hne : ∀ n : Nat, numMinus (decOf n) = false := by
    intro n
    unfold numMinus
    have hd := decOf_dig n
    have hp := decOf_pos n
    have hm : (decOf n).getD 0 0 ∈ decOf n := by simp [List.getD, hp]
    have := isDig_bd (hd _ hm)
    simp only [Bool.and_eq_false_iff, decide_eq_false_iff_not]
    right; omega
  have hok : ∀ (n : Nat) (m : Bool), n < 1000000000 → (m = true → 0 < n) → digOk m (decOf n) = true := by
    intro n m hn hm
    have hp := decOf_pos n
    refine digOk_mk (by omega) (key n hn) ?_ ?_ (decOf_dig n)
    · intro hl
      apply decOf_head
      by_cases h0 : n < 10
      · rw [decOf_small n h0] at hl; simp at hl
      · omega
    · intro h1 h2
      have := decOf_val n
      rw [h2] at this
      have := hm h1
      simp [digVal, digStep] at *
      omega
  by_cases h0 : z < 0
  · have e : numText z = 45 :: decOf (-z).toNat := by unfold numText; rw [if_pos h0]
    have hm : numMinus (numText z) = true := by rw [e]; simp [numMinus]
    have hb : numBody (numText z) = decOf (-z).toNat := by unfold numBody; rw [hm, e]; rfl
    unfold numberOf
    rw [hm, hb, if_pos (hok _ true (by omega) (fun _ => by omega)), decOf_val]
    simp [signed]; omega
  · have e : numText z = decOf z.toNat := by unfold numText; rw [if_neg h0]
    have hm : numMinus (numText z) = false := by rw [e]; exact hne _
    have hb : numBody (numText z) = decOf z.toNat := by unfold numBody; rw [hm, e]; rfl
    unfold numberOf
    rw [hm, hb, if_pos (hok _ false (by omega) (fun h => by cases h)), decOf_val]
    simp [signed]; omega
end Go.Proofs.YtdibmepjbabnnabGreatDoor

/- The bytes of a text. -/
namespace Go.Proofs.YtdibmepjbabnnabGreatDoor

def sBytes (s : ByteArray) : List Int := s.data.toList.map fun b => (b.toNat : Int)

theorem sBytes_len (s : ByteArray) : (sBytes s).length = s.size := by
  rw [sBytes, List.length_map, Array.length_toList]; rfl
theorem sBytes_byte (s : ByteArray) : ∀ z ∈ sBytes s, 0 ≤ z ∧ z < 256 := by
  intro z hz
  simp only [sBytes, List.mem_map] at hz
  obtain ⟨b, _, rfl⟩ := hz
  have := b.toNat_lt
  omega

theorem sBytes_extract (s : ByteArray) (a b : Nat) : sBytes (s.extract a b) = ((sBytes s).drop a).take (b - a) := by
  unfold sBytes
  rw [ByteArray.data_extract, Array.toList_extract, List.map_take, List.map_drop]

theorem sBytes_step (s : ByteArray) (f p : Nat) (h : f ≤ p) : (sBytes s).take f ++ sBytes (s.extract f p) = (sBytes s).take p := by
  rw [sBytes_extract, ← List.take_add, Nat.add_sub_cancel' h]

theorem sBytes_rest (s : ByteArray) (f : Nat) (h : f ≤ s.size) : (sBytes s).take f ++ sBytes (s.extract f s.size) = sBytes s := by
  rw [sBytes_step s f s.size h, List.take_of_length_le (by rw [sBytes_len]; exact Nat.le_refl _)]

end Go.Proofs.YtdibmepjbabnnabGreatDoor

/- The walk of spec.l2Number. -/
namespace Go.Proofs.YtdibmepjbabnnabGreatDoor
open Go.RowKit

theorem byte_at (s : ByteArray) (j : Nat) (h : j < s.size) : (((s[j]'h).toNat : Nat) : Int) = (sBytes s).getD j 0 := by
  have hl : j < s.data.toList.length := by simpa using h
  have : (sBytes s)[j]? = some (((s[j]'h).toNat : Nat) : Int) := by
    unfold sBytes
    rw [List.getElem?_map, List.getElem?_eq_getElem hl]
    simp only [Option.map_some]
    rfl
  simp [List.getD, this]

theorem sBytes_size (s : ByteArray) : s.size = (sBytes s).length := (sBytes_len s).symm
theorem sBytes_inj {a b : ByteArray} (h : sBytes a = sBytes b) : a = b := by
  apply ByteArray.ext
  apply Array.ext'
  unfold sBytes at h
  have hinj : Function.Injective (fun b : UInt8 => ((b.toNat : Nat) : Int)) := by
    intro x y hxy
    have : x.toNat = y.toNat := Int.ofNat.inj hxy
    exact UInt8.toNat_inj.1 this
  exact (List.map_inj_right (fun x y hxy => hinj hxy)).1 h

/-- What l2Number answers. -/
def numAns : Option Int → Value
  | some z => .tuple #[.int .i64 z, .bool true]
  | none => .tuple #[.int .i64 0, .bool false]

theorem number_none (L : List Int) (h : digOk (numMinus L) (numBody L) = false) : numberOf L = none := by unfold numberOf; rw [if_neg (by rw [h]; decide)]
theorem number_some (L : List Int) (h : digOk (numMinus L) (numBody L) = true) : numberOf L = some (signed (numMinus L) (digVal (numBody L))) := by unfold numberOf; rw [if_pos h]

theorem digOk_len {m : Bool} {D : List Int} (h : inB D.length 1 9 = false) : digOk m D = false := by simp [digOk, h]
theorem digOk_nought {m : Bool} {D : List Int} (h1 : 1 < D.length) (h2 : D.getD 0 0 = 48) : digOk m D = false := by
  by_cases h : digOk m D = true
  · exact absurd h2 ((digOk_parts h).2.1 h1)
  · simpa using h
theorem digOk_minus {D : List Int} (h2 : D = [48]) : digOk true D = false := by
  by_cases h : digOk true D = true
  · exact absurd h2 ((digOk_parts h).2.2.1 rfl)
  · simpa using h
theorem digOk_not {m : Bool} {D : List Int} (j : Nat) (hj : j < D.length) (h : isDig (D.getD j 0) = false) : digOk m D = false := by
  by_cases hk : digOk m D = true
  · have := (digOk_parts hk).2.2.2 (D.getD j 0) (by simp [List.getD, hj])
    rw [h] at this; cases this
  · simpa using hk
theorem digOk_all {m : Bool} {D : List Int} (h1 : inB D.length 1 9 = true) (h3 : ¬ (1 < D.length ∧ D.getD 0 0 = 48)) (h4 : m = true → D ≠ [48]) (h5 : ∀ t, t < D.length → isDig (D.getD t 0) = true) : digOk m D = true := by
  have hb : 1 ≤ D.length ∧ D.length ≤ 9 := by simp [inB] at h1; omega
  refine digOk_mk hb.1 hb.2 (fun h e => h3 ⟨h, e⟩) h4 ?_
  intro z hz
  obtain ⟨j, hj, rfl⟩ := List.getElem_of_mem hz
  have := h5 j hj
  simpa [List.getD, hj] using this

end Go.Proofs.YtdibmepjbabnnabGreatDoor
