/- Several texts in one, in their order. -/
import Derived.Test.YtekljhabjkmhpabDoorPart3
import Derived.WalkKit
import Derived.Test.YtekljhabjkmhpabDoorPart2
import Derived.Deep.QuietTactic
import Derived.BigQuiet
import Derived.Test.YtekljhabjkmhpabDoorPart1
import Derived.Deep.AppendLies
import Derived.Laws.AppendOwnNone
import Derived.Deep.Cut
/- Who waits for whom, and who comes back to itself. -/
namespace Go.Proofs.YtekljhabjkmhpabDoor

def hasZ (G : List GrantV) (tx res : Int) : Int := if 0 ≤ placeZ (atB tx res) G then (G.getD (placeZ (atB tx res) G).toNat zeroG).mode else 0
def wouldZ (G : List GrantV) (g : GrantV) : Int := if 0 ≤ placeZ (atB g.tx g.res) G then bothZ g.mode (G.getD (placeZ (atB g.tx g.res) G).toNat zeroG).mode else g.mode
def wouldS (G : List GrantV) (g : GrantV) : Int := if hasZ G g.tx g.res = 0 then g.mode else bothZ (hasZ G g.tx g.res) g.mode
/-- All modes are modes. -/
def ModesOk (G : List GrantV) : Prop := ∀ g ∈ G, modeB g.mode = true
theorem mem_getD {α : Type} {ls : List α} {k : Nat} (h : k < ls.length) (z : α) : ls.getD k z ∈ ls := by simp [List.getD, h]
theorem would_same {G : List GrantV} (hG : ModesOk G) (g : GrantV) : wouldS G g = wouldZ G g := by
  unfold wouldS wouldZ hasZ
  by_cases h : 0 ≤ placeZ (atB g.tx g.res) G
  · obtain ⟨k, hk, e⟩ := placeZ_lt h
    have hm := hG _ (mem_getD hk zeroG)
    rw [if_pos h, if_pos h, e, Int.toNat_natCast, if_neg, bothZ_symm]
    have := (modeB_iff _).1 hm
    omega
  · rw [if_neg h, if_neg h, if_pos rfl]
def wouldG (G : List GrantV) (g : GrantV) : GrantV := ⟨g.tx, g.res, wouldZ G g⟩
/-- Whom the one at place k waits for. -/
def forL (G V : List GrantV) (k : Nat) : List Int := (G.filter (barsB (wouldG G (V.getD k zeroG)))).map (·.tx) ++ ((V.take k).filter (fun h => h.res == (V.getD k zeroG).res)).map (·.tx)

theorem filter_step {α β : Type} (p : α → Bool) (f : α → β) (ls : List α) (z : α) (k : Nat) (h : k < ls.length) : ((ls.take (k + 1)).filter p).map f = if p (ls.getD k z) = true then ((ls.take k).filter p).map f ++ [f (ls.getD k z)] else ((ls.take k).filter p).map f := by
  rw [take_step ls z k h, List.filter_append, List.map_append]
  by_cases hp : p (ls.getD k z) = true
  · rw [if_pos hp, List.filter_cons_of_pos hp]; rfl
  · rw [if_neg hp, List.filter_cons_of_neg hp]; simp
theorem filter_len {α β : Type} (p : α → Bool) (f : α → β) (ls : List α) (k : Nat) : (((ls.take k).filter p).map f).length ≤ ls.length := by
  rw [List.length_map]
  exact Nat.le_trans (List.length_filter_le _ _) (by rw [List.length_take]; omega)

inductive ReachE (R : Int → Int → Prop) (x : Int) : Int → Prop where
  | refl : ReachE R x x
  | step {y z : Int} : ReachE R x y → R y z → ReachE R x z
/-- One comes back to itself. -/
def BackE (R : Int → Int → Prop) (x : Int) : Prop := ∃ y, ReachE R x y ∧ R y x
theorem back_none {R : Int → Int → Prop} {x : Int} (S : Int → Prop) (h0 : S x) (h : ∀ y, S y → ∀ z, R y z → S z ∧ z ≠ x) : ¬ BackE R x := by
  rintro ⟨y, hy, hr⟩
  have : S y := by
    clear hr
    induction hy with
    | refl => exact h0
    | step _ hr' ih => exact (h _ ih _ hr').1
  exact (h y this x hr).2 rfl
theorem reach_first {R : Int → Int → Prop} {x y : Int} (h : ReachE R x y) : y = x ∨ ∃ z, R x z := by
  induction h with
  | refl => exact .inl rfl
  | step h hr ih =>
    rcases ih with rfl | hz
    · exact .inr ⟨_, hr⟩
    · exact .inr hz
theorem back_first {R : Int → Int → Prop} {x : Int} (h : BackE R x) : ∃ z, R x z := by
  obtain ⟨y, hy, hr⟩ := h
  rcases reach_first hy with rfl | hz
  · exact ⟨_, hr⟩
  · exact hz
theorem back_congr {R R' : Int → Int → Prop} (h : ∀ x y, R x y ↔ R' x y) (x : Int) : BackE R x ↔ BackE R' x := by
  have e : R = R' := by funext a b; exact propext (h a b)
  rw [e]

def EdgeL (G V : List GrantV) (x y : Int) : Prop := ∃ k, k < V.length ∧ (V.getD k zeroG).tx = x ∧ y ∈ forL G V k
theorem edge_from {G V : List GrantV} {x y : Int} (h : EdgeL G V x y) : ∃ k, k < V.length ∧ (V.getD k zeroG).tx = x := by
  obtain ⟨k, hk, e, _⟩ := h
  exact ⟨k, hk, e⟩

/-- The greatest that comes back to itself; 0: none does. -/
def StuckIs (G V : List GrantV) (s : Int) : Prop := (s = 0 ∨ (1 ≤ s ∧ s ≤ 99 ∧ BackE (EdgeL G V) s)) ∧ ∀ x, s < x → x ≤ 99 → ¬ BackE (EdgeL G V) x
theorem stuck_one {G V : List GrantV} {s t : Int} (h : StuckIs G V s) (k : StuckIs G V t) (h0 : 0 ≤ s ∧ 0 ≤ t) : s = t := by
  rcases Int.lt_trichotomy s t with e | e | e
  · rcases k.1 with e' | ⟨k1, k2, k3⟩
    · omega
    · exact absurd k3 (h.2 t e k2)
  · exact e
  · rcases h.1 with e' | ⟨k1, k2, k3⟩
    · omega
    · exact absurd k3 (k.2 s e k2)

/-- Locks that are right: what of it the waits need. -/
structure Right (G V : List GrantV) : Prop where
  modes : ModesOk G
  gtx : ∀ g ∈ G, 1 ≤ g.tx ∧ g.tx ≤ 99
  wtx : ∀ g ∈ V, 1 ≤ g.tx ∧ g.tx ≤ 99
  once : ∀ i j, i < V.length → j < V.length → (V.getD i zeroG).tx = (V.getD j zeroG).tx → i = j
  lg : G.length ≤ 60
  lw : V.length ≤ 60
theorem grantB_out {g : GrantV} (h : grantB g = true) : (1 ≤ g.tx ∧ g.tx ≤ 99) ∧ (0 ≤ g.res ∧ g.res ≤ 99) ∧ modeB g.mode = true := by
  simp only [grantB, inB, Bool.and_eq_true, decide_eq_true_eq] at h
  exact ⟨h.1, h.2.1, h.2.2⟩
theorem getD_of_mem {α : Type} {ls : List α} {x : α} (z : α) (h : x ∈ ls) : ∃ k, k < ls.length ∧ ls.getD k z = x := by
  obtain ⟨k, hk, rfl⟩ := List.getElem_of_mem h
  exact ⟨k, hk, by simp [List.getD, hk]⟩
theorem right_of {G V : List GrantV} (h : okLocks G V = true) : Right G V := by
  obtain ⟨h1, h2, h3, h4⟩ := okLocks_out h
  have g3 : ∀ g ∈ G, grantB g = true := fun g hg => by
    obtain ⟨k, hk, rfl⟩ := getD_of_mem zeroG hg
    have := h3 k hk
    simp only [givenAt, Bool.and_eq_true] at this
    exact this.1
  have g4 : ∀ g ∈ V, grantB g = true := fun g hg => by
    obtain ⟨k, hk, rfl⟩ := getD_of_mem zeroG hg
    have := h4 k hk
    simp only [waitAt, Bool.and_eq_true] at this
    exact this.1
  have lt : ∀ i j, i < j → j < V.length → (V.getD i zeroG).tx ≠ (V.getD j zeroG).tx := fun i j hij hj e => by
    have := h4 j hj
    simp only [waitAt, Bool.and_eq_true, Bool.not_eq_true'] at this
    have h5 := List.any_eq_false.1 this.2 (V.getD i zeroG) (by
      have : (V.take j).getD i zeroG = V.getD i zeroG := by simp [List.getD, hij]
      rw [← this]; exact mem_getD (by rw [List.length_take]; omega) _)
    exact h5 (by rw [e]; simp)
  refine ⟨fun g hg => (grantB_out (g3 g hg)).2.2, fun g hg => (grantB_out (g3 g hg)).1, fun g hg => (grantB_out (g4 g hg)).1, fun i j hi hj e => ?_, h1, h2⟩
  rcases Nat.lt_trichotomy i j with h | h | h
  · exact absurd e (lt i j h hj)
  · exact h
  · exact absurd e.symm (lt j i h hi)
theorem forL_in {G V : List GrantV} (h : Right G V) (k : Nat) : ∀ y ∈ forL G V k, 1 ≤ y ∧ y ≤ 99 := by
  intro y hy
  simp only [forL, List.mem_append, List.mem_map, List.mem_filter] at hy
  rcases hy with ⟨g, ⟨hg, _⟩, rfl⟩ | ⟨g, ⟨hg, _⟩, rfl⟩
  · exact h.gtx g hg
  · exact h.wtx g (List.mem_of_mem_take hg)
theorem forL_len (G V : List GrantV) (k : Nat) : (forL G V k).length ≤ G.length + V.length := by
  simp only [forL, List.length_append, List.length_map]
  have h1 := List.length_filter_le (barsB (wouldG G (V.getD k zeroG))) G
  have h2 := List.length_filter_le (fun h : GrantV => h.res == (V.getD k zeroG).res) (V.take k)
  rw [List.length_take] at h2
  omega
theorem edge_to {G V : List GrantV} (h : Right G V) {x y : Int} (he : EdgeL G V x y) : 1 ≤ y ∧ y ≤ 99 := by
  obtain ⟨k, _, _, hy⟩ := he
  exact forL_in h k y hy

theorem few {n : Nat} : ∀ {l : List Int}, l.Nodup → (∀ x ∈ l, 1 ≤ x ∧ x ≤ n) → l.length ≤ n := by
  induction n with
  | zero =>
    intro l _ h
    cases l with
    | nil => exact Nat.le_refl _
    | cons a r => have := h a List.mem_cons_self; omega
  | succ n ih =>
    intro l hd h
    by_cases hm : ((n + 1 : Nat) : Int) ∈ l
    · have h1 : (l.erase ((n + 1 : Nat) : Int)).length ≤ n := ih (hd.erase _) (fun x hx => by
        have h2 := h x (List.mem_of_mem_erase hx)
        have h3 : x ≠ ((n + 1 : Nat) : Int) := fun e => by subst e; exact hd.not_mem_erase hx
        omega)
      rw [List.length_erase_of_mem hm] at h1
      omega
    · have := ih hd (fun x hx => by
        have h2 := h x hx
        have h3 : x ≠ ((n + 1 : Nat) : Int) := fun e => by subst e; exact hm hx
        omega)
      omega
end Go.Proofs.YtekljhabjkmhpabDoor

/- Plain mathematics of the sum: one bit, eight bits, a list of bytes; what stays below 2 to the 32. -/
namespace Go.Proofs.YtekljhabjkmhpabDoor

def crcBit (x : Nat) : Nat := if x % 2 = 1 then (x / 2) ^^^ 3988292384 else x / 2
def crcBits : Nat → Nat → Nat
  | 0, x => x
  | k + 1, x => crcBit (crcBits k x)
def crcByte (x : Nat) (c : Nat) : Nat := crcBits 8 (x ^^^ c)
def crcTo (zs : List Int) (k : Nat) : Nat := (zs.take k).foldl (fun x c => crcByte x c.toNat) 4294967295
def crcOf (zs : List Int) : Nat := 4294967295 ^^^ crcTo zs zs.length

theorem crcBit_lt (x : Nat) (h : x < 4294967296) : crcBit x < 4294967296 := by
  unfold crcBit
  split
  · exact Nat.xor_lt_two_pow (n := 32) (by omega) (by omega)
  · omega

theorem crcBits_lt (k x : Nat) (h : x < 4294967296) : crcBits k x < 4294967296 := by
  induction k with
  | zero => exact h
  | succ k ih => exact crcBit_lt _ ih

theorem xor_byte_lt (x c : Nat) (h : x < 4294967296) (hc : c < 256) : x ^^^ c < 4294967296 :=
  Nat.xor_lt_two_pow (n := 32) (by omega) (by omega)

theorem crcByte_lt (x c : Nat) (h : x < 4294967296) (hc : c < 256) : crcByte x c < 4294967296 :=
  crcBits_lt 8 _ (xor_byte_lt x c h hc)

theorem crcTo_zero (zs : List Int) : crcTo zs 0 = 4294967295 := by simp [crcTo]

theorem crcTo_succ (zs : List Int) (k : Nat) (h : k < zs.length) : crcTo zs (k + 1) = crcByte (crcTo zs k) (zs.getD k 0).toNat := by
  unfold crcTo
  rw [List.take_succ_eq_append_getElem h, List.foldl_append]
  simp [h]

theorem crcTo_lt (zs : List Int) (hb : ∀ z ∈ zs, 0 ≤ z ∧ z < 256) (k : Nat) : crcTo zs k < 4294967296 := by
  induction k with
  | zero => rw [crcTo_zero]; omega
  | succ k ih =>
    by_cases h : k < zs.length
    · rw [crcTo_succ zs k h]
      have hm : zs.getD k 0 ∈ zs := by simp [List.getD, h]
      have := hb _ hm
      exact crcByte_lt _ _ ih (by omega)
    · have e : crcTo zs (k + 1) = crcTo zs k := by
        unfold crcTo
        rw [List.take_of_length_le (by omega), List.take_of_length_le (by omega)]
      rw [e]; exact ih

/-- xor of two numbers below 2 to the 32, as an int. -/
theorem i64_xor_nat (a b : Nat) (ha : a < 4294967296) (hb : b < 4294967296) : bits .xor .i64 (a : Int) (b : Int) = ((a ^^^ b : Nat) : Int) := by
  have h : a ^^^ b < 4294967296 := Nat.xor_lt_two_pow (n := 32) (by omega) (by omega)
  have ha' : a % 2 ^ IntKind.i64.bits = a := Nat.mod_eq_of_lt (by simp [IntKind.bits]; omega)
  have hb' : b % 2 ^ IntKind.i64.bits = b := Nat.mod_eq_of_lt (by simp [IntKind.bits]; omega)
  simp only [bits, BitVec.ofInt_natCast, BitVec.toNat_xor, BitVec.toNat_ofNat, ha', hb']
  rw [IntKind.wrap_i64]
  omega

theorem i64_and1 (n : Int) : bits .and .i64 n 1 = n % 2 := by
  have h1 : (BitVec.ofInt 64 1).toNat = 2 ^ 1 - 1 := by decide
  have key : (BitVec.ofInt 64 n &&& BitVec.ofInt 64 1).toNat = (n % ((2 ^ 64 : Nat) : Int)).toNat % 2 ^ 1 := by
    rw [BitVec.toNat_and, BitVec.toNat_ofInt, h1, Nat.and_two_pow_sub_one_eq_mod]
  show IntKind.i64.wrap ((BitVec.ofInt 64 n &&& BitVec.ofInt 64 1).toNat : Nat) = n % 2
  rw [key, IntKind.wrap_i64]
  omega

end Go.Proofs.YtekljhabjkmhpabDoor

/- The cursor of a draw: what spec.l1Byte and spec.l1Below answer and leave. -/
namespace Go.Proofs.YtekljhabjkmhpabDoor
open Go.RowKit

theorem cell_of3 {w : World} {B : Nat} {v0 v1 v2 : Value} {t : TypeId} (h : w.heap[B]? = some (.cells #[v0, v1, v2] t (0, 0))) :
    w.cell? ⟨B, 0, none⟩ = some v0 ∧ w.cell? ⟨B, 1, none⟩ = some v1 ∧ w.cell? ⟨B, 2, none⟩ = some v2 ∧ (∀ o, w.frozen? ⟨B, o, none⟩ = false) := by
  refine ⟨?_, ?_, ?_, fun o => ?_⟩
  · simp [World.cell?, h]
  · simp [World.cell?, h]
  · simp [World.cell?, h]
  · simp [World.frozen?, h]

theorem set_of3 {w : World} {B : Nat} {v0 v1 v2 u : Value} {t : TypeId} (h : w.heap[B]? = some (.cells #[v0, v1, v2] t (0, 0))) :
    (w.setCell ⟨B, 1, none⟩ u).heap[B]? = some (.cells #[v0, u, v2] t (0, 0)) ∧ (w.setCell ⟨B, 2, none⟩ u).heap[B]? = some (.cells #[v0, v1, u] t (0, 0)) := by
  constructor
  · rw [heap_setCell_same w B 1 _ t u h]; simp
  · rw [heap_setCell_same w B 2 _ t u h]; simp

theorem grown_set (w : World) (B o : Nat) (u : Value) : w.grownBy (w.setCell ⟨B, o, none⟩ u) (some B) :=
  ⟨rfl, rfl, rfl, by simp, fun k _ hk => heap_setCell_other w ⟨B, o, none⟩ k u (fun e => hk (by simp [e]))⟩

theorem grown_drew_set (w : World) (n B o : Nat) (u : Value) : w.grownBy ((w.drewN n).setCell ⟨B, o, none⟩ u) (some B) :=
  ⟨rfl, rfl, rfl, by simp, fun k _ hk => heap_setCell_other (w.drewN n) ⟨B, o, none⟩ k u (fun e => hk (by simp [e]))⟩

theorem Reads.grown {w w' : World} {a : Option Addr} {zs : List Int} {B : Nat} (h : Reads w a zs) (hg : w.grownBy w' (some B)) (hne : zs ≠ [] → ∀ b off, a = some ⟨b, off, none⟩ → b ≠ B) : Reads w' a zs := by
  refine ⟨h.1, fun e => ?_⟩
  obtain ⟨b, off, ha, hc⟩ := h.2 e
  refine ⟨b, off, ha, fun i hi => hg.cell (hc i hi) ?_⟩
  intro he
  exact hne e b off ha (Option.some.inj he)

theorem grownBy_new {w w1 w2 : World} {r row : Option Nat} (h : w.grownBy w1 r) (hg : w1.grownBy w2 row) (hrow : ∀ k, row = some k → w.heap.size ≤ k) : w.grownBy w2 r :=
  ⟨hg.os.trans h.os, hg.tape.trans h.tape, hg.output.trans h.output, Nat.le_trans h.size hg.size, fun k hk hr => (hg.block k (Nat.lt_of_lt_of_le hk h.size) (fun e => by have := hrow k e.symm; omega)).trans (h.block k hk hr)⟩

theorem i64_and255 (n : Int) : bits .and .i64 n 255 = n % 256 := by
  have h1 : (BitVec.ofInt 64 255).toNat = 2 ^ 8 - 1 := by decide
  have key : (BitVec.ofInt 64 n &&& BitVec.ofInt 64 255).toNat = (n % ((2 ^ 64 : Nat) : Int)).toNat % 2 ^ 8 := by
    rw [BitVec.toNat_and, BitVec.toNat_ofInt, h1, Nat.and_two_pow_sub_one_eq_mod]
  show IntKind.i64.wrap ((BitVec.ofInt 64 n &&& BitVec.ofInt 64 255).toNat : Nat) = n % 256
  rw [key, IntKind.wrap_i64]
  omega

theorem ret_nat {a : Int} (h0 : 0 ≤ a) : Ending.returned (.int .i64 a) = .returned (.int .i64 ((a.toNat : Nat) : Int)) := by rw [Int.toNat_of_nonneg h0]

end Go.Proofs.YtekljhabjkmhpabDoor

/- The walks of spec.l1Int, l1Bytes and l1New. -/
namespace Go.Proofs.YtekljhabjkmhpabDoor
open Go.RowKit

end Go.Proofs.YtekljhabjkmhpabDoor

/- Appending numbers as a step of a region that draws its order; an object in a box of the call. -/
namespace Go.Proofs.YtekljhabjkmhpabDoor
open Go.RowKit

theorem run_append_ints {w : World} (ty : TypeId) (lo hi : Nat) (a : Option Addr) (c : Nat) (xs : List Int) (hown : OwnI w lo hi a c xs)
    (sa : Option Addr) (sc : Nat) (zs : List Int) (hr : ReadsI w sa zs) (hc : sa = none → sc = 0) (hb : xs.length + zs.length ≤ 1099511627776) (hlo : lo ≤ w.heap.size) :
    ∃ a' c' ys w', (Builtin.append_ #[35, 35] ty #[.slice a xs.length c, .slice sa zs.length sc]).run Tryd.prog w = .ok (.slice a' ys.length c') w' ∧ Hid (ys = xs ++ zs) ∧ OwnI w' lo w'.heap.size a' c' ys ∧ w.grownBy w' (Value.slice a xs.length c).ownBlock ∧
      (∀ k, (Value.slice a' ys.length c').ownBlock = some k → (Value.slice a xs.length c).ownBlock = some k ∨ k = w.heap.size) := by
  obtain ⟨i0, hi0, hz0, hz1, hz2⟩ := info_parts Tryd.infoInt
  cases sa with
  | none =>
    have hz : zs = [] := by
      by_cases e : zs = []
      · exact e
      · obtain ⟨b, off, hh, _⟩ := hr e
        cases hh
    subst hz
    have := hc rfl
    subst this
    refine ⟨a, c, xs, w, run_append_owned_none (P := Tryd.prog) (w := w) lo 35 ty 3 i0 1 Tryd.underlying35 hi0 _ _ _ hown.1, (by simp [Hid]), ⟨hown.1, Nat.le_refl _, fun k hk => (hown.1.lt k hk).2⟩, World.grownBy.refl _ _, fun k hk => .inl hk⟩
  | some ad =>
    obtain ⟨v', w', h1, h2, h3, _, h5⟩ := run_append_own_at (P := Tryd.prog) w lo 35 ty 3 i0 (.int .i64 0) 1 8 Tryd.underlying35 hi0 hz0 hz1 hz2 rfl (by decide) _ _ _ hown.1 ad zs.length sc (zs.map (Value.int .i64)) (by simp) (by
      intro j u hj
      have hjl : j < zs.length := by
        by_cases e : j < zs.length
        · exact e
        · simp [List.getElem?_eq_none (Nat.le_of_not_lt e)] at hj
      have hne : zs ≠ [] := by intro e; simp [e] at hjl
      obtain ⟨b, off, hh, hcell⟩ := hr hne
      cases hh
      rw [Addr_add, hcell j hjl]
      simpa [hjl] using hj) (ints_oneCell _ _) (by simp only [maxLen]; omega) (by omega) hlo
    rw [← List.map_append, ← List.length_append] at h2
    have sh : ∃ a' c', v' = .slice a' (xs ++ zs).length c' := by
      rcases h2.2 with ⟨rfl, h0⟩ | ⟨g, cap, cur, rfl, _⟩
      · exact ⟨none, 0, by rw [h0]⟩
      · exact ⟨_, _, rfl⟩
    obtain ⟨a', c', rfl⟩ := sh
    refine ⟨a', c', xs ++ zs, w', h1, rfl, ⟨h2, Nat.le_refl _, fun k hk => (h2.lt k hk).2⟩, h3, fun k hk => ?_⟩
    rcases h5 with h5 | h5
    · exact .inl (by rw [← h5]; exact hk)
    · rw [h5] at hk
      exact .inr (Option.some.inj hk).symm

theorem step_append_ints {w : World} {ops : Array Oper} {o : Oper} {act : Act} {K : Act → World → Prop} {Q : Exit → Act → World → Prop} {E : Prop} (hgd : o.guard = none) (s x : Operand)
    (ho : o.op = .call { callee := .builtin .append, args := #[s, x], argTypes := #[35, 35] })
    (lo hi : Nat) (a : Option Addr) (c : Nat) (xs : List Int) (hs : act.eval s = .slice a xs.length c) (hown : OwnI w lo hi a c xs)
    (sa : Option Addr) (sc : Nat) (zs : List Int) (hx : act.eval x = .slice sa zs.length sc) (hr : ReadsI w sa zs) (hc : sa = none → sc = 0)
    (hb : xs.length + zs.length ≤ 1099511627776) (hlo : lo ≤ w.heap.size)
    (h : ∀ a' c' ys w', Hid (ys = xs ++ zs) → OwnI w' lo w'.heap.size a' c' ys → w.grownBy w' (Value.slice a xs.length c).ownBlock →
      (∀ k, (Value.slice a' ys.length c').ownBlock = some k → (Value.slice a xs.length c).ownBlock = some k ∨ k = w.heap.size) → K (act.put o.dst (.slice a' ys.length c')) w') :
    if Region.wanted o (yielded ops act.tmps) = true then Oper.wp Tryd.prog o act w K Q else E := by
  have hw : Region.wanted o (yielded ops act.tmps) = true := by simp [Region.wanted, hgd]
  rw [if_pos hw]
  obtain ⟨a', c', ys, w', hrun, h1, h2, h3, h4⟩ := run_append_ints (w := w) o.type lo hi a c xs hown sa sc zs hr hc hb hlo
  unfold Oper.wp execOp
  simp only [ho, resolve, invoke, builtin, Sem.run_bind, Sem.run_pure, Result.andThen_ok, List.map_toArray, List.map_cons, List.map_nil, hs, hx, hrun]
  exact h a' c' ys w' h1 h2 h3 h4

theorem OwnO.kept {w w' : World} {lo hi : Nat} {aI : Option Addr} {cI : Nat} {aR : Option Addr} {cR : Nat} {o : ObjV} {B : Nat} (h : OwnO w lo hi aI cI aR cR o) (hg : w.grownBy w' (some B)) (hB : B < lo) : OwnO w' lo w'.heap.size aI cI aR cR o := by
  have h1 := h.ints.kept hg (fun k hk e => by have := (h.ints.lt k hk).1; cases e; omega)
  have h2 := h.refs.kept hg (fun k hk e => by have := (h.refs.lt k hk).1; cases e; omega)
  exact ⟨h1.widen (Nat.le_refl _) h1.2.1 (Nat.le_refl _), h2.widen (Nat.le_refl _) h2.2.1 (Nat.le_refl _), h.apart⟩

theorem Box.grown {w w' : World} {C B : Nat} {vs : List Value} {t : TypeId} (h : Box w C vs t) (hg : w.grownBy w' (some B)) (hne : C ≠ B) : Box w' C vs t := h.block (hg.block C h.lt (fun e => hne (Option.some.inj e)))
theorem grown_drew (w : World) (r : Option Nat) : w.grownBy w.drew r := ⟨rfl, rfl, rfl, Nat.le_refl _, fun _ _ _ => rfl⟩

end Go.Proofs.YtekljhabjkmhpabDoor

/- The walks of spec.l9Has, l9Would, l9Among, l9For. -/
namespace Go.Proofs.YtekljhabjkmhpabDoor
open Go.RowKit

theorem hasZ_hit {G : List GrantV} {tx res : Int} {k : Nat} (h : k < G.length) (h0 : (G.take k).any (atB tx res) = false) (h1 : atB tx res (G.getD k zeroG) = true) : hasZ G tx res = (G.getD k zeroG).mode := by
  have e := placeZ_hit h h0 h1
  unfold hasZ
  rw [e, if_pos (by omega), Int.toNat_natCast]
theorem hasZ_none {G : List GrantV} {tx res : Int} {k : Nat} (h : ¬ k < G.length) (h0 : (G.take k).any (atB tx res) = false) : hasZ G tx res = 0 := by
  have e := placeZ_end h h0
  unfold hasZ
  rw [e, if_neg (by omega)]

set_option maxHeartbeats 1000000 in
set_option maxRecDepth 100000 in
theorem l9Has_any (G : List GrantV) (aG : Option Addr) (cG : Nat) (vW : Value) (tx res : Int) (w : World) (hG : ReadsG w aG G) (hl : G.length ≤ 1099511627776) :
    Calls Tryd.prog 44 #[.agg #[.slice aG G.length cG, vW], .int .i64 tx, .int .i64 res] w fun e w' => e = .returned (.int .i64 (hasZ G tx res)) ∧ Below w.heap.size w w' := by
  obtain ⟨W, hW, b0, hbW, hsW⟩ := boxes1 w [.slice aG G.length cG, vW] 28
  have hb0 := b0.lt
  have hGW := hG.below hbW
  have HB : Hid (∀ w', Below W.heap.size W w' → Below w.heap.size w w') := fun w' h => hbW.trans (h.mono hbW.size)
  have c0 := b0.cell 0 _ rfl
  clear hG hsW hbW
  have HCG : Hid (∀ k, k < G.length → ∃ b off, aG = some ⟨b, off, none⟩ ∧ W.cell? ⟨b, off + k * 3, none⟩ = some (.int .i64 (G.getD k zeroG).tx) ∧ W.cell? ⟨b, off + k * 3 + 1, none⟩ = some (.int .i64 (G.getD k zeroG).res) ∧ W.cell? ⟨b, off + k * 3 + 2, none⟩ = some (.int .i64 (G.getD k zeroG).mode)) := fun k hk => by
    obtain ⟨b, off, ha, hc⟩ := hGW (by intro e; rw [e] at hk; simp at hk)
    exact ⟨b, off, ha, hc k hk⟩
  clear hGW
  go_enter Tryd.func44, Tryd.ntmps44
  go_wp2
  rw [hW.out]
  go_loop [7] (fun i => ∃ k : Nat, k ≤ G.length ∧ i = .int .i64 k ∧ Hid ((G.take k).any (atB tx res) = false)) (fun i => G.length - (intOf i).toNat)
  case atStart => exact ⟨0, Nat.zero_le _, rfl, rfl⟩
  case round =>
    obtain ⟨k, hk, rfl, hany⟩ := hrel
    have HX := HB.out W (Below.refl _ _)
    by_cases hlt : k < G.length
    · obtain ⟨b, off, rfl, d0, d1, d2⟩ := HCG.out k hlt
      have HN : Hid (atB tx res (G.getD k zeroG) = false → (G.take (k + 1)).any (atB tx res) = false) := any_step hlt hany
      have HH : Hid (atB tx res (G.getD k zeroG) = true → hasZ G tx res = (G.getD k zeroG).mode) := hasZ_hit hlt hany
      clear HCG hany
      generalize G.getD k zeroG = z at *
      by_cases h1 : z.tx = tx
      · by_cases h2 : z.res = res
        · have HR : Hid _ := HH.out (by simp [atB, h1, h2])
          go_wp2
          go_ret
          exact ⟨ret_int HR.out.symm, HX⟩
        · have HR : Hid _ := HN.out (by simp [atB, h2])
          go_wp2
          go_round
          case rel => exact ⟨k + 1, by omega, by go_num, HR.out⟩
          case measure => simp [intOf]; omega
      · have HR : Hid _ := HN.out (by simp [atB, h1])
        go_wp2
        go_round
        case rel => exact ⟨k + 1, by omega, by go_num, HR.out⟩
        case measure => simp [intOf]; omega
    · have HR : Hid _ := hasZ_none hlt hany
      go_wp2
      go_ret
      exact ⟨ret_int HR.out.symm, HX⟩

set_option maxHeartbeats 1000000 in
set_option maxRecDepth 100000 in
theorem l9Would_any (G : List GrantV) (aG : Option Addr) (cG : Nat) (vW : Value) (g : GrantV) (w : World) (hG : ReadsG w aG G) (hl : G.length ≤ 1099511627776) :
    Calls Tryd.prog 45 #[.agg #[.slice aG G.length cG, vW], .agg #[.int .i64 g.tx, .int .i64 g.res, .int .i64 g.mode]] w fun e w' => e = .returned (.int .i64 (wouldS G g)) ∧ Below w.heap.size w w' := by
  obtain ⟨W, hW, b0, b1, hbW, hsW⟩ := boxes2 w [.slice aG G.length cG, vW] [.int .i64 g.tx, .int .i64 g.res, .int .i64 g.mode] 28 46
  have C := l9Has_any G aG cG vW g.tx g.res W (hG.below hbW) hl
  have HS : Hid (wouldS G g = if hasZ G g.tx g.res = 0 then g.mode else bothZ (hasZ G g.tx g.res) g.mode) := rfl
  generalize hasZ G g.tx g.res = hs at *
  generalize wouldS G g = R at *
  go_enter Tryd.func45, Tryd.ntmps45
  go_wp2_with fail
  rw [hW.out]
  refine C.mono ?_
  rintro e w1 ⟨rfl, hb1⟩
  have x2 := (b1.below hb1 b1.lt).cell 2 _ rfl
  have hB : Below w.heap.size w w1 := hbW.trans (hb1.mono hbW.size)
  by_cases h : hs = 0
  · have HR : Hid (R = g.mode) := by rw [Hid, HS.out, if_pos h]
    subst h
    go_wp2
    go_ret
    exact ⟨ret_int HR.out.symm, hB⟩
  · have HR : Hid (R = bothZ hs g.mode) := by rw [Hid, HS.out, if_neg h]
    have C2 := specBoth_any hs g.mode w1
    go_wp2_with fail
    refine C2.mono ?_
    rintro e w2 ⟨rfl, rfl⟩
    go_wp2
    go_ret
    exact ⟨ret_int HR.out.symm, hB⟩

set_option maxHeartbeats 400000 in
set_option maxRecDepth 100000 in
theorem l9Among_any (a : Option Addr) (c : Nat) (ls : List Int) (x : Int) (w : World) (hr : ReadsI w a ls) (hl : ls.length ≤ 1099511627776) :
    Calls Tryd.prog 59 #[.slice a ls.length c, .int .i64 x] w fun e w' => e = .returned (.bool (ls.any (fun g => g == x))) ∧ w' = w := by
  rcases hr.cases with rfl | ⟨b, off, rfl, hpos, hcell⟩
  · go_enter Tryd.func59, Tryd.ntmps59
    go_wp2
    refine wp_loop_rounds 1 ?_
    rw [rounds_succ]
    go_wp2
    go_ret
    exact ⟨rfl, rfl⟩
  · go_enter Tryd.func59, Tryd.ntmps59
    go_wp2
    go_loop [5] (fun i => ∃ k : Nat, k ≤ ls.length ∧ i = .int .i64 k ∧ Hid ((ls.take k).any (fun g => g == x) = false)) (fun i => ls.length - (intOf i).toNat)
    case atStart => exact ⟨0, Nat.zero_le _, rfl, rfl⟩
    case round =>
      obtain ⟨k, hk, rfl, hany⟩ := hrel
      by_cases hlt : k < ls.length
      · have d0 := hcell k hlt
        have HN : Hid ((ls.getD k 0 == x) = false → (ls.take (k + 1)).any (fun g => g == x) = false) := any_step (p := fun g : Int => g == x) hlt hany
        have HH : Hid ((ls.getD k 0 == x) = true → ls.any (fun g => g == x) = true) := any_hit (p := fun g : Int => g == x) hlt
        clear hcell hany
        generalize ls.getD k 0 = z at *
        by_cases h1 : z = x
        · have HR : Hid _ := HH.out (by simp [h1])
          go_wp2
          go_ret
          exact ⟨ret_bool HR.out.symm, rfl⟩
        · have HR : Hid _ := HN.out (by simp [h1])
          go_wp2
          go_round
          case rel => exact ⟨k + 1, by omega, by go_num, HR.out⟩
          case measure => simp [intOf]; omega
      · have HR : Hid _ := any_end hlt hany
        go_wp2
        go_ret
        exact ⟨ret_bool HR.out.symm, rfl⟩

/-- Numbers appended in a loop: the world behind it. -/
theorem below_append {lo : Nat} {W w w' : World} {o : Obj} {a : Option Addr} {c n : Nat} (hb : Below lo W w) (hg : (w.alloc o).grownBy w' (Value.slice a n c).ownBlock) (hlo : ∀ k, (Value.slice a n c).ownBlock = some k → lo ≤ k) (hl : lo ≤ w.heap.size) : Below lo W w' := by
  have hbA : Below lo W (w.alloc o) := hb.trans ((Below.refl _ _).alloc hl _)
  exact hbA.grown hg (by simp; omega) hlo

set_option maxHeartbeats 4000000 in
set_option maxRecDepth 100000 in
theorem l9For_any (G V : List GrantV) (aG : Option Addr) (cG : Nat) (aW : Option Addr) (cW : Nat) (k : Nat) (w : World) (hG : ReadsG w aG G) (hV : ReadsG w aW V) (hlG : G.length ≤ 1000) (hlV : V.length ≤ 1000) (hk : k < V.length) (hm : ModesOk G) :
    Calls Tryd.prog 58 #[.agg #[.slice aG G.length cG, .slice aW V.length cW], .int .i64 (k : Int)] w fun e w' => ∃ a c, e = .returned (.slice a (forL G V k).length c) ∧ OwnI w' w.heap.size w'.heap.size a c (forL G V k) ∧ Below w.heap.size w w' := by
  have HFL : Hid (forL G V k = (G.filter (barsB ⟨(V.getD k zeroG).tx, (V.getD k zeroG).res, wouldZ G (V.getD k zeroG)⟩)).map (·.tx) ++ ((V.take k).filter (fun h => h.res == (V.getD k zeroG).res)).map (·.tx)) := rfl
  generalize forL G V k = FL at *
  obtain ⟨W, hW, b0, hbW, hsW⟩ := boxes1 w [.slice aG G.length cG, .slice aW V.length cW] 28
  have hb0 := b0.lt
  have HB : Hid (∀ w', Below W.heap.size W w' → Below w.heap.size w w') := fun w' h => hbW.trans (h.mono hbW.size)
  have hGW := hG.below hbW
  have hVW := hV.below hbW
  have c1 := b0.cell 1 _ rfl
  clear hG hV
  have HCG : Hid (∀ w', Below W.heap.size W w' → ∀ k, k < G.length → ∃ b off, aG = some ⟨b, off, none⟩ ∧ w'.cell? ⟨b, off + k * 3, none⟩ = some (.int .i64 (G.getD k zeroG).tx) ∧ w'.cell? ⟨b, off + k * 3 + 1, none⟩ = some (.int .i64 (G.getD k zeroG).res) ∧ w'.cell? ⟨b, off + k * 3 + 2, none⟩ = some (.int .i64 (G.getD k zeroG).mode)) := fun w' h k hk => by
    obtain ⟨b, off, ha, hc⟩ := (hGW.below h) (by intro e; rw [e] at hk; simp at hk)
    exact ⟨b, off, ha, hc k hk⟩
  have HCV : Hid (∀ w', Below W.heap.size W w' → ∀ k, k < V.length → ∃ b off, aW = some ⟨b, off, none⟩ ∧ w'.cell? ⟨b, off + k * 3, none⟩ = some (.int .i64 (V.getD k zeroG).tx) ∧ w'.cell? ⟨b, off + k * 3 + 1, none⟩ = some (.int .i64 (V.getD k zeroG).res) ∧ w'.cell? ⟨b, off + k * 3 + 2, none⟩ = some (.int .i64 (V.getD k zeroG).mode)) := fun w' h k hk => by
    obtain ⟨b, off, ha, hc⟩ := (hVW.below h) (by intro e; rw [e] at hk; simp at hk)
    exact ⟨b, off, ha, hc k hk⟩
  obtain ⟨b, off, rfl, d0, d1, d2⟩ := HCV.out W (Below.refl _ _) k hk
  generalize V.getD k zeroG = z at *
  obtain ⟨V1, hV1, bz, hbV1, hsV1⟩ := boxes1 W [.int .i64 z.tx, .int .i64 z.res, .int .i64 z.mode] 46
  have C := l9Would_any G aG cG (.slice (some ⟨b, off, none⟩) V.length cW) z V1 (hGW.below hbV1) (by omega)
  rw [would_same hm] at C
  have hlW : w.heap.size < W.heap.size := hb0
  have HBW : Hid (∀ u, Below W.heap.size W u → Box u w.heap.size [.slice aG G.length cG, .slice (some ⟨b, off, none⟩) V.length cW] 28) := fun u h => Box.below b0 h hb0
  clear hbW hsV1 hsW hGW hVW
  have c0 := b0.cell 0 _ rfl
  go_enter Tryd.func58, Tryd.ntmps58
  go_upto_region 1 with fail
  rw [hW.out]
  go_wp2_with fail
  rw [hV1.out]
  refine C.mono ?_
  clear C hV1 hW
  generalize wouldZ G z = m at *
  rintro e w1 ⟨rfl, hb1⟩
  have hB1 : Below W.heap.size W w1 := hbV1.trans (hb1.mono hbV1.size)
  have HBZ : Hid (∀ u, Below w1.heap.size w1 u → Box u W.heap.size [.int .i64 z.tx, .int .i64 z.res, .int .i64 z.mode] 46) := fun u h => (bz.below hb1 bz.lt).below h (Nat.lt_of_lt_of_le bz.lt hb1.size)
  have hs1 : W.heap.size < w1.heap.size := Nat.lt_of_lt_of_le bz.lt hb1.size
  clear d0 d1 d2 c0 c1 bz hb1 b0 hb0 hbV1
  have ho0 := ownI_lit0 w1
  have hbo : Below w1.heap.size w1 (w1.alloc (.cells #[] 3)) := (Below.refl _ _).alloc (Nat.le_refl _) _
  have hbF : Hid (Below w1.heap.size w1 (w1.alloc (.cells #[] 3))) := hbo
  have hoF : Hid (OwnI (w1.alloc (.cells #[] 3)) w1.heap.size (w1.heap.size + 1) (some ⟨w1.heap.size, 0, none⟩) 0 []) := ho0
  clear ho0 hbo
  go_wp2_with fail
  go_loopw [7, 8] (fun o i wr => ∃ (j : Nat) (a : Option Addr) (c : Nat) (L : List Int), j ≤ G.length ∧ i = .int .i64 j ∧ o = .slice a L.length c ∧ Hid (L = ((G.take j).filter (barsB ⟨z.tx, z.res, m⟩)).map (·.tx)) ∧ L.length ≤ j ∧ OwnI wr w1.heap.size wr.heap.size a c L ∧ Below w1.heap.size w1 wr) (fun _ i _ => G.length - (intOf i).toNat)
  case atStart => exact ⟨0, _, _, [], Nat.zero_le _, rfl, rfl, rfl, Nat.zero_le _, hoF.out.widen (Nat.le_refl _) (by simp) (Nat.le_refl _), hbF.out⟩
  case round =>
    obtain ⟨j, a, c, L, hj, rfl, rfl, hL, hLj, ho, hbl⟩ := hrel
    have hBW : Below W.heap.size W wr := hB1.trans (hbl.mono hB1.size)
    have y0 := (HBW.out _ hBW).cell 0 _ rfl
    have hls := hbl.size
    by_cases hlt : j < G.length
    · obtain ⟨b', off', rfl, d0, d1, d2⟩ := HCG.out wr hBW j hlt
      have HST : Hid (_ = _) := filter_step (barsB ⟨z.tx, z.res, m⟩) (fun g : GrantV => g.tx) G zeroG j hlt
      have HBA : Hid (∀ h : GrantV, barsB ⟨z.tx, z.res, m⟩ h = (h.res == z.res && (h.tx != z.tx && !goesB m h.mode))) := fun _ => rfl
      clear HCG HCV HFL
      generalize G.getD j zeroG = h at *
      have HNO : Hid (barsB ⟨z.tx, z.res, m⟩ h = false → L = ((G.take (j + 1)).filter (barsB ⟨z.tx, z.res, m⟩)).map (·.tx)) := fun q => by rw [HST.out, if_neg (by rw [q]; decide)]; exact hL.out
      have HYE : Hid (barsB ⟨z.tx, z.res, m⟩ h = true → L ++ [h.tx] = ((G.take (j + 1)).filter (barsB ⟨z.tx, z.res, m⟩)).map (·.tx)) := fun q => by rw [HST.out, if_pos q, ← hL.out]
      clear HST hL
      have bzr := HBZ.out _ hbl
      obtain ⟨e0, e1, e2, _⟩ := bzr.three
      have hzl := bzr.lt
      have hll : w.heap.size < wr.heap.size := by omega
      clear bzr
      obtain ⟨V2, hV2, bh, hbV2, hsV2⟩ := boxes1 wr [.int .i64 h.tx, .int .i64 h.res, .int .i64 h.mode] 46
      have hB2 : Below w1.heap.size w1 V2 := hbl.trans (hbV2.mono hbl.size)
      have ho2 := (ho.below hbV2).widen (Nat.le_refl _) hbV2.size (Nat.le_refl _)
      have C := specGoes_any m h.mode V2
      have HV2 : Hid (_ = V2) := hV2
      have x0 := bh.cell 0 _ rfl
      have x1 := bh.cell 1 _ rfl
      have x2 := bh.cell 2 _ rfl
      have hlV2 : wr.heap.size < V2.heap.size := bh.lt
      have hzV := (HBZ.out _ hB2)
      obtain ⟨f0, f1, f2, _⟩ := hzV.three
      clear hsV2 hbV2 bh hzV
      obtain ⟨tx, res, mode⟩ := h
      simp only at *
      by_cases q1 : res = z.res
      case neg =>
        have HR : Hid _ := HNO.out (by rw [HBA.out]; simp [q1])
        have HS : Hid (_ ∧ _) := ⟨ho2, hB2⟩
        clear ho2 hB2 C
        go_wp2_with fail
        rw [hV2.out]
        go_roundw
        case rel => exact ⟨j + 1, a, c, L, by omega, by go_num, rfl, HR.out, by omega, HS.out.1, HS.out.2⟩
        case measure => simp [intOf]; omega
      by_cases q2 : tx = z.tx
      · have HR : Hid _ := HNO.out (by rw [HBA.out]; simp [q2])
        have HS : Hid (_ ∧ _) := ⟨ho2, hB2⟩
        clear ho2 hB2 C
        subst q1 q2
        go_wp2_with fail
        rw [HV2.out]
        go_roundw
        case rel => exact ⟨j + 1, a, c, L, by omega, by go_num, rfl, HR.out, by omega, HS.out.1, HS.out.2⟩
        case measure => simp [intOf]; omega
      · have HC1 : Hid (goesB m mode = true → _) := fun hh => HNO.out (by rw [HBA.out]; simp [hh])
        have HC2 : Hid (goesB m mode = false → _) := fun hh => HYE.out (by rw [HBA.out]; simp [q1, q2, hh])
        generalize goesB m mode = gg at *
        subst q1
        have q2b : (tx != z.tx) = true := by simp [q2]
        go_wp2_with fail
        rw [HV2.out]
        refine C.mono ?_
        rintro e w' ⟨rfl, rfl⟩
        cases gg
        · have HR : Hid _ := HC2.out rfl
          have ho3 := ho2.below ((Below.refl _ _).alloc (Nat.le_refl _) (.cells #[.int .i64 tx] 3))
          clear C hV2
          go_wp2_with (at_builtin; refine append_ints rfl _ _ rfl w1.heap.size w'.heap.size a c L rfl ho3 _ _ [tx] rfl (readsI_one w' tx _) (fun h => by cases h) (by simp; omega) (by simp; omega) ?_; intro a3 c3 y3 w3 hy3 ho3 hg3)
          go_roundw
          case rel => exact ⟨j + 1, a3, c3, y3, by omega, by go_num, rfl, by rw [Hid, hy3.out]; exact HR.out, by rw [hy3.out]; simp; omega, ho3, below_append hB2 hg3 (fun k hk => (ho2.lt k hk).1) hB2.size⟩
          case measure => simp [intOf]; omega
        · have HR : Hid _ := HC1.out rfl
          go_wp2_with fail
          go_roundw
          case rel => exact ⟨j + 1, a, c, L, by omega, by go_num, rfl, HR.out, by omega, ho2, hB2⟩
          case measure => simp [intOf]; omega
    · have HL : Hid (L = (G.filter (barsB ⟨z.tx, z.res, m⟩)).map (·.tx)) := by
        have e := hL.out
        rw [List.take_of_length_le (by omega)] at e
        exact e
      have HLL : Hid (L.length ≤ G.length) := by rw [Hid]; omega
      have HS0 : Hid (OwnI wr w1.heap.size wr.heap.size a c L ∧ Below w1.heap.size w1 wr) := ⟨ho, hbl⟩
      clear hL hLj HCG ho hbl
      generalize wr = wo at *
      go_wp2_with fail
      go_loopw [7, 10] (fun o i wr => ∃ (j : Nat) (a : Option Addr) (c : Nat) (M : List Int), j ≤ k ∧ i = .int .i64 j ∧ o = .slice a M.length c ∧ Hid (M = L ++ ((V.take j).filter (fun h => h.res == z.res)).map (·.tx)) ∧ M.length ≤ G.length + j ∧ OwnI wr w1.heap.size wr.heap.size a c M ∧ Below w1.heap.size w1 wr) (fun _ i _ => k - (intOf i).toNat)
      case atStart => exact ⟨0, _, _, L, Nat.zero_le _, rfl, rfl, by simp [Hid], by have := HLL.out; omega, HS0.out.1, HS0.out.2⟩
      case round =>
        clear hBW y0 hls hlt
        obtain ⟨j, a, c, M, hj, rfl, rfl, hM, hMj, ho, hbl⟩ := hrel
        have hBW : Below W.heap.size W wr := hB1.trans (hbl.mono hB1.size)
        have y1 := (HBW.out _ hBW).cell 1 _ rfl
        have hls := hbl.size
        by_cases hlt : j < k
        · obtain ⟨b', off', hh, d0, d1, d2⟩ := HCV.out wr hBW j (by omega)
          cases hh
          have HST : Hid (_ = _) := filter_step (fun h : GrantV => h.res == z.res) (fun g : GrantV => g.tx) V zeroG j (by omega)
          clear HCV HFL d2
          generalize V.getD j zeroG = h at *
          have HNO : Hid ((h.res == z.res) = false → M = L ++ ((V.take (j + 1)).filter (fun h => h.res == z.res)).map (·.tx)) := fun q => by rw [HST.out, if_neg (by rw [q]; decide)]; exact hM.out
          have HYE : Hid ((h.res == z.res) = true → M ++ [h.tx] = L ++ ((V.take (j + 1)).filter (fun h => h.res == z.res)).map (·.tx)) := fun q => by rw [HST.out, if_pos q, hM.out, List.append_assoc]
          clear HST hM
          have bzr := HBZ.out _ hbl
          have e1 := bzr.cell 1 _ rfl
          clear bzr
          by_cases q1 : h.res = z.res
          · have HR : Hid _ := HYE.out (by simp [q1])
            go_wp2_with fail
            go_quiet (fail)
            have y1q : (wr.drewN nq).cell? ⟨w.heap.size, 1, none⟩ = _ := y1
            have d0q : (wr.drewN nq).cell? ⟨b, off + j * 3, none⟩ = _ := d0
            have hoq := ho.below (below_drewN (Below.refl _ _) nq)
            have hbq : Below w1.heap.size w1 (wr.drewN nq) := below_drewN hbl nq
            have hsq : (wr.drewN nq).heap.size = wr.heap.size := rfl
            generalize wr.drewN nq = wq at *
            have ho3 := hoq.below ((Below.refl _ _).alloc (Nat.le_refl _) (.cells #[.int .i64 h.tx] 3))
            have hsq1 : wr.heap.size ≤ wq.heap.size := Nat.le_of_eq hsq.symm
            have hsq2 : wq.heap.size ≤ wr.heap.size := Nat.le_of_eq hsq
            clear hsq y1 d0 d1 e1
            go_wp2_with (at_builtin; refine append_ints rfl _ _ rfl w1.heap.size wr.heap.size a c M rfl ho3 _ _ [h.tx] rfl (readsI_one wq h.tx _) (fun h => by cases h) (by simp; omega) (by simp; omega) ?_; intro a3 c3 y3 w3 hy3 ho3 hg3)
            go_roundw
            case rel => exact ⟨j + 1, a3, c3, y3, by omega, by go_num, rfl, by rw [Hid, hy3.out]; exact HR.out, by rw [hy3.out]; simp; omega, ho3, below_append hbq hg3 (fun k hk => (hoq.lt k hk).1) hbq.size⟩
            case measure => simp [intOf]; omega
          · have HR : Hid _ := HNO.out (by simp [q1])
            have HS : Hid (_ ∧ _) := ⟨ho, hbl⟩
            clear ho hbl
            go_wp2_with fail
            go_quiet (fail)
            go_wp2_with fail
            go_roundw
            case rel => exact ⟨j + 1, a, c, M, by omega, by go_num, rfl, HR.out, by omega, HS.out.1.below (below_drewN (Below.refl _ _) _), below_drewN HS.out.2 _⟩
            case measure => simp [intOf]; omega
        · have HF : Hid (M = FL) := by
            have e : j = k := by omega
            have e2 := hM.out
            rw [e, HL.out] at e2
            rw [Hid, HFL.out]
            exact e2
          have HX := HB.out _ hBW
          clear hM HFL
          go_wp2_with fail
          go_ret
          have e := HF.out
          subst e
          exact ⟨a, c, rfl, ho.widen (by omega) (Nat.le_refl _) (Nat.le_refl _), HX⟩
end Go.Proofs.YtekljhabjkmhpabDoor

/- The walk of spec.l9Back. -/
namespace Go.Proofs.YtekljhabjkmhpabDoor
open Go.RowKit

theorem append_intsF {w : World} {ops : Array Oper} {rest : List Oper} {o : Oper} {act : Act} {Q : Exit → Act → World → Prop} (hgd : o.guard = none) (s x : Operand)
    (ho : o.op = .call { callee := .builtin .append, args := #[s, x], argTypes := #[35, 35] })
    (lo hi : Nat) (a : Option Addr) (c : Nat) (xs : List Int) (hs : act.eval s = .slice a xs.length c) (hown : OwnI w lo hi a c xs)
    (sa : Option Addr) (sc : Nat) (zs : List Int) (hx : act.eval x = .slice sa zs.length sc) (hr : ReadsI w sa zs) (hc : sa = none → sc = 0)
    (hb : xs.length + zs.length ≤ 1099511627776) (hlo : lo ≤ w.heap.size)
    (h : ∀ a' c' ys w', Hid (ys = xs ++ zs) → OwnI w' lo w'.heap.size a' c' ys → w.grownBy w' (Value.slice a xs.length c).ownBlock → (∀ k, (Value.slice a' ys.length c').ownBlock = some k → (Value.slice a xs.length c).ownBlock = some k ∨ k = w.heap.size) → wpList Tryd.prog ops Q rest (act.put o.dst (.slice a' ys.length c')) w') :
    wpList Tryd.prog ops Q (o :: rest) act w := by
  obtain ⟨a', c', ys, w', hrun, h1, h2, h3, h4⟩ := run_append_ints (w := w) o.type lo hi a c xs hown sa sc zs hr hc hb hlo
  refine wpList_plain hgd fun K hK => ?_
  unfold Oper.wp execOp
  simp only [ho, resolve, invoke, builtin, Sem.run_bind, Sem.run_pure, Result.andThen_ok, List.map_toArray, List.map_cons, List.map_nil, hs, hx, hrun]
  exact hK _ _ (h a' c' ys w' h1 h2 h3 h4)
theorem ownI_lit1 (w : World) (n : Int) : OwnI (w.alloc (.cells #[.int .i64 n] 3)) w.heap.size (w.heap.size + 1) (some ⟨w.heap.size, 0, none⟩) 1 [n] :=
  ⟨World.ownsRow_lit w #[.int .i64 n] 1 (Nat.le_refl _) (by simp [maxLen]) rfl, by simp, fun k hk => by cases hk; simp⟩

/-- What stands of a search from tx: those that were met, of whom the first i were looked through. -/
structure MetI (R : Int → Int → Prop) (tx : Int) (M : List Int) (i : Nat) : Prop where
  nodup : M.Nodup
  self : tx ∈ M
  each : ∀ x ∈ M, ReachE R tx x ∧ 1 ≤ x ∧ x ≤ 99
  done : ∀ j, j < i → ∀ y, R (M.getD j 0) y → y ∈ M ∧ y ≠ tx
theorem MetI.few {R : Int → Int → Prop} {tx : Int} {M : List Int} {i : Nat} (h : MetI R tx M i) : M.length ≤ 99 := Go.Proofs.YtekljhabjkmhpabDoor.few h.nodup (fun x hx => (h.each x hx).2)
theorem met_start {R : Int → Int → Prop} {tx : Int} (h : 1 ≤ tx ∧ tx ≤ 99) : MetI R tx [tx] 0 :=
  ⟨by simp, by simp, fun x hx => by obtain rfl := List.mem_singleton.1 hx; exact ⟨.refl, h⟩, fun j hj => by omega⟩
theorem met_end {R : Int → Int → Prop} {tx : Int} {M : List Int} {i : Nat} (h : MetI R tx M i) (hi : M.length ≤ i) : ¬ BackE R tx := by
  refine back_none (fun x => x ∈ M) h.self (fun y hy z hr => ?_)
  obtain ⟨j, hj, rfl⟩ := getD_of_mem 0 hy
  exact h.done j (by omega) z hr
theorem met_hit {R : Int → Int → Prop} {tx : Int} {M : List Int} {i : Nat} (h : MetI R tx M i) {x : Int} (hx : x ∈ M) (hr : R x tx) : BackE R tx := ⟨x, (h.each x hx).1, hr⟩
theorem met_push {R : Int → Int → Prop} {tx : Int} {M : List Int} {i : Nat} (h : MetI R tx M i) (hi : i ≤ M.length) {x y : Int} (hx : x ∈ M) (hr : R x y) (hy : y ∉ M) (hin : 1 ≤ y ∧ y ≤ 99) : MetI R tx (M ++ [y]) i := by
  refine ⟨?_, by simp [h.self], fun z hz => ?_, fun j hj z hz => ?_⟩
  · rw [List.nodup_append]
    exact ⟨h.nodup, by simp, fun a ha b hb => by obtain rfl := List.mem_singleton.1 hb; exact fun e => hy (e ▸ ha)⟩
  · rcases List.mem_append.1 hz with hz | hz
    · exact h.each z hz
    · obtain rfl := List.mem_singleton.1 hz
      exact ⟨.step (h.each x hx).1 hr, hin⟩
  · have e : (M ++ [y]).getD j 0 = M.getD j 0 := by simp [List.getD, List.getElem?_append_left (show j < M.length by omega)]
    rw [e] at hz
    obtain ⟨h1, h2⟩ := h.done j hj z hz
    exact ⟨List.mem_append.2 (.inl h1), h2⟩
theorem met_next {R : Int → Int → Prop} {tx : Int} {M : List Int} {i : Nat} (h : MetI R tx M i) (hn : ∀ y, R (M.getD i 0) y → y ∈ M ∧ y ≠ tx) : MetI R tx M (i + 1) :=
  ⟨h.nodup, h.self, h.each, fun j hj => by
    by_cases e : j < i
    · exact h.done j e
    · obtain rfl : j = i := by omega
      exact hn⟩

set_option maxHeartbeats 4000000 in
set_option maxRecDepth 100000 in
theorem l9Back_any (G V : List GrantV) (aG : Option Addr) (cG : Nat) (aW : Option Addr) (cW : Nat) (tx : Int) (w : World) (hG : ReadsG w aG G) (hV : ReadsG w aW V) (hR : Right G V) (htx : 1 ≤ tx ∧ tx ≤ 99) :
    Calls Tryd.prog 38 #[.agg #[.slice aG G.length cG, .slice aW V.length cW], .int .i64 tx] w fun e w' => ∃ r : Bool, e = .returned (.bool r) ∧ Hid (r = true ↔ BackE (EdgeL G V) tx) ∧ Below w.heap.size w w' := by
  obtain ⟨W, hW, b0, hbW, hsW⟩ := boxes1 w [.slice aG G.length cG, .slice aW V.length cW] 28
  have hb0 := b0.lt
  have HB : Hid (∀ w', Below W.heap.size W w' → Below w.heap.size w w') := fun w' h => hbW.trans (h.mono hbW.size)
  have hGW := hG.below hbW
  have hVW := hV.below hbW
  have HBW : Hid (∀ u, Below W.heap.size W u → Box u w.heap.size [.slice aG G.length cG, .slice aW V.length cW] 28) := fun u h => Box.below b0 h hb0
  have HCV : Hid (∀ w', Below W.heap.size W w' → ∀ k, k < V.length → ∃ b off, aW = some ⟨b, off, none⟩ ∧ w'.cell? ⟨b, off + k * 3, none⟩ = some (.int .i64 (V.getD k zeroG).tx)) := fun w' h k hk => by
    obtain ⟨b, off, ha, hc⟩ := (hVW.below h) (by intro e; rw [e] at hk; simp at hk)
    exact ⟨b, off, ha, (hc k hk).1⟩
  have HCF : Hid (∀ u, Below W.heap.size W u → ∀ k, k < V.length → Calls Tryd.prog 58 #[.agg #[.slice aG G.length cG, .slice aW V.length cW], .int .i64 (k : Int)] u fun e w' => ∃ a c, e = .returned (.slice a (forL G V k).length c) ∧ OwnI w' u.heap.size w'.heap.size a c (forL G V k) ∧ Below u.heap.size u w') := fun u h k hk => l9For_any G V aG cG aW cW k u (hGW.below h) (hVW.below h) (by have := hR.lg; omega) (by have := hR.lw; omega) hk hR.modes
  have HFI : Hid (∀ k, ∀ y ∈ forL G V k, 1 ≤ y ∧ y ≤ 99) := forL_in hR
  have HFN : Hid (∀ k, (forL G V k).length ≤ 120) := fun k => by have := forL_len G V k; have := hR.lg; have := hR.lw; omega
  have hlV : V.length ≤ 60 := hR.lw
  have HED : Hid (∀ x y, EdgeL G V x y ↔ ∃ k, k < V.length ∧ (V.getD k zeroG).tx = x ∧ y ∈ forL G V k) := fun _ _ => Iff.rfl
  have HM0 : Hid (MetI (EdgeL G V) tx [tx] 0) := met_start htx
  clear hG hV hGW hVW hbW hsW hR
  generalize EdgeL G V = R at *
  have ho1 := ownI_lit1 W tx
  have hbM : Below W.heap.size W (W.alloc (.cells #[.int .i64 tx] 3)) := (Below.refl _ _).alloc (Nat.le_refl _) _
  have HS : Hid (_ ∧ _) := ⟨ho1, hbM⟩
  clear ho1 hbM
  go_enter Tryd.func38, Tryd.ntmps38
  go_upto_region 1 with fail
  rw [hW.out]
  clear hW
  go_wp2_with fail
  go_loopw [5, 6] (fun o i wr => ∃ (j : Nat) (a : Option Addr) (c : Nat) (M : List Int), j ≤ M.length ∧ M.length ≤ 99 ∧ i = .int .i64 j ∧ o = .slice a M.length c ∧ Hid (MetI R tx M j) ∧ OwnI wr W.heap.size wr.heap.size a c M ∧ Below W.heap.size W wr) (fun _ i _ => 100 - (intOf i).toNat)
  case atStart => exact ⟨0, _, _, [tx], Nat.zero_le _, by simp, rfl, rfl, HM0.out, HS.out.1.widen (Nat.le_refl _) (by simp) (Nat.le_refl _), HS.out.2⟩
  case round =>
    obtain ⟨j, a, c, M, hj, hM99, rfl, rfl, hM, ho, hbl⟩ := hrel
    clear HS HM0
    by_cases hlt : j < M.length
    · have HJ : Hid (M.getD j 0 ∈ M) := mem_getD hlt 0
      have HX : Hid (∃ x, M.getD j 0 = x) := ⟨_, rfl⟩
      obtain ⟨x, hx⟩ := HX.out
      have HXM : Hid (M.getD j 0 = x ∧ j < M.length ∧ x ∈ M) := ⟨hx, hlt, by rw [← hx]; exact HJ.out⟩
      clear hx HJ HX
      have HS0 : Hid (OwnI wr W.heap.size wr.heap.size a c M ∧ Below W.heap.size W wr) := ⟨ho, hbl⟩
      clear ho hbl
      generalize wr = wo at *
      go_wp2_with fail
      go_loopw [5, 7] (fun o i wr => ∃ (k : Nat) (a : Option Addr) (c : Nat) (M : List Int), k ≤ V.length ∧ M.length ≤ 99 ∧ j < M.length ∧ i = .int .i64 k ∧ o = .slice a M.length c ∧ Hid (MetI R tx M j ∧ (M.getD j 0 = x ∧ x ∈ M) ∧ ∀ k', k' < k → (V.getD k' zeroG).tx = x → ∀ y ∈ forL G V k', y ∈ M ∧ y ≠ tx) ∧ OwnI wr W.heap.size wr.heap.size a c M ∧ Below W.heap.size W wr) (fun _ i _ => V.length - (intOf i).toNat)
      case atStart => exact ⟨0, a, c, M, Nat.zero_le _, hM99, hlt, rfl, rfl, ⟨hM.out, ⟨HXM.out.1, HXM.out.2.2⟩, fun k' h => by omega⟩, HS0.out.1, HS0.out.2⟩
      case round =>
        clear HS0 HXM hM hM99 hj hlt
        obtain ⟨k, a, c, M, hk, hM99, hjM, rfl, rfl, hM, ho, hbl⟩ := hrel
        have y1 := (HBW.out _ hbl).cell 1 _ rfl
        have y0 := (HBW.out _ hbl).cell 0 _ rfl
        by_cases hlt : k < V.length
        · obtain ⟨b, off, rfl, d0⟩ := HCV.out wr hbl k hlt
          obtain ⟨bm, offm, rfl, hcm⟩ := ho.reads (by intro e; rw [e] at hjM; simp at hjM)
          have m0 := hcm j hjM
          rw [hM.out.2.1.1] at m0
          have HZ : Hid (∃ t, (V.getD k zeroG).tx = t) := ⟨_, rfl⟩
          obtain ⟨t, ht⟩ := HZ.out
          have HT : Hid ((V.getD k zeroG).tx = t) := ht
          rw [ht] at d0
          clear ht HZ
          by_cases q : t = x
          · subst q
            have qb : (t != t) = false := by simp
            have HCK : Hid (_) := fun u hu => HCF.out u hu k hlt
            have HFk : Hid (_) := HFI.out k
            have HFn := HFN.out k
            have HEk : Hid (∀ y ∈ forL G V k, R t y) := fun y hy => (HED.out t y).2 ⟨k, hlt, HT.out, hy⟩
            have HNK : Hid (∀ M' : List Int, (∀ z ∈ M, z ∈ M') → (∀ y ∈ forL G V k, y ∈ M' ∧ y ≠ tx) → ∀ k', k' < k + 1 → (V.getD k' zeroG).tx = t → ∀ y ∈ forL G V k', y ∈ M' ∧ y ≠ tx) := fun M' hs hF k' h e y hy => by
              by_cases e2 : k' < k
              · obtain ⟨h1, h2⟩ := hM.out.2.2 k' e2 e y hy
                exact ⟨hs y h1, h2⟩
              · obtain rfl : k' = k := by omega
                exact hF y hy
            generalize forL G V k = F at *
            have HM2 : Hid (MetI R tx M j ∧ (M.getD j 0 = t ∧ t ∈ M)) := ⟨hM.out.1, hM.out.2.1⟩
            clear HCF HFI HFN HED HCV hM hcm HT
            go_wp2_with fail
            go_quiet (fail)
            have y1q : (wr.drewN nq).cell? ⟨w.heap.size, 1, none⟩ = _ := y1
            have y0q : (wr.drewN nq).cell? ⟨w.heap.size, 0, none⟩ = _ := y0
            have hoq := ho.below (below_drewN (Below.refl _ _) nq)
            have hbq : Below W.heap.size W (wr.drewN nq) := below_drewN hbl nq
            have hsq : wr.heap.size ≤ (wr.drewN nq).heap.size := Nat.le_refl _
            clear y0 y1 d0 m0 ho hbl
            generalize wr.drewN nq = wq at *
            have C := HCK.out wq hbq
            clear HCK
            go_wp2_with fail
            refine C.mono ?_
            clear C
            rintro e w2 ⟨aF, cF, rfl, hoF, hbF⟩
            have hb2 : Below W.heap.size W w2 := hbq.trans (hbF.mono hbq.size)
            have ho2 := hoq.below hbF
            have HS2 : Hid (OwnI w2 W.heap.size w2.heap.size (some ⟨bm, offm, none⟩) c M ∧ (∀ q, (Value.slice (some ⟨bm, offm, none⟩) M.length c).ownBlock = some q → q < wq.heap.size ∨ w2.heap.size ≤ q) ∧ OwnI w2 wq.heap.size w2.heap.size aF cF F ∧ Below W.heap.size W w2) := ⟨ho2.widen (Nat.le_refl _) ho2.2.1 (Nat.le_refl _), fun q hq => .inl (by have := (hoq.lt q hq).2; omega), hoF, hb2⟩
            have hF2 : w2.heap.size ≤ w2.heap.size := Nat.le_refl _
            clear hbF hoq ho2 hoF hbq hb2 y0q y1q hsq hF2
            generalize wr = wp at *
            generalize w2.heap.size = top at *
            go_wp2_with fail
            go_loopw [5, 9] (fun o i wr => ∃ (n : Nat) (a : Option Addr) (c : Nat) (M' : List Int), n ≤ F.length ∧ M'.length ≤ 99 ∧ j < M'.length ∧ i = .int .i64 n ∧ o = .slice a M'.length c ∧ Hid ((MetI R tx M' j ∧ (M'.getD j 0 = t ∧ t ∈ M')) ∧ (∀ z ∈ M, z ∈ M') ∧ ∀ y ∈ F.take n, y ∈ M' ∧ y ≠ tx) ∧ OwnI wr W.heap.size wr.heap.size a c M' ∧ Hid (∀ q, (Value.slice a M'.length c).ownBlock = some q → q < wq.heap.size ∨ top ≤ q) ∧ OwnI wr wq.heap.size top aF cF F ∧ Below W.heap.size W wr) (fun _ i _ => F.length - (intOf i).toNat)
            case atStart => exact ⟨0, _, c, M, Nat.zero_le _, hM99, hjM, rfl, rfl, ⟨HM2.out, fun z hz => hz, fun y hy => by simp at hy⟩, HS2.out.1.widen (Nat.le_refl _) HS2.out.1.2.1 (Nat.le_refl _), HS2.out.2.1, HS2.out.2.2.1, HS2.out.2.2.2⟩
            case round =>
              obtain ⟨n, a, c', M', hn, hM99', hjM', rfl, rfl, hM', ho, hap, hoF, hbl⟩ := hrel
              clear HS2 HM2
              by_cases hnl : n < F.length
              · obtain ⟨bf, offf, rfl, hcf⟩ := hoF.reads (by intro e; rw [e] at hnl; simp at hnl)
                have f0 := hcf n hnl
                have HYF : Hid (F.getD n 0 ∈ F) := mem_getD hnl 0
                have HTS : Hid (F.take (n + 1) = F.take n ++ [F.getD n 0]) := take_step F 0 n hnl
                clear hcf
                generalize F.getD n 0 = y at *
                have HRY : Hid (R t y) := HEk.out y HYF.out
                by_cases qy : y = tx
                · have HT : Hid (BackE R tx) := met_hit hM'.out.1.1 hM'.out.1.2.2 (by rw [← qy]; exact HRY.out)
                  have HX := HB.out _ hbl
                  clear hM' HTS HYF HRY
                  subst qy
                  go_wp2_with fail
                  go_ret
                  exact ⟨true, rfl, ⟨fun _ => HT.out, fun _ => rfl⟩, HX⟩
                · have C := l9Among_any a c' M' y wr ho.reads (by omega)
                  have HA : Hid (M'.any (fun g => g == y) = true → y ∈ M') := fun h => by
                    obtain ⟨g, hg, e⟩ := List.any_eq_true.1 h
                    obtain rfl : g = y := by simpa using e
                    exact hg
                  have HA2 : Hid (M'.any (fun g => g == y) = false → y ∉ M') := fun h hy => by
                    have := List.any_eq_false.1 h y hy
                    simp at this
                  generalize M'.any (fun g => g == y) = am at *
                  have f0' := f0
                  go_wp2_with fail
                  refine C.mono ?_
                  rintro e w' ⟨rfl, rfl⟩
                  clear C
                  cases am
                  · have HP : Hid (MetI R tx (M' ++ [y]) j) := met_push hM'.out.1.1 (by omega) hM'.out.1.2.2 HRY.out (HA2.out rfl) (HFk.out y HYF.out)
                    have HMN : Hid (((M' ++ [y]).getD j 0 = t ∧ t ∈ M' ++ [y]) ∧ (∀ z ∈ M, z ∈ M' ++ [y]) ∧ ∀ x ∈ F.take (n + 1), x ∈ M' ++ [y] ∧ x ≠ tx) := by
                      refine ⟨⟨?_, List.mem_append.2 (.inl hM'.out.1.2.2)⟩, fun z hz => List.mem_append.2 (.inl (hM'.out.2.1 z hz)), fun x hx => ?_⟩
                      · rw [← hM'.out.1.2.1]; simp [List.getD, List.getElem?_append_left hjM']
                      · rw [HTS.out] at hx
                        rcases List.mem_append.1 hx with hx | hx
                        · obtain ⟨h1, h2⟩ := hM'.out.2.2 x hx
                          exact ⟨List.mem_append.2 (.inl h1), h2⟩
                        · obtain rfl := List.mem_singleton.1 hx
                          exact ⟨List.mem_append.2 (.inr (List.mem_singleton.2 rfl)), qy⟩
                    have ho3 := ho.below ((Below.refl _ _).alloc (Nat.le_refl _) (.cells #[.int .i64 y] 3))
                    have hoF3 := hoF.below ((Below.refl _ _).alloc (Nat.le_refl _) (.cells #[.int .i64 y] 3))
                    have hls := hbl.size
                    clear hM' HTS HYF HRY HA HA2
                    go_wp2_with (at_builtin; refine append_intsF rfl _ _ rfl W.heap.size w'.heap.size a c' M' rfl ho3 _ _ [y] rfl (readsI_one w' y _) (fun h => by cases h) (by simp; omega) (by simp; omega) ?_; intro a3 c3 y3 w3 hy3 ho3 hg3 hk3)
                    go_roundw
                    case rel =>
                      have e3 := hy3.out
                      subst e3
                      have hmf := HP.out.few
                      refine ⟨n + 1, a3, c3, _, by omega, hmf, by simp; omega, by go_num, rfl, ⟨⟨HP.out, HMN.out.1⟩, HMN.out.2⟩, ho3, fun q hq => ?_, hoF3.kept hg3 (fun q hq e => ?_), below_append hbl hg3 (fun q hq => (ho.lt q hq).1) hls⟩
                      · rcases hk3 q hq with e | e
                        · exact hap.out q e
                        · right
                          have e' : q = w'.heap.size + 1 := by simpa using e
                          have := hoF.2.1
                          omega
                      · have h1 := hoF.lt q hq
                        rcases hap.out q e with h | h <;> omega
                    case measure => simp [intOf]; omega
                  · have HMN : Hid ((MetI R tx M' j ∧ (M'.getD j 0 = t ∧ t ∈ M')) ∧ (∀ z ∈ M, z ∈ M') ∧ ∀ x ∈ F.take (n + 1), x ∈ M' ∧ x ≠ tx) := ⟨hM'.out.1, hM'.out.2.1, fun x hx => by
                      rw [HTS.out] at hx
                      rcases List.mem_append.1 hx with hx | hx
                      · exact hM'.out.2.2 x hx
                      · obtain rfl := List.mem_singleton.1 hx
                        exact ⟨HA.out rfl, qy⟩⟩
                    clear hM' HTS HYF HRY HA HA2
                    go_wp2_with fail
                    go_roundw
                    case rel => exact ⟨n + 1, a, c', M', by omega, hM99', hjM', by go_num, rfl, HMN.out, ho, hap.out, hoF, hbl⟩
                    case measure => simp [intOf]; omega
              · have HNX : Hid (MetI R tx M' j ∧ (M'.getD j 0 = t ∧ t ∈ M') ∧ ∀ k', k' < k + 1 → (V.getD k' zeroG).tx = t → ∀ y ∈ forL G V k', y ∈ M' ∧ y ≠ tx) := ⟨hM'.out.1.1, hM'.out.1.2, HNK.out M' hM'.out.2.1 (fun y hy => hM'.out.2.2 y (by rw [List.take_of_length_le (by omega)]; exact hy))⟩
                clear hM' HNK HEk
                go_wp2_with fail
                go_roundw
                case rel => exact ⟨k + 1, a, c', M', by omega, hM99', hjM', by go_num, rfl, HNX.out, ho, hbl⟩
                case measure => simp [intOf]; omega
          · have HNX : Hid (MetI R tx M j ∧ (M.getD j 0 = x ∧ x ∈ M) ∧ ∀ k', k' < k + 1 → (V.getD k' zeroG).tx = x → ∀ y ∈ forL G V k', y ∈ M ∧ y ≠ tx) := ⟨hM.out.1, hM.out.2.1, fun k' h e => by
              by_cases e2 : k' < k
              · exact hM.out.2.2 k' e2 e
              · obtain rfl : k' = k := by omega
                rw [HT.out] at e
                exact absurd e q⟩
            have HS : Hid (_ ∧ _) := ⟨ho, hbl⟩
            clear ho hbl hM hcm
            have qb : (t != x) = true := by simp [q]
            go_wp2_with fail
            go_quiet (fail)
            go_wp2_with fail
            go_roundw
            case rel => exact ⟨k + 1, _, c, M, by omega, hM99, hjM, by go_num, rfl, HNX.out, HS.out.1.below (below_drewN (Below.refl _ _) _), below_drewN HS.out.2 _⟩
            case measure => simp [intOf]; omega
        · have HNX : Hid (MetI R tx M (j + 1)) := met_next hM.out.1 (fun y hy => by
            rw [hM.out.2.1.1] at hy
            obtain ⟨k', h1, h2, h3⟩ := (HED.out x y).1 hy
            exact hM.out.2.2 k' (by omega) h2 y h3)
          have HS : Hid (_ ∧ _) := ⟨ho, hbl⟩
          clear ho hbl hM
          go_wp2_with fail
          go_roundw
          case rel => exact ⟨j + 1, a, c, M, by omega, hM99, by go_num, rfl, HNX.out, HS.out.1, HS.out.2⟩
          case measure => simp [intOf]; omega
    · have HF : Hid (¬ BackE R tx) := met_end hM.out (by omega)
      have HX := HB.out _ hbl
      clear hM
      go_wp2_with fail
      go_ret
      exact ⟨false, rfl, ⟨fun h => (by cases h), fun h => absurd h HF.out⟩, HX⟩
end Go.Proofs.YtekljhabjkmhpabDoor

/- The walk of spec.LocksOk. -/
namespace Go.Proofs.YtekljhabjkmhpabDoor
open Go.RowKit

set_option maxHeartbeats 2000000 in
set_option maxRecDepth 100000 in
theorem specLocksOk_any (l : LocksA) (w : World) (hr : l.reads w) (hl : l.short 1099511627776) :
    Calls Tryd.prog 22 #[.agg #[.slice l.aG l.given.length l.cG, .slice l.aW l.waits.length l.cW]] w fun e w' => e = .returned (.bool (okLocks l.given l.waits)) ∧ Below w.heap.size w w' := by
  obtain ⟨G, V, aG, cG, aW, cW⟩ := l
  obtain ⟨hG, hV, _, _, _, _⟩ := hr
  obtain ⟨hlG, hlV⟩ := hl
  simp only at *
  have HLG : Hid (¬ G.length ≤ 60 → okLocks G V = false) := okLocks_g
  have HLV : Hid (¬ V.length ≤ 60 → okLocks G V = false) := okLocks_w
  have HG : Hid (∀ k, k < G.length → givenAt G k = false → okLocks G V = false) := fun k => okLocks_given k
  have HV : Hid (∀ k, k < V.length → waitAt V k = false → okLocks G V = false) := fun k => okLocks_wait k
  have HY : Hid (G.length ≤ 60 → V.length ≤ 60 → (∀ k, k < G.length → givenAt G k = true) → (∀ k, k < V.length → waitAt V k = true) → okLocks G V = true) := okLocks_yes
  generalize okLocks G V = R at *
  obtain ⟨W, hW, b0, hbW, hsW⟩ := boxes1 w [.slice aG G.length cG, .slice aW V.length cW] 28
  have hb0 := b0.lt
  have HB : Hid (∀ w', Below W.heap.size W w' → Below w.heap.size w w') := fun w' h => hbW.trans (h.mono hbW.size)
  have hGW := hG.below hbW
  have hVW := hV.below hbW
  have c0 := b0.cell 0 _ rfl
  have c1 := b0.cell 1 _ rfl
  clear hG hV hsW
  have HCG : Hid (∀ w', Below W.heap.size W w' → ∀ k, k < G.length → ∃ b off, aG = some ⟨b, off, none⟩ ∧ w'.cell? ⟨b, off + k * 3, none⟩ = some (.int .i64 (G.getD k zeroG).tx) ∧ w'.cell? ⟨b, off + k * 3 + 1, none⟩ = some (.int .i64 (G.getD k zeroG).res) ∧ w'.cell? ⟨b, off + k * 3 + 2, none⟩ = some (.int .i64 (G.getD k zeroG).mode)) := fun w' h k hk => by
    obtain ⟨b, off, ha, hc⟩ := (hGW.below h) (by intro e; rw [e] at hk; simp at hk)
    exact ⟨b, off, ha, hc k hk⟩
  have HCV : Hid (∀ w', Below W.heap.size W w' → ∀ k, k < V.length → ∃ b off, aW = some ⟨b, off, none⟩ ∧ w'.cell? ⟨b, off + k * 3, none⟩ = some (.int .i64 (V.getD k zeroG).tx) ∧ w'.cell? ⟨b, off + k * 3 + 1, none⟩ = some (.int .i64 (V.getD k zeroG).res) ∧ w'.cell? ⟨b, off + k * 3 + 2, none⟩ = some (.int .i64 (V.getD k zeroG).mode)) := fun w' h k hk => by
    obtain ⟨b, off, ha, hc⟩ := (hVW.below h) (by intro e; rw [e] at hk; simp at hk)
    exact ⟨b, off, ha, hc k hk⟩
  clear hGW hVW hbW
  by_cases h1 : G.length ≤ 60
  case neg =>
    have HR : Hid (R = false) := HLG.out h1
    clear HLG HLV HG HV HY
    have HX := HB.out W (Below.refl _ _)
    go_enter Tryd.func22, Tryd.ntmps22
    go_wp2
    go_ret
    rw [hW.out]
    exact ⟨ret_bool HR.out.symm, HX⟩
  by_cases h2 : V.length ≤ 60
  case neg =>
    have HR : Hid (R = false) := HLV.out h2
    clear HLG HLV HG HV HY
    have HX := HB.out W (Below.refl _ _)
    go_enter Tryd.func22, Tryd.ntmps22
    go_wp2
    go_ret
    rw [hW.out]
    exact ⟨ret_bool HR.out.symm, HX⟩
  go_enter Tryd.func22, Tryd.ntmps22
  go_wp2
  rw [hW.out]
  clear hW HLG HLV
  go_loopw [3] (fun i wr => ∃ k : Nat, k ≤ G.length ∧ i = .int .i64 k ∧ Hid (∀ j, j < k → givenAt G j = true) ∧ Below W.heap.size W wr) (fun i _ => G.length - (intOf i).toNat)
  case atStart => exact ⟨0, Nat.zero_le _, rfl, fun j hj => by omega, Below.refl _ _⟩
  case round =>
    obtain ⟨k, hk, rfl, hall, hbl⟩ := hrel
    have x0 := (hbl.cell (p := ⟨w.heap.size, 0, none⟩) hb0).trans c0
    have x1 := (hbl.cell (p := ⟨w.heap.size, 1, none⟩) hb0).trans c1
    have hlw : w.heap.size < wr.heap.size := Nat.lt_of_lt_of_le hb0 hbl.size
    by_cases hlt : k < G.length
    · obtain ⟨b, off, rfl, d0, d1, d2⟩ := HCG.out wr hbl k hlt
      have HF : Hid (grantB (G.getD k zeroG) = false → R = false) := fun h => HG.out k hlt (by simp only [givenAt, h, Bool.false_and])
      have HF2 : Hid ((G.take k).any (clashB (G.getD k zeroG)) = true → R = false) := fun h => HG.out k hlt (by simp only [givenAt, h, Bool.not_true, Bool.and_false])
      have HN : Hid (grantB (G.getD k zeroG) = true → (G.take k).any (clashB (G.getD k zeroG)) = false → ∀ j, j < k + 1 → givenAt G j = true) := fun h h' j hj => by
        by_cases e : j < k
        · exact hall.out j e
        · obtain rfl : j = k := by omega
          simp only [givenAt, h, h', Bool.not_false, Bool.and_self]
      clear hall HG HV HY HCV
      generalize G.getD k zeroG = z at *
      obtain ⟨V1, hV1, bz, hbV1, hsV1⟩ := boxes1 wr [.int .i64 z.tx, .int .i64 z.res, .int .i64 z.mode] 46
      have hB1 : Below W.heap.size W V1 := hbl.trans (hbV1.mono hbl.size)
      have C := l9Grant_any z V1
      have hzl := bz.lt
      clear hsV1 hbV1 c0 c1
      go_wp2_with fail
      rw [hV1.out]
      refine C.mono ?_
      clear C hV1
      generalize grantB z = gz at *
      rintro e w1 ⟨rfl, hb1⟩
      have hB2 : Below W.heap.size W w1 := hB1.trans (hb1.mono hB1.size)
      have bz1 := bz.below hb1 hzl
      have hL1 := bz1.lt
      have y0 := (Box.below b0 hB2 hb0).cell 0 _ rfl
      clear hb1 hB1 hbl d0 d1 d2 x0 x1 bz hzl
      cases gz
      · have HR : Hid (R = false) := HF.out rfl
        have HX := HB.out _ hB2
        go_wp2
        go_ret
        exact ⟨ret_bool HR.out.symm, HX⟩
      · clear HF
        have hsz : w.heap.size < wr.heap.size := hlw
        clear hlw
        generalize wr = wo at *
        go_wp2_with fail
        go_loopw [5] (fun i wq => ∃ j : Nat, j ≤ k ∧ i = .int .i64 j ∧ Hid ((G.take j).any (clashB z) = false) ∧ Below w1.heap.size w1 wq) (fun i _ => k - (intOf i).toNat)
        case atStart => exact ⟨0, Nat.zero_le _, rfl, rfl, Below.refl _ _⟩
        case round =>
          obtain ⟨j, hj, rfl, hany, hbq⟩ := hrel
          have hBq : Below W.heap.size W wr := hB2.trans (hbq.mono hB2.size)
          have bzq := bz1.below hbq hL1
          by_cases hjk : j < k
          · obtain ⟨b', off', hh, d0, d1, d2⟩ := HCG.out wr hBq j (by omega)
            cases hh
            have HH : Hid (clashB z (G.getD j zeroG) = true → R = false) := fun h => HF2.out (any_hit (k := j) (z := zeroG) (by rw [List.length_take]; omega) (by
              have e : (G.take k).getD j zeroG = G.getD j zeroG := by simp [List.getD, hjk]
              rw [e]; exact h))
            have HN2 : Hid (clashB z (G.getD j zeroG) = false → (G.take (j + 1)).any (clashB z) = false) := any_step (by omega) hany
            have HCB : Hid (∀ h, clashB z h = (h.res == z.res && (h.tx == z.tx || !goesB h.mode z.mode))) := fun _ => rfl
            clear hany HF2 HN HCG
            generalize G.getD j zeroG = h at *
            obtain ⟨e0, e1, e2, _⟩ := bzq.three
            have y0q := (Box.below b0 hBq hb0).cell 0 _ rfl
            have hzq := bzq.lt
            have hlq : w.heap.size < wr.heap.size := (Box.below b0 hBq hb0).lt
            obtain ⟨V2, hV2, bh, hbV2, hsV2⟩ := boxes1 wr [.int .i64 h.tx, .int .i64 h.res, .int .i64 h.mode] 46
            have hB3 : Below W.heap.size W V2 := hBq.trans (hbV2.mono hBq.size)
            have hB4 : Below w1.heap.size w1 V2 := hbq.trans (hbV2.mono hbq.size)
            have C := specGoes_any h.mode z.mode V2
            have HV2 : Hid (_ = V2) := hV2
            clear bh hsV2 hbV2 bz1 bzq y0 hL1
            by_cases q1 : h.res = z.res
            case neg =>
              have HR : Hid _ := HN2.out (by rw [HCB.out]; simp [q1])
              have HS : Hid (_ ∧ _) := ⟨hB3, hB4⟩
              clear hB3 hB4 C
              go_wp2_with fail
              rw [hV2.out]
              go_roundw
              case rel => exact ⟨j + 1, by omega, by go_num, HR.out, HS.out.2⟩
              case measure => simp [intOf]; omega
            by_cases q2 : h.tx = z.tx
            · have HR : Hid (R = false) := HH.out (by rw [HCB.out]; simp [q1, q2])
              have HX := HB.out _ hB3
              clear hB3 hB4 C
              obtain ⟨tx, res, mode⟩ := h
              simp only at q1 q2
              subst q1 q2
              go_wp2_with fail
              go_ret
              rw [HV2.out]
              exact ⟨ret_bool HR.out.symm, HX⟩
            · have HC1 : Hid (goesB h.mode z.mode = false → R = false) := fun hh => HH.out (by rw [HCB.out]; simp [q1, hh])
              have HC2 : Hid (goesB h.mode z.mode = true → (G.take (j + 1)).any (clashB z) = false) := fun hh => HN2.out (by rw [HCB.out]; simp [q2, hh])
              have HX := HB.out _ hB3
              have HS : Hid (_ ∧ _) := ⟨hB3, hB4⟩
              clear hB3 hB4
              generalize goesB h.mode z.mode = gg at *
              obtain ⟨tx, res, mode⟩ := h
              simp only at q1 q2
              subst q1
              go_wp2_with fail
              rw [hV2.out]
              refine C.mono ?_
              rintro e w' ⟨rfl, rfl⟩
              cases gg
              · have HR : Hid (R = false) := HC1.out rfl
                go_wp2_with fail
                go_ret
                exact ⟨ret_bool HR.out.symm, HX⟩
              · have HR : Hid _ := HC2.out rfl
                go_wp2_with fail
                go_roundw
                case rel => exact ⟨j + 1, by omega, by go_num, HR.out, HS.out.2⟩
                case measure => simp [intOf]; omega
          · have HK : Hid _ := HN.out trivial (by
              obtain rfl : j = k := by omega
              exact hany.out)
            clear HN HF2 hany bz1 bzq
            go_wp2_with fail
            go_roundw
            case rel => exact ⟨k + 1, by omega, by go_num, HK.out, hBq⟩
            case measure => simp [intOf]; omega
    · have HGA : Hid (∀ j, j < G.length → givenAt G j = true) := fun j hj => hall.out j (by omega)
      have hbL := hbl
      clear hall HG HCG
      generalize wr = wo at *
      go_wp2_with fail
      go_loopw [7] (fun i wr => ∃ k : Nat, k ≤ V.length ∧ i = .int .i64 k ∧ Hid (∀ j, j < k → waitAt V j = true) ∧ Below W.heap.size W wr) (fun i _ => V.length - (intOf i).toNat)
      case atStart => exact ⟨0, Nat.zero_le _, rfl, fun j hj => by omega, hbL⟩
      case round =>
        clear hbl x0 x1 hbL hlw
        obtain ⟨k, hk, rfl, hall, hbl⟩ := hrel
        have x0 := (hbl.cell (p := ⟨w.heap.size, 0, none⟩) hb0).trans c0
        have x1 := (hbl.cell (p := ⟨w.heap.size, 1, none⟩) hb0).trans c1
        by_cases hlt : k < V.length
        · obtain ⟨b, off, rfl, d0, d1, d2⟩ := HCV.out wr hbl k hlt
          have HF : Hid (grantB (V.getD k zeroG) = false → R = false) := fun h => HV.out k hlt (by simp only [waitAt, h, Bool.false_and])
          have HF2 : Hid ((V.take k).any (fun h => h.tx == (V.getD k zeroG).tx) = true → R = false) := fun h => HV.out k hlt (by simp only [waitAt, h, Bool.not_true, Bool.and_false])
          have HN : Hid (grantB (V.getD k zeroG) = true → (V.take k).any (fun h => h.tx == (V.getD k zeroG).tx) = false → ∀ j, j < k + 1 → waitAt V j = true) := fun h h' j hj => by
            by_cases e : j < k
            · exact hall.out j e
            · obtain rfl : j = k := by omega
              simp only [waitAt, h, h', Bool.not_false, Bool.and_self]
          have HZ : Hid (∀ w', Below W.heap.size W w' → w'.cell? ⟨b, off + k * 3, none⟩ = some (.int .i64 (V.getD k zeroG).tx)) := fun w' h => by
            obtain ⟨b', off', e, h0, _⟩ := HCV.out w' h k hlt
            cases e
            exact h0
          clear hall HV HY HGA
          generalize V.getD k zeroG = z at *
          have C := l9Grant_any z wr
          go_wp2_with fail
          refine C.mono ?_
          clear C
          generalize grantB z = gz at *
          rintro e w1 ⟨rfl, hb1⟩
          have hB2 : Below W.heap.size W w1 := hbl.trans (hb1.mono hbl.size)
          clear hb1 hbl d0 d1 d2 x0 x1
          cases gz
          · have HR : Hid (R = false) := HF.out rfl
            have HX := HB.out _ hB2
            go_wp2
            go_ret
            exact ⟨ret_bool HR.out.symm, HX⟩
          · clear HF
            generalize wr = wp at *
            go_wp2_with fail
            go_loopw [8] (fun i wq => ∃ j : Nat, j ≤ k ∧ i = .int .i64 j ∧ Hid ((V.take j).any (fun h => h.tx == z.tx) = false) ∧ Below W.heap.size W wq) (fun i _ => k - (intOf i).toNat)
            case atStart => exact ⟨0, Nat.zero_le _, rfl, rfl, hB2⟩
            case round =>
              obtain ⟨j, hj, rfl, hany, hBq⟩ := hrel
              have x1 := (hBq.cell (p := ⟨w.heap.size, 1, none⟩) hb0).trans c1
              by_cases hjk : j < k
              · obtain ⟨b', off', hh, d0, d1, d2⟩ := HCV.out wr hBq j (by omega)
                cases hh
                have d3 := HZ.out wr hBq
                have HH : Hid (((V.getD j zeroG).tx == z.tx) = true → R = false) := fun h => HF2.out (any_hit (p := fun h : GrantV => h.tx == z.tx) (k := j) (z := zeroG) (by rw [List.length_take]; omega) (by
                  have e : (V.take k).getD j zeroG = V.getD j zeroG := by simp [List.getD, hjk]
                  rw [e]; exact h))
                have HN2 : Hid (((V.getD j zeroG).tx == z.tx) = false → (V.take (j + 1)).any (fun h => h.tx == z.tx) = false) := any_step (p := fun h : GrantV => h.tx == z.tx) (by omega) hany
                clear hany HF2 HN HCV HZ d1 d2
                generalize V.getD j zeroG = h at *
                have HX := HB.out _ hBq.drew
                have HS : Hid (Below _ _ _) := hBq
                clear hBq hB2 c1
                by_cases q1 : h.tx = z.tx
                · have HR : Hid (R = false) := HH.out (by simp [q1])
                  go_wp2_with fail
                  go_quiet (fail)
                  go_wp2_with fail
                  go_ret
                  exact ⟨ret_bool HR.out.symm, below_drewN (HB.out _ HS.out) _⟩
                · have HR : Hid _ := HN2.out (by simp [q1])
                  go_wp2_with fail
                  go_quiet (fail)
                  go_wp2_with fail
                  go_roundw
                  case rel => exact ⟨j + 1, by omega, by go_num, HR.out, below_drewN HS.out _⟩
                  case measure => simp [intOf]; omega
              · have HK : Hid _ := HN.out trivial (by
                  obtain rfl : j = k := by omega
                  exact hany.out)
                clear HN HF2 hany
                go_wp2_with fail
                go_roundw
                case rel => exact ⟨k + 1, by omega, by go_num, HK.out, hBq⟩
                case measure => simp [intOf]; omega
        · have HR : Hid (R = true) := HY.out h1 h2 HGA.out (fun j hj => hall.out j (by omega))
          have HX := HB.out _ hbl
          go_wp2_with fail
          go_ret
          exact ⟨ret_bool HR.out.symm, HX⟩
end Go.Proofs.YtekljhabjkmhpabDoor
