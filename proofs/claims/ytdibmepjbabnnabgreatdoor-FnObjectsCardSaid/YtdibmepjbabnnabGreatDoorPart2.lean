/- Several texts in one, in their order. -/
import Derived.Test.YtdibmepjbabnnabGreatDoorPart1
import Derived.Test.YtdibmepjbabnnabGreatDoorProg
import Derived.Laws.AppendOwnNone
import Derived.Laws.IdiomStrings
import Derived.Lib.BufferRead
import Derived.Deep.RegionWith
import Derived.Deep.RegionHeld3
/- The walk of spec.l2Split. -/
namespace Go.Proofs.YtdibmepjbabnnabGreatDoor
open Go.RowKit

theorem drop_split (L : List Int) (f j : Nat) (hfj : f ≤ j) (hj : j < L.length) : L.drop f = (L.drop f).take (j - f) ++ L.getD j 0 :: L.drop (j + 1) := by
  have h1 : L.drop f = (L.drop f).take (j - f) ++ (L.drop f).drop (j - f) := (List.take_append_drop _ _).symm
  rw [List.drop_drop, show f + (j - f) = j from by omega] at h1
  rw [List.drop_eq_getElem_cons hj] at h1
  have e : L.getD j 0 = L[j] := by simp [List.getD, hj]
  rw [e]
  exact h1
theorem take_ne (L : List Int) (b : Int) (f j : Nat) (h : ∀ t, f ≤ t → t < j → L.getD t 0 ≠ b) : ∀ z ∈ (L.drop f).take (j - f), z ≠ b := by
  intro z hz
  obtain ⟨t, ht, rfl⟩ := List.getElem_of_mem hz
  simp at ht
  have := h (f + t) (by omega) (by omega)
  rw [List.getElem_take, List.getElem_drop]
  simpa [List.getD, show f + t < L.length from by omega] using this

/-- Where the loop is: f: where the piece begins; j: how far it has looked. -/
def splitAt (b : Int) (L : List Int) (ss : List ByteArray) (f j : Nat) : Prop :=
  if j ≤ L.length then splitOf b L = ss.map sBytes ++ splitOf b (L.drop f) ∧ ∀ t, f ≤ t → t < j → L.getD t 0 ≠ b else splitOf b L = ss.map sBytes

end Go.Proofs.YtdibmepjbabnnabGreatDoor

/- Slices of numbers: what the call owns; appending to it. -/
namespace Go.Proofs.YtdibmepjbabnnabGreatDoor
open Go.RowKit

theorem Tryz.infoInt : (Tryz.prog.info? 3).map (fun i => (i.zero, i.size, i.bytes)) = some (some (.int .i64 0), 1, 8) := by kernel_rfl

/-- The slice at a, of capacity c, owns the numbers ns; its row lies from lo up to hi. -/
def OwnI (w : World) (lo hi : Nat) (a : Option Addr) (c : Nat) (ns : List Int) : Prop :=
  w.ownsRow lo 3 1 (.slice a ns.length c) ns.length (ns.map (Value.int .i64)) ∧ hi ≤ w.heap.size ∧ ∀ k, (Value.slice a ns.length c).ownBlock = some k → k < hi

theorem OwnI.lt {w : World} {lo hi : Nat} {a : Option Addr} {c : Nat} {ns : List Int} (h : OwnI w lo hi a c ns) : ∀ k, (Value.slice a ns.length c).ownBlock = some k → lo ≤ k ∧ k < hi := fun k hk => ⟨(h.1.lt k hk).1, h.2.2 k hk⟩

theorem OwnI.within {w w' : World} {lo hi l r : Nat} {a : Option Addr} {c : Nat} {ns : List Int} (h : OwnI w lo hi a c ns) (hw : Within l r w w') (hd : hi ≤ l ∨ r ≤ lo) : OwnI w' lo hi a c ns :=
  ⟨ownsRow_block h.1 (fun k hk => hw.block k (by have := h.2.2 k hk; have := h.2.1; omega) (by have := h.lt k hk; omega)), Nat.le_trans h.2.1 hw.size, h.2.2⟩
theorem OwnI.below {w w' : World} {lo hi : Nat} {a : Option Addr} {c : Nat} {ns : List Int} (h : OwnI w lo hi a c ns) (hb : Below w.heap.size w w') : OwnI w' lo hi a c ns :=
  h.within (Within.of_below (lo := w.heap.size) (hi := w.heap.size) hb) (.inl h.2.1)
theorem OwnI.widen {w : World} {lo hi lo' hi' : Nat} {a : Option Addr} {c : Nat} {ns : List Int} (h : OwnI w lo hi a c ns) (h1 : lo' ≤ lo) (h2 : hi ≤ hi') (h3 : hi' ≤ w.heap.size) : OwnI w lo' hi' a c ns :=
  ⟨ownsRow_base h.1 (fun k hk => by have := h.lt k hk; omega), h3, fun k hk => by have := h.lt k hk; omega⟩

theorem OwnI.reads {w : World} {lo hi : Nat} {a : Option Addr} {c : Nat} {ns : List Int} (h : OwnI w lo hi a c ns) : ReadsI w a ns := by
  intro hne
  rcases h.1.2 with ⟨_, h0⟩ | ⟨g, cap', cur, hv, hb, hg, hr⟩
  · exact absurd (List.length_eq_zero_iff.1 h0) hne
  · simp only [Value.slice.injEq] at hv
    obtain ⟨rfl, _, rfl⟩ := hv
    refine ⟨g, 0, rfl, fun i hi => ?_⟩
    have := h.1.cellAt i (by omega)
    rw [Nat.zero_add, this]
    simp [List.getD, hi]

theorem OwnI.nocap {w : World} {lo hi : Nat} {a : Option Addr} {c : Nat} {ns : List Int} (h : OwnI w lo hi a c ns) : a = none → c = 0 := by
  intro ha
  rcases h.1.2 with ⟨hv, _⟩ | ⟨g, cap, cur, hv, _⟩
  · simp only [Value.slice.injEq] at hv; exact hv.2.2
  · simp [ha] at hv
theorem OwnI.len_cap {w : World} {lo hi : Nat} {a : Option Addr} {c : Nat} {ns : List Int} (h : OwnI w lo hi a c ns) : ns.length ≤ c := by
  rcases h.1.2 with ⟨hv, h0⟩ | ⟨g, cap, cur, hv, _, _, hn, _⟩
  · omega
  · simp only [Value.slice.injEq] at hv; omega

theorem ownI_nil (w : World) (lo hi : Nat) (h : hi ≤ w.heap.size) : OwnI w lo hi none 0 [] := ⟨⟨by simp, .inl ⟨rfl, rfl⟩⟩, h, fun k hk => by cases hk⟩
theorem ownI_lit0 (w : World) : OwnI (w.alloc (.cells #[] 3)) w.heap.size (w.heap.size + 1) (some ⟨w.heap.size, 0, none⟩) 0 [] :=
  ⟨World.ownsRow_lit w #[] 0 (Nat.le_refl _) (by simp [maxLen]) rfl, by simp, fun k hk => by cases hk; simp⟩

theorem ReadsI.cases {w : World} {a : Option Addr} {ns : List Int} (h : ReadsI w a ns) :
    ns = [] ∨ ∃ b off, a = some ⟨b, off, none⟩ ∧ 0 < ns.length ∧ (∀ i, i < ns.length → w.cell? ⟨b, off + i, none⟩ = some (.int .i64 (ns.getD i 0))) := by
  by_cases e : ns = []
  · exact .inl e
  · obtain ⟨b, off, ha, hc⟩ := h e
    exact .inr ⟨b, off, ha, List.length_pos_iff.2 e, hc⟩

theorem ReadsI.below {w w' : World} {a : Option Addr} {ns : List Int} (h : ReadsI w a ns) (hb : Below w.heap.size w w') : ReadsI w' a ns := by
  intro hne
  obtain ⟨b, off, ha, hc⟩ := h hne
  refine ⟨b, off, ha, fun i hi => ?_⟩
  rw [hb.cell (p := ⟨b, off + i, none⟩) (block_lt (hc i hi))]
  exact hc i hi
theorem ReadsI.nil (w : World) (a : Option Addr) : ReadsI w a [] := fun h => absurd rfl h

/-- Appending numbers that are read to a row that the call owns. -/
theorem append_ints {w : World} {ops : Array Oper} {rest : List Oper} {o : Oper} {act : Act} {Q : Exit → Act → World → Prop} (hgd : o.guard = none) (s x : Operand)
    (ho : o.op = .call { callee := .builtin .append, args := #[s, x], argTypes := #[24, 24] })
    (lo hi : Nat) (a : Option Addr) (c : Nat) (xs : List Int) (hs : act.eval s = .slice a xs.length c) (hown : OwnI w lo hi a c xs)
    (sa : Option Addr) (sc : Nat) (zs : List Int) (hx : act.eval x = .slice sa zs.length sc) (hr : ReadsI w sa zs) (hc : sa = none → sc = 0)
    (hb : xs.length + zs.length ≤ 1099511627776) (hlo : lo ≤ w.heap.size)
    (h : ∀ a' c' ys w', Hid (ys = xs ++ zs) → OwnI w' lo w'.heap.size a' c' ys → w.grownBy w' (Value.slice a xs.length c).ownBlock → wpList Tryz.prog ops Q rest (act.put o.dst (.slice a' ys.length c')) w') :
    wpList Tryz.prog ops Q (o :: rest) act w := by
  obtain ⟨i0, hi0, hz0, hz1, hz2⟩ := info_parts Tryz.infoInt
  have fin : ∀ v' w', w'.ownsRow lo 3 1 v' (xs.length + zs.length) (xs.map (Value.int .i64) ++ zs.map (Value.int .i64)) → w.grownBy w' (Value.slice a xs.length c).ownBlock → wpList Tryz.prog ops Q rest (act.put o.dst v') w' := by
    intro v' w' h1 h2
    rw [← List.map_append, ← List.length_append] at h1
    have sh : ∃ a' c', v' = .slice a' (xs ++ zs).length c' := by
      rcases h1.2 with ⟨rfl, h0⟩ | ⟨g, cap, cur, rfl, _⟩
      · exact ⟨none, 0, by rw [h0]⟩
      · exact ⟨_, _, rfl⟩
    obtain ⟨a', c', rfl⟩ := sh
    exact h a' c' (xs ++ zs) w' rfl ⟨h1, Nat.le_refl _, fun k hk => (h1.lt k hk).2⟩ h2
  cases sa with
  | none =>
    have hz : zs = [] := by
      by_cases e : zs = []
      · exact e
      · obtain ⟨b, off, hh, _⟩ := hr e
        cases hh
    subst hz
    have := hc rfl
    subst this
    exact wpList_append_own_none hgd s x 24 ho lo 3 i0 1 Tryz.underlying24 hi0 _ _ _ hs hown.1 hx (fin _ w (by simpa using hown.1) (World.grownBy.refl _ _))
  | some ad =>
    refine wpList_append_own w hgd s x 24 ho lo 3 i0 (.int .i64 0) 1 8 Tryz.underlying24 hi0 hz0 hz1 hz2 rfl (by decide) _ _ _ hs hown.1 ad zs.length sc (zs.map (Value.int .i64)) hx (by simp) ?_ (ints_oneCell _ _) (by simp only [maxLen]; omega) (by omega) hlo (fun v' w' h1 h2 _ => fin v' w' h1 h2)
    intro j u hj
    have hjl : j < zs.length := by
      by_cases e : j < zs.length
      · exact e
      · simp [List.getElem?_eq_none (Nat.le_of_not_lt e)] at hj
    have hne : zs ≠ [] := by intro e; simp [e] at hjl
    obtain ⟨b, off, hh, hcell⟩ := hr hne
    cases hh
    rw [Addr_add, hcell j hjl]
    simpa [hjl] using hj

end Go.Proofs.YtdibmepjbabnnabGreatDoor

/- The walk of spec.l2Numbers. -/
namespace Go.Proofs.YtdibmepjbabnnabGreatDoor
open Go.RowKit

def numsOfAll : List (List Int) → Option (List Int)
  | [] => some []
  | p :: r => match numberOf p, numsOfAll r with
    | some z, some l => some (z :: l)
    | _, _ => none
/-- The numbers between commas, if each is one. -/
def numbersOf (L : List Int) : Option (List Int) := if L = [] then some [] else numsOfAll (splitOf 44 L)

theorem all_step (ps : List (List Int)) (j : Nat) (hj : j < ps.length) (ns : List Int) (z : Int) (hz : numberOf ps[j] = some z) (h : numsOfAll ps = (numsOfAll (ps.drop j)).map (ns ++ ·)) : numsOfAll ps = (numsOfAll (ps.drop (j + 1))).map ((ns ++ [z]) ++ ·) := by
  rw [h, List.drop_eq_getElem_cons hj, numsOfAll, hz]
  cases numsOfAll (ps.drop (j + 1)) with
  | none => rfl
  | some l => simp
theorem all_stop (ps : List (List Int)) (j : Nat) (hj : j < ps.length) (ns : List Int) (hz : numberOf ps[j] = none) (h : numsOfAll ps = (numsOfAll (ps.drop j)).map (ns ++ ·)) : numsOfAll ps = none := by
  rw [h, List.drop_eq_getElem_cons hj, numsOfAll, hz]; rfl
theorem all_end (ps : List (List Int)) (ns : List Int) (h : numsOfAll ps = (numsOfAll (ps.drop ps.length)).map (ns ++ ·)) : numsOfAll ps = some ns := by
  rw [h, List.drop_length]; simp [numsOfAll]

theorem split_len (b : Int) (L : List Int) : (splitOf b L).length ≤ L.length + 1 := by
  induction L with
  | nil => simp [splitOf]
  | cons z r ih =>
    unfold splitOf
    split
    · simp; omega
    · split
      · simp
      · rename_i e; rw [e] at ih; simp at ih ⊢; omega

/-- A row of numbers and a row of texts are two. -/
theorem own_apart {w : World} {lo hi lo' : Nat} {a a' : Option Addr} {c c' : Nat} {ns : List Int} {ss : List ByteArray} (hI : OwnI w lo hi a c ns) (hS : OwnS w lo' a' c' ss) : ∀ k, (Value.slice a' ss.length c').ownBlock = some k → (Value.slice a ns.length c).ownBlock ≠ some k := by
  intro k hk hk'
  rcases hI.1.2 with ⟨hv, _⟩ | ⟨g, cap, cur, hv, _, hg, _⟩
  · rw [hv] at hk'; cases hk'
  · rcases hS.2 with ⟨hv', _⟩ | ⟨g', cap', cur', hv', _, hg', _⟩
    · rw [hv'] at hk; cases hk
    · rw [hv] at hk'
      rw [hv'] at hk
      cases hk
      cases hk'
      rw [hg] at hg'
      cases hg'

theorem piece_len (b : Int) (L : List Int) : ∀ p ∈ splitOf b L, p.length ≤ L.length := by
  induction L with
  | nil => intro p hp; simp [splitOf] at hp; simp [hp]
  | cons z r ih =>
    intro p hp
    unfold splitOf at hp
    split at hp
    · simp at hp
      rcases hp with rfl | hp
      · simp
      · have := ih p hp; simp; omega
    · split at hp
      · simp at hp; subst hp; simp
      · rename_i q qs e
        rw [e] at ih
        simp at hp
        rcases hp with rfl | hp
        · have := ih q (by simp); simp; omega
        · have := ih p (by simp [hp]); simp; omega

end Go.Proofs.YtdibmepjbabnnabGreatDoor

/- Appending bytes that are read to a row that the call owns: one law for the walk. -/
namespace Go.Proofs.YtdibmepjbabnnabGreatDoor
open Go.RowKit

theorem Tryz.infoU8 : (Tryz.prog.info? 5).map (fun i => (i.zero, i.size, i.bytes)) = some (some (.int .u8 0), 1, 1) := by kernel_rfl

/-- The slice at a, of capacity c, owns the bytes ys; its row lies from base on. -/
def OwnB (w : World) (base : Nat) (a : Option Addr) (c : Nat) (ys : List Int) : Prop :=
  (∀ z ∈ ys, 0 ≤ z ∧ z < 256) ∧ w.ownsRow base 5 1 (.slice a ys.length c) ys.length (ys.map (Value.int .u8))

theorem OwnB.reads {w : World} {base : Nat} {a : Option Addr} {c : Nat} {ys : List Int} (h : OwnB w base a c ys) : Reads w a ys := Reads.of_own h.1 h.2

theorem OwnB.nocap {w : World} {base : Nat} {a : Option Addr} {c : Nat} {ys : List Int} (h : OwnB w base a c ys) : a = none → c = 0 := by
  intro ha
  rcases h.2.2 with ⟨hv, _⟩ | ⟨g, cap, cur, hv, _⟩
  · simp only [Value.slice.injEq] at hv; exact hv.2.2
  · simp [ha] at hv

theorem OwnB.below {w w' : World} {base : Nat} {a : Option Addr} {c : Nat} {ys : List Int} (h : OwnB w base a c ys) (hb : Below w.heap.size w w') : OwnB w' base a c ys := by
  refine ⟨h.1, h.2.1, ?_⟩
  rcases h.2.2 with h0 | ⟨g, cap, cur, hv, hg, hgg, hr⟩
  · exact .inl h0
  · exact .inr ⟨g, cap, cur, hv, hg, by rw [hb.block g (Array.getElem?_eq_some_iff.1 hgg).1]; exact hgg, hr⟩

theorem OwnB.alloc {w : World} {base : Nat} {a : Option Addr} {c : Nat} {ys : List Int} (h : OwnB w base a c ys) (o : Obj) : OwnB (w.alloc o) base a c ys := ⟨h.1, h.2.alloc o⟩

theorem OwnB.base {w : World} {base base' : Nat} {a : Option Addr} {c : Nat} {ys : List Int} (h : OwnB w base a c ys) (hb : base' ≤ base) : OwnB w base' a c ys := by
  refine ⟨h.1, h.2.1, ?_⟩
  rcases h.2.2 with h0 | ⟨g, cap, cur, hv, hg, hr⟩
  · exact .inl h0
  · exact .inr ⟨g, cap, cur, hv, by omega, hr⟩

theorem Reads.alloc {w : World} {a : Option Addr} {zs : List Int} (h : Reads w a zs) (o : Obj) : Reads (w.alloc o) a zs := h.below ((Below.refl _ _).alloc (Nat.le_refl _) o)

theorem reads_lit1 (w : World) (z : Int) (e : TypeId) (hz : 0 ≤ z ∧ z < 256) : Reads (w.alloc (.cells #[.int .u8 z] e)) (some ⟨w.heap.size, 0, none⟩) [z] := by
  refine ⟨by simpa using hz, fun _ => ⟨_, _, rfl, fun i hi => ?_⟩⟩
  simp at hi
  subst hi
  simp

theorem own_lit0 (w : World) : OwnB (w.alloc (.cells #[] 5)) w.heap.size (some ⟨w.heap.size, 0, none⟩) 0 [] :=
  ⟨by simp, World.ownsRow_lit w #[] 0 (Nat.le_refl _) (by simp [maxLen]) rfl⟩

theorem append_bytes {w : World} {ops : Array Oper} {rest : List Oper} {o : Oper} {act : Act} {Q : Exit → Act → World → Prop} (hgd : o.guard = none) (s x : Operand)
    (ho : o.op = .call { callee := .builtin .append, args := #[s, x], argTypes := #[22, 22] })
    (base : Nat) (a : Option Addr) (c : Nat) (xs : List Int) (hs : act.eval s = .slice a xs.length c) (hown : OwnB w base a c xs)
    (sa : Option Addr) (sc : Nat) (zs : List Int) (hx : act.eval x = .slice sa zs.length sc) (hr : Reads w sa zs) (hc : sa = none → sc = 0)
    (hb : xs.length + zs.length ≤ 70368744177664) (hbase : base ≤ w.heap.size)
    (h : ∀ a' c' ys w', Hid (ys = xs ++ zs) → OwnB w' base a' c' ys → w.grownBy w' (Value.slice a xs.length c).ownBlock → wpList Tryz.prog ops Q rest (act.put o.dst (.slice a' ys.length c')) w') :
    wpList Tryz.prog ops Q (o :: rest) act w := by
  obtain ⟨i0, hi, hz0, hz1, hz2⟩ := info_parts Tryz.infoU8
  have hby : ∀ z ∈ xs ++ zs, 0 ≤ z ∧ z < 256 := by
    intro z hz
    rcases List.mem_append.1 hz with h1 | h1
    · exact hown.1 z h1
    · exact hr.1 z h1
  have fin : ∀ v' w', w'.ownsRow base 5 1 v' (xs.length + zs.length) (xs.map (Value.int .u8) ++ zs.map (Value.int .u8)) → w.grownBy w' (Value.slice a xs.length c).ownBlock → wpList Tryz.prog ops Q rest (act.put o.dst v') w' := by
    intro v' w' h1 h2
    rw [← List.map_append, ← List.length_append] at h1
    have sh : ∃ a' c', v' = .slice a' (xs ++ zs).length c' := by
      rcases h1.2 with ⟨rfl, h0⟩ | ⟨g, cap, cur, rfl, _⟩
      · exact ⟨none, 0, by rw [h0]⟩
      · exact ⟨_, _, rfl⟩
    obtain ⟨a', c', rfl⟩ := sh
    exact h a' c' (xs ++ zs) w' rfl ⟨hby, h1⟩ h2
  cases sa with
  | none =>
    have hz : zs = [] := by
      by_cases e : zs = []
      · exact e
      · obtain ⟨b, off, hh, _⟩ := hr.2 e
        cases hh
    subst hz
    have := hc rfl
    subst this
    exact wpList_append_own_none hgd s x 22 ho base 5 i0 1 Tryz.underlying22 hi _ _ _ hs hown.2 hx (fin _ w (by simpa using hown.2) (World.grownBy.refl _ _))
  | some ad =>
    refine wpList_append_own w hgd s x 22 ho base 5 i0 (.int .u8 0) 1 1 Tryz.underlying22 hi hz0 hz1 hz2 rfl (by decide) _ _ _ hs hown.2 ad zs.length sc (zs.map (Value.int .u8)) hx (by simp) ?_ (ints_oneCell _ _) (by simp only [maxLen]; omega) (by omega) hbase (fun v' w' h1 h2 _ => fin v' w' h1 h2)
    intro j u hj
    have hjl : j < zs.length := by
      by_cases e : j < zs.length
      · exact e
      · simp [List.getElem?_eq_none (Nat.le_of_not_lt e)] at hj
    have hne : zs ≠ [] := by intro e; simp [e] at hjl
    obtain ⟨b, off, hh, hcell⟩ := hr.2 hne
    cases hh
    rw [Addr_add, hcell j hjl]
    simpa [hjl] using hj

end Go.Proofs.YtdibmepjbabnnabGreatDoor

/- A text of bytes. -/
namespace Go.Proofs.YtdibmepjbabnnabGreatDoor
open Go.RowKit

def strOf (G : List Int) : ByteArray := ⟨(G.map fun z => UInt8.ofNat z.toNat).toArray⟩

theorem run_text (w : World) (b off cap : Nat) (G : List Int) (n : Nat) (hn : n = G.length) (hr : Reads w (some ⟨b, off, none⟩) G) :
    (convert 22 9 (.slice (some ⟨b, off, none⟩) n cap)).run Tryz.prog w = .ok (.string (strOf G)) w := by
  have h := run_convert_bytes_back (P := Tryz.prog) w 22 9 5 ⟨b, off, none⟩ cap (G.map fun z => UInt8.ofNat z.toNat) Tryz.underlying22 Tryz.underlying5 Tryz.underlying9 ?_
  · rw [List.length_map] at h
    rw [hn, h]
    rfl
  · intro j hj
    rw [List.length_map] at hj
    have hne : G ≠ [] := by intro e; simp [e] at hj
    obtain ⟨b', off', hh, hc⟩ := hr.2 hne
    cases hh
    have hadd : (⟨b, off, none⟩ : Addr).add j = ⟨b, off + j, none⟩ := by unfold Addr.add; split <;> simp_all
    rw [hadd, hc j hj]
    have hb := bytes_nat hr.1 j
    have hg : G.getD j 0 = G[j] := by simp [List.getD, hj]
    rw [hg] at hb
    simp only [List.getElem_map, hg]
    have : (UInt8.ofNat G[j].toNat).toNat = G[j].toNat := by simp; omega
    rw [this, ← hb.1]

theorem run_text_own {w : World} {base : Nat} {a : Option Addr} {c : Nat} {ys : List Int} (h : OwnB w base a c ys) :
    (convert 22 9 (.slice a ys.length c)).run Tryz.prog w = .ok (.string (strOf ys)) w := by
  cases a with
  | none =>
    have hn : ys = [] := by
      by_cases e : ys = []
      · exact e
      · obtain ⟨b, off, hh, _⟩ := h.reads.2 e
        cases hh
    subst hn
    exact Lib.run_convert_nil_bytes (P := Tryz.prog) w 22 9 5 c Tryz.underlying22 Tryz.underlying5 Tryz.underlying9
  | some x =>
    rcases h.2.2 with ⟨hv, _⟩ | ⟨g, cap, cur, hv, _⟩
    · simp at hv
    · simp only [Value.slice.injEq, Option.some.injEq] at hv
      obtain ⟨rfl, _, rfl⟩ := hv
      exact run_text w g 0 c ys _ rfl h.reads

end Go.Proofs.YtdibmepjbabnnabGreatDoor

/- A block of cells that the call laid: a box. -/
namespace Go.Proofs.YtdibmepjbabnnabGreatDoor
open Go.RowKit

/-- Block B holds these cells, none frozen. -/
def Box (w : World) (B : Nat) (vs : List Value) (t : TypeId) : Prop := w.heap[B]? = some (.cells vs.toArray t (0, 0))

theorem Box.lt {w : World} {B : Nat} {vs : List Value} {t : TypeId} (h : Box w B vs t) : B < w.heap.size := (Array.getElem?_eq_some_iff.1 h).1
theorem Box.cell {w : World} {B : Nat} {vs : List Value} {t : TypeId} (h : Box w B vs t) (i : Nat) (v : Value) (hv : vs[i]? = some v) : w.cell? ⟨B, i, none⟩ = some v := by
  unfold Box at h
  simp [World.cell?, h, hv]
theorem Box.frozen {w : World} {B : Nat} {vs : List Value} {t : TypeId} (h : Box w B vs t) (i : Nat) : w.frozen? ⟨B, i, none⟩ = false := by
  unfold Box at h
  simp [World.frozen?, h]
theorem Box.set {w : World} {B : Nat} {vs : List Value} {t : TypeId} (h : Box w B vs t) (i : Nat) (v : Value) : Box (w.setCell ⟨B, i, none⟩ v) B (vs.set i v) t := by
  unfold Box at h ⊢
  rw [heap_setCell_same w B i _ t v h]
  simp
theorem Box.block {w w' : World} {B : Nat} {vs : List Value} {t : TypeId} (h : Box w B vs t) (hb : w'.heap[B]? = w.heap[B]?) : Box w' B vs t := by unfold Box at h ⊢; rw [hb]; exact h
theorem Box.below {w w' : World} {B n : Nat} {vs : List Value} {t : TypeId} (h : Box w B vs t) (hb : Below n w w') (hn : B < n) : Box w' B vs t := h.block (hb.block B hn)
theorem Box.within {w w' : World} {B l r : Nat} {vs : List Value} {t : TypeId} (h : Box w B vs t) (hb : Within l r w w') (hn : ¬ (l ≤ B ∧ B < r)) : Box w' B vs t := h.block (hb.block B h.lt hn)
theorem Box.alloc {w : World} {B : Nat} {vs : List Value} {t : TypeId} (h : Box w B vs t) (o : Obj) : Box (w.alloc o) B vs t := h.block (Below.heap_alloc w o B h.lt)
theorem Box.other {w : World} {B C i : Nat} {v : Value} {vs : List Value} {t : TypeId} (h : Box w B vs t) (hne : B ≠ C) : Box (w.setCell ⟨C, i, none⟩ v) B vs t := h.block (heap_setCell_other w ⟨C, i, none⟩ B v hne)
theorem box_new (w : World) (vs : List Value) (t : TypeId) : Box (w.alloc (.cells vs.toArray t)) w.heap.size vs t := by unfold Box; rw [heap_alloc_new]
theorem Box.drewN {w : World} {B : Nat} {vs : List Value} {t : TypeId} (h : Box w B vs t) (n : Nat) : Box (w.drewN n) B vs t := h.block (by rfl)

/-- One, two, three boxes laid on one another. -/
theorem boxes1 (w : World) (v0 : List Value) (t0 : TypeId) : ∃ W, Hid (w.alloc (.cells v0.toArray t0) = W) ∧ Box W w.heap.size v0 t0 ∧ Below w.heap.size w W ∧ W.heap.size = w.heap.size + 1 :=
  ⟨_, rfl, box_new w _ _, (Below.refl _ _).alloc (Nat.le_refl _) _, by simp⟩
theorem boxes2 (w : World) (v0 v1 : List Value) (t0 t1 : TypeId) : ∃ W, Hid ((w.alloc (.cells v0.toArray t0)).alloc (.cells v1.toArray t1) = W) ∧ Box W w.heap.size v0 t0 ∧ Box W (w.heap.size + 1) v1 t1 ∧ Below w.heap.size w W ∧ W.heap.size = w.heap.size + 2 := by
  refine ⟨_, rfl, (box_new w _ _).alloc _, ?_, ((Below.refl _ _).alloc (Nat.le_refl _) _).alloc (by simp) _, by simp⟩
  have := box_new (w.alloc (.cells v0.toArray t0)) v1 t1
  simpa using this
theorem boxes3 (w : World) (v0 v1 v2 : List Value) (t0 t1 t2 : TypeId) : ∃ W, Hid (((w.alloc (.cells v0.toArray t0)).alloc (.cells v1.toArray t1)).alloc (.cells v2.toArray t2) = W) ∧ Box W w.heap.size v0 t0 ∧ Box W (w.heap.size + 1) v1 t1 ∧ Box W (w.heap.size + 1 + 1) v2 t2 ∧ Below w.heap.size w W ∧ W.heap.size = w.heap.size + 3 := by
  refine ⟨_, rfl, ((box_new w _ _).alloc _).alloc _, ?_, ?_, (((Below.refl _ _).alloc (Nat.le_refl _) _).alloc (by simp) _).alloc (by simp; omega) _, by simp⟩
  · have := (box_new (w.alloc (.cells v0.toArray t0)) v1 t1).alloc (.cells v2.toArray t2)
    simpa using this
  · have := box_new ((w.alloc (.cells v0.toArray t0)).alloc (.cells v1.toArray t1)) v2 t2
    simpa using this

theorem box_set {w : World} {B : Nat} {vs : List Value} {t : TypeId} (h : Box w B vs t) (i : Nat) (v : Value) : ∃ W, Hid (w.setCell ⟨B, i, none⟩ v = W) ∧ Box W B (vs.set i v) t ∧ Within B (B + 1) w W ∧ W.heap.size = w.heap.size :=
  ⟨_, rfl, h.set i v, ⟨rfl, rfl, rfl, by simp, fun k _ hn => heap_setCell_other w ⟨B, i, none⟩ k v (fun e => hn (by simp at e; omega))⟩, by simp⟩

theorem within_set (w : World) (B i : Nat) (v : Value) {lo hi : Nat} (h : lo ≤ B ∧ B < hi) : Within lo hi w (w.setCell ⟨B, i, none⟩ v) :=
  ⟨rfl, rfl, rfl, by simp, fun k _ hn => heap_setCell_other w ⟨B, i, none⟩ k v (fun e => hn (by simp at e; omega))⟩
end Go.Proofs.YtdibmepjbabnnabGreatDoor

/- The text of a number; the walk of spec.l2Text. -/
namespace Go.Proofs.YtdibmepjbabnnabGreatDoor
open Go.RowKit

theorem strOf_append (a b : List Int) : strOf (a ++ b) = strOf a ++ strOf b := by
  apply ByteArray.ext
  simp [strOf]

theorem run_digit (W : World) (g : Nat) (d : Int) (hd : 0 ≤ d ∧ d < 256) (h : W.cell? ⟨g, 0, none⟩ = some (.int .u8 d)) : (convert 22 9 (.slice (some ⟨g, 0, none⟩) 1 1)).run Tryz.prog W = .ok (.string (strOf [d])) W :=
  run_text W g 0 1 [d] 1 rfl ⟨by simpa using hd, fun _ => ⟨g, 0, rfl, fun i hi => by simp at hi; subst hi; simpa using h⟩⟩

theorem strOf_size (l : List Int) : (strOf l).size = l.length := by simp [strOf, ByteArray.size]
theorem dec_size (n : Nat) (h : n ≤ 1000000000) : (strOf (decOf n)).size ≤ 10 := by
  rw [strOf_size]
  exact decOf_len 9 n (by omega)

end Go.Proofs.YtdibmepjbabnnabGreatDoor

/- Objects: what they are, what a walk reads and owns of them. -/
namespace Go.Proofs.YtdibmepjbabnnabGreatDoor
open Go.RowKit

structure ObjV where
  kind : Int
  ints : List Int
  refs : List Int

/-- The value of an object whose lists lie at aI and aR. -/
def ObjV.val (o : ObjV) (aI : Option Addr) (cI : Nat) (aR : Option Addr) (cR : Nat) : Value := .agg #[.int .i64 o.kind, .slice aI o.ints.length cI, .slice aR o.refs.length cR]

structure ReadsO (w : World) (aI : Option Addr) (cI : Nat) (aR : Option Addr) (cR : Nat) (o : ObjV) : Prop where
  ints : ReadsI w aI o.ints
  refs : ReadsI w aR o.refs
  ni : aI = none → cI = 0
  nr : aR = none → cR = 0

structure OwnO (w : World) (lo hi : Nat) (aI : Option Addr) (cI : Nat) (aR : Option Addr) (cR : Nat) (o : ObjV) : Prop where
  ints : OwnI w lo hi aI cI o.ints
  refs : OwnI w lo hi aR cR o.refs
  apart : ∀ k, (Value.slice aI o.ints.length cI).ownBlock = some k → (Value.slice aR o.refs.length cR).ownBlock ≠ some k

theorem ReadsO.below {w w' : World} {aI : Option Addr} {cI : Nat} {aR : Option Addr} {cR : Nat} {o : ObjV} (h : ReadsO w aI cI aR cR o) (hb : Below w.heap.size w w') : ReadsO w' aI cI aR cR o := ⟨h.ints.below hb, h.refs.below hb, h.ni, h.nr⟩
theorem ReadsO.drew {w : World} {aI : Option Addr} {cI : Nat} {aR : Option Addr} {cR : Nat} {o : ObjV} (h : ReadsO w aI cI aR cR o) : ReadsO w.drew aI cI aR cR o := h.below (Below.refl _ _).drew
theorem OwnO.reads {w : World} {lo hi : Nat} {aI : Option Addr} {cI : Nat} {aR : Option Addr} {cR : Nat} {o : ObjV} (h : OwnO w lo hi aI cI aR cR o) : ReadsO w aI cI aR cR o := ⟨h.ints.reads, h.refs.reads, h.ints.nocap, h.refs.nocap⟩
theorem OwnO.within {w w' : World} {lo hi l r : Nat} {aI : Option Addr} {cI : Nat} {aR : Option Addr} {cR : Nat} {o : ObjV} (h : OwnO w lo hi aI cI aR cR o) (hw : Within l r w w') (hd : hi ≤ l ∨ r ≤ lo) : OwnO w' lo hi aI cI aR cR o := ⟨h.ints.within hw hd, h.refs.within hw hd, h.apart⟩
theorem OwnO.below {w w' : World} {lo hi : Nat} {aI : Option Addr} {cI : Nat} {aR : Option Addr} {cR : Nat} {o : ObjV} (h : OwnO w lo hi aI cI aR cR o) (hb : Below w.heap.size w w') : OwnO w' lo hi aI cI aR cR o := ⟨h.ints.below hb, h.refs.below hb, h.apart⟩
theorem OwnO.widen {w : World} {lo hi lo' hi' : Nat} {aI : Option Addr} {cI : Nat} {aR : Option Addr} {cR : Nat} {o : ObjV} (h : OwnO w lo hi aI cI aR cR o) (h1 : lo' ≤ lo) (h2 : hi ≤ hi') (h3 : hi' ≤ w.heap.size) : OwnO w lo' hi' aI cI aR cR o := ⟨h.ints.widen h1 h2 h3, h.refs.widen h1 h2 h3, h.apart⟩

theorem OwnI.kept {w w' : World} {lo hi : Nat} {a : Option Addr} {c : Nat} {ns : List Int} {row : Option Nat} (h : OwnI w lo hi a c ns) (hg : w.grownBy w' row) (hne : ∀ k, (Value.slice a ns.length c).ownBlock = some k → row ≠ some k) : OwnI w' lo hi a c ns :=
  ⟨ownsRow_block h.1 (fun k hk => hg.block k (h.1.lt k hk).2 (fun e => hne k hk e.symm)), Nat.le_trans h.2.1 hg.size, h.2.2⟩
end Go.Proofs.YtdibmepjbabnnabGreatDoor

/- When an object is right; the walk of spec.ObjOk. -/
namespace Go.Proofs.YtdibmepjbabnnabGreatDoor
open Go.RowKit

def okB (o : ObjV) : Bool := inB o.kind 1 99 && (decide (o.ints.length ≤ 5) && (decide (o.refs.length ≤ 5) && (o.ints.all (fun z => inB z (-1000000) 1000000) && o.refs.all (fun z => inB z 0 31))))

theorem okB_kind {o : ObjV} (h : inB o.kind 1 99 = false) : okB o = false := by simp [okB, h]
theorem okB_ints {o : ObjV} (h : ¬ o.ints.length ≤ 5) : okB o = false := by simp [okB, h]
theorem okB_refs {o : ObjV} (h : ¬ o.refs.length ≤ 5) : okB o = false := by simp [okB, h]
theorem okB_int {o : ObjV} (j : Nat) (hj : j < o.ints.length) (h : inB (o.ints.getD j 0) (-1000000) 1000000 = false) : okB o = false := by
  have : (o.ints.all (fun z => inB z (-1000000) 1000000)) = false := by
    rw [List.all_eq_false]
    exact ⟨o.ints.getD j 0, by simp [List.getD, hj], by rw [h]; decide⟩
  simp [okB, this]
theorem okB_ref {o : ObjV} (j : Nat) (hj : j < o.refs.length) (h : inB (o.refs.getD j 0) 0 31 = false) : okB o = false := by
  have : (o.refs.all (fun z => inB z 0 31)) = false := by
    rw [List.all_eq_false]
    exact ⟨o.refs.getD j 0, by simp [List.getD, hj], by rw [h]; decide⟩
  simp [okB, this]
theorem okB_true {o : ObjV} (h1 : inB o.kind 1 99 = true) (h2 : o.ints.length ≤ 5) (h3 : o.refs.length ≤ 5) (h4 : ∀ j, j < o.ints.length → inB (o.ints.getD j 0) (-1000000) 1000000 = true) (h5 : ∀ j, j < o.refs.length → inB (o.refs.getD j 0) 0 31 = true) : okB o = true := by
  have a4 : (o.ints.all (fun z => inB z (-1000000) 1000000)) = true := by
    rw [List.all_eq_true]
    intro z hz
    obtain ⟨j, hj, rfl⟩ := List.getElem_of_mem hz
    have := h4 j hj
    simpa [List.getD, hj] using this
  have a5 : (o.refs.all (fun z => inB z 0 31)) = true := by
    rw [List.all_eq_true]
    intro z hz
    obtain ⟨j, hj, rfl⟩ := List.getElem_of_mem hz
    have := h5 j hj
    simpa [List.getD, hj] using this
  simp [okB, h1, h2, h3, a4, a5]

set_option maxHeartbeats 1000000 in
set_option maxRecDepth 100000 in
theorem specObjOk_any (o : ObjV) (aI : Option Addr) (cI : Nat) (aR : Option Addr) (cR : Nat) (w : World) (hr : ReadsO w aI cI aR cR o) (hnI : o.ints.length ≤ 140737488355328) (hnR : o.refs.length ≤ 140737488355328) :
    Calls Tryz.prog 8 #[.agg #[.int .i64 o.kind, .slice aI o.ints.length cI, .slice aR o.refs.length cR]] w fun e w' => e = .returned (.bool (okB o)) ∧ Below w.heap.size w w' := by
  obtain ⟨k, ints, refs⟩ := o
  obtain ⟨hI, hR, _, _⟩ := hr
  simp only at *
  obtain ⟨W, hW, b0, hbW, hsW⟩ := boxes1 w [.int .i64 k, .slice aI ints.length cI, .slice aR refs.length cR] 26
  have hI' := hI.below hbW
  have hR' := hR.below hbW
  have x1 := b0.cell 1 _ rfl
  have x2 := b0.cell 2 _ rfl
  cases hk : inB k 1 99 with
  | false =>
    have HK : Hid (_ = _) := hk
    have HE : Hid (okB ⟨k, ints, refs⟩ = false) := okB_kind hk
    clear hk
    go_enter Tryz.func8, Tryz.ntmps8
    go_wp2_with fail
    rw [hW.out]
    refine (l1In_any _ _ _ _).mono ?_
    rintro e w' ⟨rfl, rfl⟩
    rw [HK.out]
    go_wp2
    go_ret
    exact ⟨ret_bool HE.out.symm, hbW⟩
  | true =>
  have HK : Hid (_ = _) := hk
  clear hk
  by_cases h5 : ints.length ≤ 5
  case neg =>
    have HE : Hid (okB ⟨k, ints, refs⟩ = false) := okB_ints h5
    go_enter Tryz.func8, Tryz.ntmps8
    go_wp2_with fail
    rw [hW.out]
    refine (l1In_any _ _ _ _).mono ?_
    rintro e w' ⟨rfl, rfl⟩
    rw [HK.out]
    go_wp2
    go_ret
    exact ⟨ret_bool HE.out.symm, hbW⟩
  case pos =>
  by_cases h6 : refs.length ≤ 5
  case neg =>
    have HE : Hid (okB ⟨k, ints, refs⟩ = false) := okB_refs h6
    go_enter Tryz.func8, Tryz.ntmps8
    go_wp2_with fail
    rw [hW.out]
    refine (l1In_any _ _ _ _).mono ?_
    rintro e w' ⟨rfl, rfl⟩
    rw [HK.out]
    go_wp2
    go_ret
    exact ⟨ret_bool HE.out.symm, hbW⟩
  case pos =>
  go_enter Tryz.func8, Tryz.ntmps8
  go_wp2_with fail
  rw [hW.out]
  refine (l1In_any _ _ _ _).mono ?_
  rintro e w' ⟨rfl, rfl⟩
  rw [HK.out]
  go_wp2
  go_loop [3] (fun i => ∃ j : Nat, j ≤ ints.length ∧ i = .int .i64 j ∧ Hid (∀ t, t < j → inB (ints.getD t 0) (-1000000) 1000000 = true)) (fun i => ints.length - (intOf i).toNat)
  case atStart => exact ⟨0, by omega, rfl, fun t ht => by omega⟩
  case round =>
    obtain ⟨j, hj, rfl, hall⟩ := hrel
    by_cases hlt : j < ints.length
    · rcases hI'.cases with rfl | ⟨b, off, rfl, hpos, hcell⟩
      · simp at hlt
      have hc := hcell j hlt
      clear hcell
      cases hz : inB (ints.getD j 0) (-1000000) 1000000 with
      | false =>
        have HE : Hid (okB ⟨k, ints, refs⟩ = false) := okB_int j hlt hz
        have HZ : Hid (_ = _) := hz
        clear hz
        generalize ints.getD j 0 = z at *
        go_wp2_with fail
        refine (l1In_any _ _ _ _).mono ?_
        rintro e w' ⟨rfl, rfl⟩
        rw [HZ.out]
        go_wp2
        go_ret
        exact ⟨ret_bool HE.out.symm, hbW⟩
      | true =>
        have HN : Hid (∀ t, t < j + 1 → inB (ints.getD t 0) (-1000000) 1000000 = true) := by
          intro t ht
          by_cases e : t = j
          · rw [e]; exact hz
          · exact hall.out t (by omega)
        have HZ : Hid (_ = _) := hz
        clear hz
        generalize ints.getD j 0 = z at *
        go_wp2_with fail
        refine (l1In_any _ _ _ _).mono ?_
        rintro e w' ⟨rfl, rfl⟩
        rw [HZ.out]
        go_wp2
        go_round
        case rel => exact ⟨j + 1, by omega, by go_num, HN⟩
        case measure => simp [intOf]; omega
    · have HALL : Hid (∀ t, t < ints.length → inB (ints.getD t 0) (-1000000) 1000000 = true) := fun t ht => hall.out t (by omega)
      go_wp2
      go_loop [4] (fun i => ∃ j : Nat, j ≤ refs.length ∧ i = .int .i64 j ∧ Hid (∀ t, t < j → inB (refs.getD t 0) 0 31 = true)) (fun i => refs.length - (intOf i).toNat)
      case atStart => exact ⟨0, by omega, rfl, fun t ht => by omega⟩
      case round =>
        obtain ⟨i, hi, rfl, hall2⟩ := hrel
        by_cases hlt2 : i < refs.length
        · rcases hR'.cases with rfl | ⟨b, off, rfl, hpos, hcell⟩
          · simp at hlt2
          have hc := hcell i hlt2
          clear hcell
          cases hz : inB (refs.getD i 0) 0 31 with
          | false =>
            have HE : Hid (okB ⟨k, ints, refs⟩ = false) := okB_ref i hlt2 hz
            have HZ : Hid (_ = _) := hz
            clear hz
            generalize refs.getD i 0 = z at *
            go_wp2_with fail
            refine (l1In_any _ _ _ _).mono ?_
            rintro e w' ⟨rfl, rfl⟩
            rw [HZ.out]
            go_wp2
            go_ret
            exact ⟨ret_bool HE.out.symm, hbW⟩
          | true =>
            have HN : Hid (∀ t, t < i + 1 → inB (refs.getD t 0) 0 31 = true) := by
              intro t ht
              by_cases e : t = i
              · rw [e]; exact hz
              · exact hall2.out t (by omega)
            have HZ : Hid (_ = _) := hz
            clear hz
            generalize refs.getD i 0 = z at *
            go_wp2_with fail
            refine (l1In_any _ _ _ _).mono ?_
            rintro e w' ⟨rfl, rfl⟩
            rw [HZ.out]
            go_wp2
            go_round
            case rel => exact ⟨i + 1, by omega, by go_num, HN⟩
            case measure => simp [intOf]; omega
        · have HE : Hid (okB ⟨k, ints, refs⟩ = true) := okB_true HK.out h5 h6 HALL.out (fun t ht => hall2.out t (by simp only at ht; omega))
          go_wp2
          go_ret
          exact ⟨ret_bool HE.out.symm, hbW⟩
end Go.Proofs.YtdibmepjbabnnabGreatDoor

/- The text of an object; the walks of spec.l2Join and spec.ObjText. -/
namespace Go.Proofs.YtdibmepjbabnnabGreatDoor
open Go.RowKit

/-- The first k numbers' texts, with commas between. -/
def joinTo (l : List Int) : Nat → List Int
  | 0 => []
  | k + 1 => (if k = 0 then [] else joinTo l k ++ [44]) ++ numText (l.getD k 0)
def joinOf (l : List Int) : List Int := joinTo l l.length
def textO (o : ObjV) : List Int := ((((numText o.kind ++ [40]) ++ joinOf o.ints) ++ [59]) ++ joinOf o.refs) ++ [41]
def textObjOf (o : ObjV) : List Int := if okB o then textO o else []

theorem num_len (z : Int) (h : -1000000000 ≤ z ∧ z ≤ 1000000000) : (numText z).length ≤ 11 := by
  unfold numText
  split
  · have := decOf_len 9 (-z).toNat (by omega)
    simp; omega
  · have := decOf_len 9 z.toNat (by omega)
    omega
theorem join_len (l : List Int) (h : ∀ z ∈ l, -1000000000 ≤ z ∧ z ≤ 1000000000) (k : Nat) (hk : k ≤ l.length) : (joinTo l k).length ≤ 12 * k := by
  induction k with
  | zero => simp [joinTo]
  | succ k ih =>
    have h1 := ih (by omega)
    have hm : l.getD k 0 ∈ l := by simp [List.getD, show k < l.length from by omega]
    have h2 := num_len _ (h _ hm)
    unfold joinTo
    split <;> simp only [List.length_append, List.length_nil, List.length_cons] <;> omega
theorem join_step0 (l : List Int) : joinTo l 1 = numText (l.getD 0 0) := by simp [joinTo]
theorem join_step (l : List Int) (k : Nat) (h : 0 < k) : joinTo l (k + 1) = (joinTo l k ++ [44]) ++ numText (l.getD k 0) := by
  rw [joinTo, if_neg (by omega)]

theorem strOf_nil : strOf [] = ⟨#[]⟩ := rfl
theorem strOf_44 : strOf [44] = ⟨#[44]⟩ := rfl

theorem okB_nums {o : ObjV} (h : okB o = true) : (-1000000000 ≤ o.kind ∧ o.kind ≤ 1000000000) ∧ o.ints.length ≤ 5 ∧ o.refs.length ≤ 5 ∧ (∀ z ∈ o.ints, -1000000000 ≤ z ∧ z ≤ 1000000000) ∧ (∀ z ∈ o.refs, -1000000000 ≤ z ∧ z ≤ 1000000000) := by
  simp [okB, inB] at h
  exact ⟨by omega, h.2.1, h.2.2.1, fun z hz => by have := h.2.2.2.1 z hz; omega, fun z hz => by have := h.2.2.2.2 z hz; omega⟩

end Go.Proofs.YtdibmepjbabnnabGreatDoor
