/- Several texts in one, in their order. -/
import Derived.Test.YtdibmepjbabnnacDoorPart1
import Derived.Test.YtdibmepjbabnnacDoorProg
import Derived.Laws.AppendOwnNone
import Derived.Laws.IdiomStrings
import Derived.Lib.BufferRead
import Derived.Deep.RegionWith
import Derived.Deep.RegionHeld3
/- The walk of spec.l2Split. -/
namespace Go.Proofs.YtdibmepjbabnnacDoor
open Go.RowKit

theorem drop_split (L : List Int) (f j : Nat) (hfj : f ≤ j) (hj : j < L.length) : L.drop f = (L.drop f).take (j - f) ++ L.getD j 0 :: L.drop (j + 1) := by
  have h1 : L.drop f = (L.drop f).take (j - f) ++ (L.drop f).drop (j - f) := (List.take_append_drop _ _).symm
  rw [List.drop_drop, show f + (j - f) = j from by omega] at h1
  rw [List.drop_eq_getElem_cons hj] at h1
  have e : L.getD j 0 = L[j] := by simp [List.getD, hj]
  rw [e]
  exact h1
theorem take_ne (L : List Int) (b : Int) (f j : Nat) (h : ∀ t, f ≤ t → t < j → L.getD t 0 ≠ b) : ∀ z ∈ (L.drop f).take (j - f), z ≠ b := by
  intro z hz
  obtain ⟨t, ht, rfl⟩ := List.getElem_of_mem hz
  simp at ht
  have := h (f + t) (by omega) (by omega)
  rw [List.getElem_take, List.getElem_drop]
  simpa [List.getD, show f + t < L.length from by omega] using this

/-- Where the loop is: f: where the piece begins; j: how far it has looked. -/
def splitAt (b : Int) (L : List Int) (ss : List ByteArray) (f j : Nat) : Prop :=
  if j ≤ L.length then splitOf b L = ss.map sBytes ++ splitOf b (L.drop f) ∧ ∀ t, f ≤ t → t < j → L.getD t 0 ≠ b else splitOf b L = ss.map sBytes

set_option maxHeartbeats 1000000 in
set_option maxRecDepth 100000 in
theorem l2Split_any (s : ByteArray) (b : Nat) (w : World) (hs : s.size ≤ 1048576) :
    Calls Tryd.prog 37 #[.string s, .int .u8 b] w fun e w' => ∃ a' c' ss, e = .returned (.slice a' ss.length c') ∧ Hid (ss.map sBytes = splitOf (b : Int) (sBytes s)) ∧ OwnS w' w.heap.size a' c' ss ∧ Below w.heap.size w w' := by
  have HSL : Hid ((sBytes s).length = s.size) := sBytes_len s
  have HBT : Hid (∀ j (h : j < s.size), (((s[j]'h).toNat : Nat) : Int) = (sBytes s).getD j 0) := fun j h => byte_at s j h
  go_enter Tryd.func37, Tryd.ntmps37
  go_wp2
  go_loopw [5, 6, 7] (fun out fr i wr => ∃ (a' : Option Addr) (c' : Nat) (ss : List ByteArray) (f j : Nat), out = .slice a' ss.length c' ∧ fr = .int .i64 f ∧ i = .int .i64 j ∧ f ≤ j ∧ j ≤ s.size + 1 ∧ ss.length ≤ j ∧ Hid (splitAt b (sBytes s) ss f j) ∧ OwnS wr w.heap.size a' c' ss ∧ Below w.heap.size w wr) (fun _ _ i _ => s.size + 1 - (intOf i).toNat)
  case atStart => exact ⟨_, 0, [], 0, 0, rfl, rfl, rfl, by omega, by omega, by simp, by unfold splitAt; rw [Hid, if_pos (by omega)]; exact ⟨by simp, fun t _ ht => by omega⟩, ownS_lit0 w, (Below.refl _ _).alloc (Nat.le_refl _) _⟩
  case round =>
    obtain ⟨a', c', ss, f, j, rfl, rfl, rfl, hfj, hj, hsl, hat, ho, hbw⟩ := hrel
    by_cases hle : j ≤ s.size
    · by_cases heq : j = s.size
      · have hje : ((j : Int) == (s.size : Int)) = true := by simp; omega
        have HNX : Hid (splitAt b (sBytes s) (ss ++ [s.extract f j]) (j + 1) (j + 1)) := by
          have h := hat.out
          unfold splitAt at h ⊢
          rw [if_pos (by have := HSL.out; omega)] at h
          rw [Hid, if_neg (by have := HSL.out; omega), h.1]
          have e : (sBytes s).drop f = ((sBytes s).drop f).take (j - f) := by rw [List.take_of_length_le (by have := HSL.out; simp; omega)]
          rw [split_none b _ (by rw [e]; exact take_ne _ _ f j h.2)]
          simp only [List.map_append, List.map_cons, List.map_nil, sBytes_extract]
          rw [← e]
        have hlo := hbw.size
        have hoA := ho.below ((Below.refl _ _).alloc (Nat.le_refl _) (.cells #[.string (s.extract f j)] 9))
        have hbl : (f : Int) ≤ (j : Int) := by omega
        clear heq
        go_wp2_with (at_builtin; refine append_str1 rfl _ _ rfl w.heap.size a' c' ss rfl hoA wr.heap.size 1 (s.extract f j) rfl (by simp) (by omega) (by simp; omega) ?_; intro a3 c3 y3 w3 hy3 ho3 hg3)
        go_roundw
        case rel => exact ⟨a3, c3, y3, j + 1, j + 1, rfl, by go_num, by go_num, by omega, by omega, by rw [hy3.out]; simp; omega, by rw [Hid, hy3.out]; exact HNX.out, ho3, (hbw.alloc hlo _).grown hg3 (by simp; omega) (fun k hk => (ho.lt k hk).1)⟩
        case measure => simp [intOf]; omega
      · have hlt : j < s.size := by omega
        have hje : ((j : Int) == (s.size : Int)) = false := by simp; omega
        have hbv := HBT.out j hlt
        clear heq
        by_cases hsp : (sBytes s).getD j 0 = (b : Int)
        · have hsb : ((((s[j]'hlt).toNat : Nat) : Int) == (b : Int)) = true := by rw [hbv, hsp]; simp
          have HNX : Hid (splitAt b (sBytes s) (ss ++ [s.extract f j]) (j + 1) (j + 1)) := by
            have h := hat.out
            unfold splitAt at h ⊢
            rw [if_pos (by have := HSL.out; omega)] at h
            rw [Hid, if_pos (by have := HSL.out; omega)]
            refine ⟨?_, fun t h1 h2 => by omega⟩
            have e := drop_split (sBytes s) f j hfj (by have := HSL.out; omega)
            rw [hsp] at e
            rw [h.1, e, split_at b _ _ (take_ne _ _ f j h.2)]
            simp only [List.map_append, List.map_cons, List.map_nil, sBytes_extract, List.append_assoc, List.singleton_append]
          have hlo := hbw.size
          have hoA := ho.below ((Below.refl _ _).alloc (Nat.le_refl _) (.cells #[.string (s.extract f j)] 9))
          have hbl : (f : Int) ≤ (j : Int) := by omega
          clear hsp hbv
          go_wp2_with (at_builtin; refine append_str1 rfl _ _ rfl w.heap.size a' c' ss rfl hoA wr.heap.size 1 (s.extract f j) rfl (by simp) (by omega) (by simp; omega) ?_; intro a3 c3 y3 w3 hy3 ho3 hg3)
          go_roundw
          case rel => exact ⟨a3, c3, y3, j + 1, j + 1, rfl, by go_num, by go_num, by omega, by omega, by rw [hy3.out]; simp; omega, by rw [Hid, hy3.out]; exact HNX.out, ho3, (hbw.alloc hlo _).grown hg3 (by simp; omega) (fun k hk => (ho.lt k hk).1)⟩
          case measure => simp [intOf]; omega
        · have hsb : ((((s[j]'hlt).toNat : Nat) : Int) == (b : Int)) = false := by rw [hbv]; simpa using hsp
          have HNX : Hid (splitAt b (sBytes s) ss f (j + 1)) := by
            have h := hat.out
            unfold splitAt at h ⊢
            rw [if_pos (by have := HSL.out; omega)] at h
            rw [Hid, if_pos (by have := HSL.out; omega)]
            refine ⟨h.1, fun t h1 h2 => ?_⟩
            by_cases e : t = j
            · rw [e]; exact hsp
            · exact h.2 t h1 (by omega)
          clear hsp hbv
          go_wp2
          go_roundw
          case rel => exact ⟨a', c', ss, f, j + 1, rfl, rfl, by go_num, by omega, by omega, by omega, HNX, ho, hbw⟩
          case measure => simp [intOf]; omega
    · have HE : Hid (ss.map sBytes = splitOf (b : Int) (sBytes s)) := by
        have h := hat.out
        unfold splitAt at h
        rw [if_neg (by have := HSL.out; omega)] at h
        exact h.symm
      go_wp2
      go_ret
      exact ⟨a', c', ss, rfl, HE, ho, hbw⟩
end Go.Proofs.YtdibmepjbabnnacDoor

/- Slices of numbers: what the call owns; appending to it. -/
namespace Go.Proofs.YtdibmepjbabnnacDoor
open Go.RowKit

theorem Tryd.infoInt : (Tryd.prog.info? 3).map (fun i => (i.zero, i.size, i.bytes)) = some (some (.int .i64 0), 1, 8) := by kernel_rfl

/-- The slice at a, of capacity c, owns the numbers ns; its row lies from lo up to hi. -/
def OwnI (w : World) (lo hi : Nat) (a : Option Addr) (c : Nat) (ns : List Int) : Prop :=
  w.ownsRow lo 3 1 (.slice a ns.length c) ns.length (ns.map (Value.int .i64)) ∧ hi ≤ w.heap.size ∧ ∀ k, (Value.slice a ns.length c).ownBlock = some k → k < hi

theorem OwnI.lt {w : World} {lo hi : Nat} {a : Option Addr} {c : Nat} {ns : List Int} (h : OwnI w lo hi a c ns) : ∀ k, (Value.slice a ns.length c).ownBlock = some k → lo ≤ k ∧ k < hi := fun k hk => ⟨(h.1.lt k hk).1, h.2.2 k hk⟩

theorem OwnI.within {w w' : World} {lo hi l r : Nat} {a : Option Addr} {c : Nat} {ns : List Int} (h : OwnI w lo hi a c ns) (hw : Within l r w w') (hd : hi ≤ l ∨ r ≤ lo) : OwnI w' lo hi a c ns :=
  ⟨ownsRow_block h.1 (fun k hk => hw.block k (by have := h.2.2 k hk; have := h.2.1; omega) (by have := h.lt k hk; omega)), Nat.le_trans h.2.1 hw.size, h.2.2⟩
theorem OwnI.below {w w' : World} {lo hi : Nat} {a : Option Addr} {c : Nat} {ns : List Int} (h : OwnI w lo hi a c ns) (hb : Below w.heap.size w w') : OwnI w' lo hi a c ns :=
  h.within (Within.of_below (lo := w.heap.size) (hi := w.heap.size) hb) (.inl h.2.1)
theorem OwnI.widen {w : World} {lo hi lo' hi' : Nat} {a : Option Addr} {c : Nat} {ns : List Int} (h : OwnI w lo hi a c ns) (h1 : lo' ≤ lo) (h2 : hi ≤ hi') (h3 : hi' ≤ w.heap.size) : OwnI w lo' hi' a c ns :=
  ⟨ownsRow_base h.1 (fun k hk => by have := h.lt k hk; omega), h3, fun k hk => by have := h.lt k hk; omega⟩

theorem OwnI.reads {w : World} {lo hi : Nat} {a : Option Addr} {c : Nat} {ns : List Int} (h : OwnI w lo hi a c ns) : ReadsI w a ns := by
  intro hne
  rcases h.1.2 with ⟨_, h0⟩ | ⟨g, cap', cur, hv, hb, hg, hr⟩
  · exact absurd (List.length_eq_zero_iff.1 h0) hne
  · simp only [Value.slice.injEq] at hv
    obtain ⟨rfl, _, rfl⟩ := hv
    refine ⟨g, 0, rfl, fun i hi => ?_⟩
    have := h.1.cellAt i (by omega)
    rw [Nat.zero_add, this]
    simp [List.getD, hi]

theorem OwnI.nocap {w : World} {lo hi : Nat} {a : Option Addr} {c : Nat} {ns : List Int} (h : OwnI w lo hi a c ns) : a = none → c = 0 := by
  intro ha
  rcases h.1.2 with ⟨hv, _⟩ | ⟨g, cap, cur, hv, _⟩
  · simp only [Value.slice.injEq] at hv; exact hv.2.2
  · simp [ha] at hv
theorem OwnI.len_cap {w : World} {lo hi : Nat} {a : Option Addr} {c : Nat} {ns : List Int} (h : OwnI w lo hi a c ns) : ns.length ≤ c := by
  rcases h.1.2 with ⟨hv, h0⟩ | ⟨g, cap, cur, hv, _, _, hn, _⟩
  · omega
  · simp only [Value.slice.injEq] at hv; omega

theorem ownI_nil (w : World) (lo hi : Nat) (h : hi ≤ w.heap.size) : OwnI w lo hi none 0 [] := ⟨⟨by simp, .inl ⟨rfl, rfl⟩⟩, h, fun k hk => by cases hk⟩
theorem ownI_lit0 (w : World) : OwnI (w.alloc (.cells #[] 3)) w.heap.size (w.heap.size + 1) (some ⟨w.heap.size, 0, none⟩) 0 [] :=
  ⟨World.ownsRow_lit w #[] 0 (Nat.le_refl _) (by simp [maxLen]) rfl, by simp, fun k hk => by cases hk; simp⟩

theorem ReadsI.cases {w : World} {a : Option Addr} {ns : List Int} (h : ReadsI w a ns) :
    ns = [] ∨ ∃ b off, a = some ⟨b, off, none⟩ ∧ 0 < ns.length ∧ (∀ i, i < ns.length → w.cell? ⟨b, off + i, none⟩ = some (.int .i64 (ns.getD i 0))) := by
  by_cases e : ns = []
  · exact .inl e
  · obtain ⟨b, off, ha, hc⟩ := h e
    exact .inr ⟨b, off, ha, List.length_pos_iff.2 e, hc⟩

theorem ReadsI.below {w w' : World} {a : Option Addr} {ns : List Int} (h : ReadsI w a ns) (hb : Below w.heap.size w w') : ReadsI w' a ns := by
  intro hne
  obtain ⟨b, off, ha, hc⟩ := h hne
  refine ⟨b, off, ha, fun i hi => ?_⟩
  rw [hb.cell (p := ⟨b, off + i, none⟩) (block_lt (hc i hi))]
  exact hc i hi
theorem ReadsI.nil (w : World) (a : Option Addr) : ReadsI w a [] := fun h => absurd rfl h

/-- Appending numbers that are read to a row that the call owns. -/
theorem append_ints {w : World} {ops : Array Oper} {rest : List Oper} {o : Oper} {act : Act} {Q : Exit → Act → World → Prop} (hgd : o.guard = none) (s x : Operand)
    (ho : o.op = .call { callee := .builtin .append, args := #[s, x], argTypes := #[23, 23] })
    (lo hi : Nat) (a : Option Addr) (c : Nat) (xs : List Int) (hs : act.eval s = .slice a xs.length c) (hown : OwnI w lo hi a c xs)
    (sa : Option Addr) (sc : Nat) (zs : List Int) (hx : act.eval x = .slice sa zs.length sc) (hr : ReadsI w sa zs) (hc : sa = none → sc = 0)
    (hb : xs.length + zs.length ≤ 1099511627776) (hlo : lo ≤ w.heap.size)
    (h : ∀ a' c' ys w', Hid (ys = xs ++ zs) → OwnI w' lo w'.heap.size a' c' ys → w.grownBy w' (Value.slice a xs.length c).ownBlock → wpList Tryd.prog ops Q rest (act.put o.dst (.slice a' ys.length c')) w') :
    wpList Tryd.prog ops Q (o :: rest) act w := by
  obtain ⟨i0, hi0, hz0, hz1, hz2⟩ := info_parts Tryd.infoInt
  have fin : ∀ v' w', w'.ownsRow lo 3 1 v' (xs.length + zs.length) (xs.map (Value.int .i64) ++ zs.map (Value.int .i64)) → w.grownBy w' (Value.slice a xs.length c).ownBlock → wpList Tryd.prog ops Q rest (act.put o.dst v') w' := by
    intro v' w' h1 h2
    rw [← List.map_append, ← List.length_append] at h1
    have sh : ∃ a' c', v' = .slice a' (xs ++ zs).length c' := by
      rcases h1.2 with ⟨rfl, h0⟩ | ⟨g, cap, cur, rfl, _⟩
      · exact ⟨none, 0, by rw [h0]⟩
      · exact ⟨_, _, rfl⟩
    obtain ⟨a', c', rfl⟩ := sh
    exact h a' c' (xs ++ zs) w' rfl ⟨h1, Nat.le_refl _, fun k hk => (h1.lt k hk).2⟩ h2
  cases sa with
  | none =>
    have hz : zs = [] := by
      by_cases e : zs = []
      · exact e
      · obtain ⟨b, off, hh, _⟩ := hr e
        cases hh
    subst hz
    have := hc rfl
    subst this
    exact wpList_append_own_none hgd s x 23 ho lo 3 i0 1 Tryd.underlying23 hi0 _ _ _ hs hown.1 hx (fin _ w (by simpa using hown.1) (World.grownBy.refl _ _))
  | some ad =>
    refine wpList_append_own w hgd s x 23 ho lo 3 i0 (.int .i64 0) 1 8 Tryd.underlying23 hi0 hz0 hz1 hz2 rfl (by decide) _ _ _ hs hown.1 ad zs.length sc (zs.map (Value.int .i64)) hx (by simp) ?_ (ints_oneCell _ _) (by simp only [maxLen]; omega) (by omega) hlo (fun v' w' h1 h2 _ => fin v' w' h1 h2)
    intro j u hj
    have hjl : j < zs.length := by
      by_cases e : j < zs.length
      · exact e
      · simp [List.getElem?_eq_none (Nat.le_of_not_lt e)] at hj
    have hne : zs ≠ [] := by intro e; simp [e] at hjl
    obtain ⟨b, off, hh, hcell⟩ := hr hne
    cases hh
    rw [Addr_add, hcell j hjl]
    simpa [hjl] using hj

end Go.Proofs.YtdibmepjbabnnacDoor

/- The walk of spec.l2Numbers. -/
namespace Go.Proofs.YtdibmepjbabnnacDoor
open Go.RowKit

def numsOfAll : List (List Int) → Option (List Int)
  | [] => some []
  | p :: r => match numberOf p, numsOfAll r with
    | some z, some l => some (z :: l)
    | _, _ => none
/-- The numbers between commas, if each is one. -/
def numbersOf (L : List Int) : Option (List Int) := if L = [] then some [] else numsOfAll (splitOf 44 L)

theorem all_step (ps : List (List Int)) (j : Nat) (hj : j < ps.length) (ns : List Int) (z : Int) (hz : numberOf ps[j] = some z) (h : numsOfAll ps = (numsOfAll (ps.drop j)).map (ns ++ ·)) : numsOfAll ps = (numsOfAll (ps.drop (j + 1))).map ((ns ++ [z]) ++ ·) := by
  rw [h, List.drop_eq_getElem_cons hj, numsOfAll, hz]
  cases numsOfAll (ps.drop (j + 1)) with
  | none => rfl
  | some l => simp
theorem all_stop (ps : List (List Int)) (j : Nat) (hj : j < ps.length) (ns : List Int) (hz : numberOf ps[j] = none) (h : numsOfAll ps = (numsOfAll (ps.drop j)).map (ns ++ ·)) : numsOfAll ps = none := by
  rw [h, List.drop_eq_getElem_cons hj, numsOfAll, hz]; rfl
theorem all_end (ps : List (List Int)) (ns : List Int) (h : numsOfAll ps = (numsOfAll (ps.drop ps.length)).map (ns ++ ·)) : numsOfAll ps = some ns := by
  rw [h, List.drop_length]; simp [numsOfAll]

theorem split_len (b : Int) (L : List Int) : (splitOf b L).length ≤ L.length + 1 := by
  induction L with
  | nil => simp [splitOf]
  | cons z r ih =>
    unfold splitOf
    split
    · simp; omega
    · split
      · simp
      · rename_i e; rw [e] at ih; simp at ih ⊢; omega

/-- A row of numbers and a row of texts are two. -/
theorem own_apart {w : World} {lo hi lo' : Nat} {a a' : Option Addr} {c c' : Nat} {ns : List Int} {ss : List ByteArray} (hI : OwnI w lo hi a c ns) (hS : OwnS w lo' a' c' ss) : ∀ k, (Value.slice a' ss.length c').ownBlock = some k → (Value.slice a ns.length c).ownBlock ≠ some k := by
  intro k hk hk'
  rcases hI.1.2 with ⟨hv, _⟩ | ⟨g, cap, cur, hv, _, hg, _⟩
  · rw [hv] at hk'; cases hk'
  · rcases hS.2 with ⟨hv', _⟩ | ⟨g', cap', cur', hv', _, hg', _⟩
    · rw [hv'] at hk; cases hk
    · rw [hv] at hk'
      rw [hv'] at hk
      cases hk
      cases hk'
      rw [hg] at hg'
      cases hg'

theorem piece_len (b : Int) (L : List Int) : ∀ p ∈ splitOf b L, p.length ≤ L.length := by
  induction L with
  | nil => intro p hp; simp [splitOf] at hp; simp [hp]
  | cons z r ih =>
    intro p hp
    unfold splitOf at hp
    split at hp
    · simp at hp
      rcases hp with rfl | hp
      · simp
      · have := ih p hp; simp; omega
    · split at hp
      · simp at hp; subst hp; simp
      · rename_i q qs e
        rw [e] at ih
        simp at hp
        rcases hp with rfl | hp
        · have := ih q (by simp); simp; omega
        · have := ih p (by simp [hp]); simp; omega

set_option maxHeartbeats 1000000 in
set_option maxRecDepth 100000 in
theorem l2Numbers_any (s : ByteArray) (w : World) (hs : s.size ≤ 1048576) :
    Calls Tryd.prog 39 #[.string s] w fun e w' => ∃ a' c' ns ok, e = .returned (.tuple #[.slice a' ns.length c', .bool ok]) ∧ Hid (numbersOf (sBytes s) = if ok then some ns else none) ∧ OwnI w' w.heap.size w'.heap.size a' c' ns ∧ Below w.heap.size w w' := by
  have hlo := (ownI_lit0 w)
  by_cases h0 : sBytes s = []
  · have he : (s.toList == []) = true := by
      have : s = ⟨#[]⟩ := sBytes_inj (by rw [h0]; rfl)
      rw [this, ByteArray.toList_eq]; decide
    have HE : Hid (numbersOf (sBytes s) = some []) := by rw [Hid]; unfold numbersOf; rw [if_pos h0]
    clear h0
    go_enter Tryd.func39, Tryd.ntmps39
    go_wp2
    go_ret2
    exact ⟨_, 0, [], true, rfl, by rw [Hid, HE.out]; rfl, hlo.widen (Nat.le_refl _) (by simp) (Nat.le_refl _), (Below.refl _ _).alloc (Nat.le_refl _) _⟩
  have he : (s.toList == []) = false := by
    rw [beq_eq_false_iff_ne]
    intro e
    rw [ByteArray.toList_eq] at e
    exact h0 (by unfold sBytes; rw [e]; rfl)
  have HNB : Hid (numbersOf (sBytes s) = numsOfAll (splitOf 44 (sBytes s))) := by rw [Hid]; unfold numbersOf; rw [if_neg h0]
  have HPL : Hid (∀ p ∈ splitOf 44 (sBytes s), p.length ≤ s.size) := by intro p hp; have := piece_len 44 _ p hp; rw [sBytes_len] at this; exact this
  have HSL : Hid ((splitOf 44 (sBytes s)).length ≤ s.size + 1) := by have := split_len 44 (sBytes s); rw [sBytes_len] at this; exact this
  clear h0
  go_enter Tryd.func39, Tryd.ntmps39
  go_wp2_with fail
  refine (l2Split_any s 44 _ hs).mono ?_
  rintro e w1 ⟨aS, cS, ss, rfl, HSS, hoS, hb1⟩
  have HSS' : Hid (ss.map sBytes = splitOf 44 (sBytes s)) := HSS
  generalize splitOf 44 (sBytes s) = PS at *
  have hssl : ss.length ≤ s.size + 1 := by have := HSL.out; rw [← HSS'.out] at this; simpa using this
  have HPN : Hid (∀ j (hj : j < ss.length), ∃ hj' : j < PS.length, PS[j] = sBytes ss[j] ∧ (ss[j]).size ≤ 1048576) := by
    intro j hj
    have e := HSS'.out
    have hl : PS.length = ss.length := by rw [← e]; simp
    have hj' : j < PS.length := by omega
    have e2 : PS[j] = sBytes ss[j] := by simp [← e]
    have e3 := HPL.out PS[j] (List.getElem_mem hj')
    rw [e2, sBytes_len] at e3
    exact ⟨hj', e2, by omega⟩
  have HLE : Hid (PS.length = ss.length) := by have e := HSS'.out; rw [Hid, ← e]; simp
  have hlo1 : OwnI w1 w.heap.size w1.heap.size (some ⟨w.heap.size, 0, none⟩) 0 [] := (hlo.below hb1).widen (Nat.le_refl _) (by have := hb1.size; simp at this; omega) (Nat.le_refl _)
  have hB1 : Below w.heap.size w w1 := ((Below.refl _ _).alloc (Nat.le_refl _) _).trans (hb1.mono (by simp))
  clear HSS HSS' HPL HSL hlo hb1
  go_wp2
  go_loopw [4, 6] (fun out i wr => ∃ (a' : Option Addr) (c' : Nat) (ns : List Int) (j : Nat), out = .slice a' ns.length c' ∧ i = .int .i64 j ∧ j ≤ ss.length ∧ ns.length ≤ j ∧ Hid (numsOfAll PS = (numsOfAll (PS.drop j)).map (ns ++ ·)) ∧ OwnI wr w.heap.size wr.heap.size a' c' ns ∧ (∃ lo', OwnS wr lo' aS cS ss) ∧ Below w.heap.size w wr) (fun _ i _ => ss.length - (intOf i).toNat)
  case atStart => exact ⟨_, 0, [], 0, rfl, rfl, by omega, by simp, by simp [Hid], hlo1, ⟨_, hoS⟩, hB1⟩
  case round =>
    obtain ⟨a', c', ns, j, rfl, rfl, hj, hnl, hnn, ho, ⟨lo', hS⟩, hB⟩ := hrel
    by_cases hlt : j < ss.length
    · obtain ⟨g, rfl, hcell⟩ := OwnS.cell hS (by omega)
      have hc := hcell j hlt
      obtain ⟨hj', hpe, hps⟩ := HPN.out j hlt
      have HPE : Hid (_ = _) := hpe
      have hnum := l2Number_any ss[j] wr hps
      clear hcell hpe
      cases hz : numberOf (sBytes ss[j]) with
      | none =>
        have HN : Hid (numbersOf (sBytes s) = none) := by rw [Hid, HNB.out]; exact all_stop PS j hj' ns (by rw [HPE.out]; exact hz) hnn.out
        rw [hz] at hnum
        simp only [numAns] at hnum
        clear hz
        generalize ss[j] = piece at *
        go_wp2_with fail
        refine hnum.mono ?_
        rintro e w2 ⟨rfl, rfl⟩
        go_wp2
        go_ret2
        exact ⟨a', c', ns, false, rfl, by rw [Hid, HN.out]; rfl, ho, hB⟩
      | some z =>
        have HN : Hid (numsOfAll PS = (numsOfAll (PS.drop (j + 1))).map ((ns ++ [z]) ++ ·)) := all_step PS j hj' ns z (by rw [HPE.out]; exact hz) hnn.out
        rw [hz] at hnum
        simp only [numAns] at hnum
        clear hz
        generalize ss[j] = piece at *
        go_wp2_with fail
        refine hnum.mono ?_
        rintro e w2 ⟨rfl, rfl⟩
        have hsz := hB.size
        have hoA := ho.below ((Below.refl _ _).alloc (Nat.le_refl _) (.cells #[.int .i64 z] 3))
        have hSA := hS.below ((Below.refl _ _).alloc (Nat.le_refl _) (.cells #[.int .i64 z] 3))
        have hap := own_apart hoA hSA
        go_wp2_with (at_builtin; refine append_ints rfl _ _ rfl w.heap.size w2.heap.size a' c' ns rfl hoA _ _ [z] rfl (readsI_one w2 z _) (fun h => by cases h) (by simp; omega) (by simp; omega) ?_; intro a3 c3 y3 w3 hy3 ho3 hg3)
        go_roundw
        case rel =>
          refine ⟨a3, c3, y3, j + 1, rfl, by go_num, by omega, by rw [hy3.out]; simp; omega, by rw [Hid, HN.out, hy3.out], ho3, ⟨lo', ownsRow_block hSA (fun k hk => hg3.block k (hSA.lt k hk).2 (fun e => hap k hk e.symm))⟩, (hB.alloc hsz _).grown hg3 (by simp; omega) (fun k hk => (ho.lt k hk).1)⟩
        case measure => simp [intOf]; omega
    · have HN : Hid (numbersOf (sBytes s) = some ns) := by
        rw [Hid, HNB.out]
        apply all_end PS ns
        have e : PS.length = j := by have := HLE.out; omega
        rw [e]
        exact hnn.out
      go_wp2
      go_ret2
      exact ⟨a', c', ns, true, rfl, by rw [Hid, HN.out]; rfl, ho, hB⟩
end Go.Proofs.YtdibmepjbabnnacDoor

/- Appending bytes that are read to a row that the call owns: one law for the walk. -/
namespace Go.Proofs.YtdibmepjbabnnacDoor
open Go.RowKit

theorem Tryd.infoU8 : (Tryd.prog.info? 5).map (fun i => (i.zero, i.size, i.bytes)) = some (some (.int .u8 0), 1, 1) := by kernel_rfl

/-- The slice at a, of capacity c, owns the bytes ys; its row lies from base on. -/
def OwnB (w : World) (base : Nat) (a : Option Addr) (c : Nat) (ys : List Int) : Prop :=
  (∀ z ∈ ys, 0 ≤ z ∧ z < 256) ∧ w.ownsRow base 5 1 (.slice a ys.length c) ys.length (ys.map (Value.int .u8))

theorem OwnB.reads {w : World} {base : Nat} {a : Option Addr} {c : Nat} {ys : List Int} (h : OwnB w base a c ys) : Reads w a ys := Reads.of_own h.1 h.2

theorem OwnB.nocap {w : World} {base : Nat} {a : Option Addr} {c : Nat} {ys : List Int} (h : OwnB w base a c ys) : a = none → c = 0 := by
  intro ha
  rcases h.2.2 with ⟨hv, _⟩ | ⟨g, cap, cur, hv, _⟩
  · simp only [Value.slice.injEq] at hv; exact hv.2.2
  · simp [ha] at hv

theorem OwnB.below {w w' : World} {base : Nat} {a : Option Addr} {c : Nat} {ys : List Int} (h : OwnB w base a c ys) (hb : Below w.heap.size w w') : OwnB w' base a c ys := by
  refine ⟨h.1, h.2.1, ?_⟩
  rcases h.2.2 with h0 | ⟨g, cap, cur, hv, hg, hgg, hr⟩
  · exact .inl h0
  · exact .inr ⟨g, cap, cur, hv, hg, by rw [hb.block g (Array.getElem?_eq_some_iff.1 hgg).1]; exact hgg, hr⟩

theorem OwnB.alloc {w : World} {base : Nat} {a : Option Addr} {c : Nat} {ys : List Int} (h : OwnB w base a c ys) (o : Obj) : OwnB (w.alloc o) base a c ys := ⟨h.1, h.2.alloc o⟩

theorem OwnB.base {w : World} {base base' : Nat} {a : Option Addr} {c : Nat} {ys : List Int} (h : OwnB w base a c ys) (hb : base' ≤ base) : OwnB w base' a c ys := by
  refine ⟨h.1, h.2.1, ?_⟩
  rcases h.2.2 with h0 | ⟨g, cap, cur, hv, hg, hr⟩
  · exact .inl h0
  · exact .inr ⟨g, cap, cur, hv, by omega, hr⟩

theorem Reads.alloc {w : World} {a : Option Addr} {zs : List Int} (h : Reads w a zs) (o : Obj) : Reads (w.alloc o) a zs := h.below ((Below.refl _ _).alloc (Nat.le_refl _) o)

theorem reads_lit1 (w : World) (z : Int) (e : TypeId) (hz : 0 ≤ z ∧ z < 256) : Reads (w.alloc (.cells #[.int .u8 z] e)) (some ⟨w.heap.size, 0, none⟩) [z] := by
  refine ⟨by simpa using hz, fun _ => ⟨_, _, rfl, fun i hi => ?_⟩⟩
  simp at hi
  subst hi
  simp

theorem own_lit0 (w : World) : OwnB (w.alloc (.cells #[] 5)) w.heap.size (some ⟨w.heap.size, 0, none⟩) 0 [] :=
  ⟨by simp, World.ownsRow_lit w #[] 0 (Nat.le_refl _) (by simp [maxLen]) rfl⟩

theorem append_bytes {w : World} {ops : Array Oper} {rest : List Oper} {o : Oper} {act : Act} {Q : Exit → Act → World → Prop} (hgd : o.guard = none) (s x : Operand)
    (ho : o.op = .call { callee := .builtin .append, args := #[s, x], argTypes := #[22, 22] })
    (base : Nat) (a : Option Addr) (c : Nat) (xs : List Int) (hs : act.eval s = .slice a xs.length c) (hown : OwnB w base a c xs)
    (sa : Option Addr) (sc : Nat) (zs : List Int) (hx : act.eval x = .slice sa zs.length sc) (hr : Reads w sa zs) (hc : sa = none → sc = 0)
    (hb : xs.length + zs.length ≤ 70368744177664) (hbase : base ≤ w.heap.size)
    (h : ∀ a' c' ys w', Hid (ys = xs ++ zs) → OwnB w' base a' c' ys → w.grownBy w' (Value.slice a xs.length c).ownBlock → wpList Tryd.prog ops Q rest (act.put o.dst (.slice a' ys.length c')) w') :
    wpList Tryd.prog ops Q (o :: rest) act w := by
  obtain ⟨i0, hi, hz0, hz1, hz2⟩ := info_parts Tryd.infoU8
  have hby : ∀ z ∈ xs ++ zs, 0 ≤ z ∧ z < 256 := by
    intro z hz
    rcases List.mem_append.1 hz with h1 | h1
    · exact hown.1 z h1
    · exact hr.1 z h1
  have fin : ∀ v' w', w'.ownsRow base 5 1 v' (xs.length + zs.length) (xs.map (Value.int .u8) ++ zs.map (Value.int .u8)) → w.grownBy w' (Value.slice a xs.length c).ownBlock → wpList Tryd.prog ops Q rest (act.put o.dst v') w' := by
    intro v' w' h1 h2
    rw [← List.map_append, ← List.length_append] at h1
    have sh : ∃ a' c', v' = .slice a' (xs ++ zs).length c' := by
      rcases h1.2 with ⟨rfl, h0⟩ | ⟨g, cap, cur, rfl, _⟩
      · exact ⟨none, 0, by rw [h0]⟩
      · exact ⟨_, _, rfl⟩
    obtain ⟨a', c', rfl⟩ := sh
    exact h a' c' (xs ++ zs) w' rfl ⟨hby, h1⟩ h2
  cases sa with
  | none =>
    have hz : zs = [] := by
      by_cases e : zs = []
      · exact e
      · obtain ⟨b, off, hh, _⟩ := hr.2 e
        cases hh
    subst hz
    have := hc rfl
    subst this
    exact wpList_append_own_none hgd s x 22 ho base 5 i0 1 Tryd.underlying22 hi _ _ _ hs hown.2 hx (fin _ w (by simpa using hown.2) (World.grownBy.refl _ _))
  | some ad =>
    refine wpList_append_own w hgd s x 22 ho base 5 i0 (.int .u8 0) 1 1 Tryd.underlying22 hi hz0 hz1 hz2 rfl (by decide) _ _ _ hs hown.2 ad zs.length sc (zs.map (Value.int .u8)) hx (by simp) ?_ (ints_oneCell _ _) (by simp only [maxLen]; omega) (by omega) hbase (fun v' w' h1 h2 _ => fin v' w' h1 h2)
    intro j u hj
    have hjl : j < zs.length := by
      by_cases e : j < zs.length
      · exact e
      · simp [List.getElem?_eq_none (Nat.le_of_not_lt e)] at hj
    have hne : zs ≠ [] := by intro e; simp [e] at hjl
    obtain ⟨b, off, hh, hcell⟩ := hr.2 hne
    cases hh
    rw [Addr_add, hcell j hjl]
    simpa [hjl] using hj

end Go.Proofs.YtdibmepjbabnnacDoor

/- A text of bytes. -/
namespace Go.Proofs.YtdibmepjbabnnacDoor
open Go.RowKit

def strOf (G : List Int) : ByteArray := ⟨(G.map fun z => UInt8.ofNat z.toNat).toArray⟩

theorem run_text (w : World) (b off cap : Nat) (G : List Int) (n : Nat) (hn : n = G.length) (hr : Reads w (some ⟨b, off, none⟩) G) :
    (convert 22 9 (.slice (some ⟨b, off, none⟩) n cap)).run Tryd.prog w = .ok (.string (strOf G)) w := by
  have h := run_convert_bytes_back (P := Tryd.prog) w 22 9 5 ⟨b, off, none⟩ cap (G.map fun z => UInt8.ofNat z.toNat) Tryd.underlying22 Tryd.underlying5 Tryd.underlying9 ?_
  · rw [List.length_map] at h
    rw [hn, h]
    rfl
  · intro j hj
    rw [List.length_map] at hj
    have hne : G ≠ [] := by intro e; simp [e] at hj
    obtain ⟨b', off', hh, hc⟩ := hr.2 hne
    cases hh
    have hadd : (⟨b, off, none⟩ : Addr).add j = ⟨b, off + j, none⟩ := by unfold Addr.add; split <;> simp_all
    rw [hadd, hc j hj]
    have hb := bytes_nat hr.1 j
    have hg : G.getD j 0 = G[j] := by simp [List.getD, hj]
    rw [hg] at hb
    simp only [List.getElem_map, hg]
    have : (UInt8.ofNat G[j].toNat).toNat = G[j].toNat := by simp; omega
    rw [this, ← hb.1]

theorem run_text_own {w : World} {base : Nat} {a : Option Addr} {c : Nat} {ys : List Int} (h : OwnB w base a c ys) :
    (convert 22 9 (.slice a ys.length c)).run Tryd.prog w = .ok (.string (strOf ys)) w := by
  cases a with
  | none =>
    have hn : ys = [] := by
      by_cases e : ys = []
      · exact e
      · obtain ⟨b, off, hh, _⟩ := h.reads.2 e
        cases hh
    subst hn
    exact Lib.run_convert_nil_bytes (P := Tryd.prog) w 22 9 5 c Tryd.underlying22 Tryd.underlying5 Tryd.underlying9
  | some x =>
    rcases h.2.2 with ⟨hv, _⟩ | ⟨g, cap, cur, hv, _⟩
    · simp at hv
    · simp only [Value.slice.injEq, Option.some.injEq] at hv
      obtain ⟨rfl, _, rfl⟩ := hv
      exact run_text w g 0 c ys _ rfl h.reads

end Go.Proofs.YtdibmepjbabnnacDoor

/- A block of cells that the call laid: a box. -/
namespace Go.Proofs.YtdibmepjbabnnacDoor
open Go.RowKit

/-- Block B holds these cells, none frozen. -/
def Box (w : World) (B : Nat) (vs : List Value) (t : TypeId) : Prop := w.heap[B]? = some (.cells vs.toArray t (0, 0))

theorem Box.lt {w : World} {B : Nat} {vs : List Value} {t : TypeId} (h : Box w B vs t) : B < w.heap.size := (Array.getElem?_eq_some_iff.1 h).1
theorem Box.cell {w : World} {B : Nat} {vs : List Value} {t : TypeId} (h : Box w B vs t) (i : Nat) (v : Value) (hv : vs[i]? = some v) : w.cell? ⟨B, i, none⟩ = some v := by
  unfold Box at h
  simp [World.cell?, h, hv]
theorem Box.frozen {w : World} {B : Nat} {vs : List Value} {t : TypeId} (h : Box w B vs t) (i : Nat) : w.frozen? ⟨B, i, none⟩ = false := by
  unfold Box at h
  simp [World.frozen?, h]
theorem Box.set {w : World} {B : Nat} {vs : List Value} {t : TypeId} (h : Box w B vs t) (i : Nat) (v : Value) : Box (w.setCell ⟨B, i, none⟩ v) B (vs.set i v) t := by
  unfold Box at h ⊢
  rw [heap_setCell_same w B i _ t v h]
  simp
theorem Box.block {w w' : World} {B : Nat} {vs : List Value} {t : TypeId} (h : Box w B vs t) (hb : w'.heap[B]? = w.heap[B]?) : Box w' B vs t := by unfold Box at h ⊢; rw [hb]; exact h
theorem Box.below {w w' : World} {B n : Nat} {vs : List Value} {t : TypeId} (h : Box w B vs t) (hb : Below n w w') (hn : B < n) : Box w' B vs t := h.block (hb.block B hn)
theorem Box.within {w w' : World} {B l r : Nat} {vs : List Value} {t : TypeId} (h : Box w B vs t) (hb : Within l r w w') (hn : ¬ (l ≤ B ∧ B < r)) : Box w' B vs t := h.block (hb.block B h.lt hn)
theorem Box.alloc {w : World} {B : Nat} {vs : List Value} {t : TypeId} (h : Box w B vs t) (o : Obj) : Box (w.alloc o) B vs t := h.block (Below.heap_alloc w o B h.lt)
theorem Box.other {w : World} {B C i : Nat} {v : Value} {vs : List Value} {t : TypeId} (h : Box w B vs t) (hne : B ≠ C) : Box (w.setCell ⟨C, i, none⟩ v) B vs t := h.block (heap_setCell_other w ⟨C, i, none⟩ B v hne)
theorem box_new (w : World) (vs : List Value) (t : TypeId) : Box (w.alloc (.cells vs.toArray t)) w.heap.size vs t := by unfold Box; rw [heap_alloc_new]
theorem Box.drewN {w : World} {B : Nat} {vs : List Value} {t : TypeId} (h : Box w B vs t) (n : Nat) : Box (w.drewN n) B vs t := h.block (by rfl)

/-- One, two, three boxes laid on one another. -/
theorem boxes1 (w : World) (v0 : List Value) (t0 : TypeId) : ∃ W, Hid (w.alloc (.cells v0.toArray t0) = W) ∧ Box W w.heap.size v0 t0 ∧ Below w.heap.size w W ∧ W.heap.size = w.heap.size + 1 :=
  ⟨_, rfl, box_new w _ _, (Below.refl _ _).alloc (Nat.le_refl _) _, by simp⟩
theorem boxes2 (w : World) (v0 v1 : List Value) (t0 t1 : TypeId) : ∃ W, Hid ((w.alloc (.cells v0.toArray t0)).alloc (.cells v1.toArray t1) = W) ∧ Box W w.heap.size v0 t0 ∧ Box W (w.heap.size + 1) v1 t1 ∧ Below w.heap.size w W ∧ W.heap.size = w.heap.size + 2 := by
  refine ⟨_, rfl, (box_new w _ _).alloc _, ?_, ((Below.refl _ _).alloc (Nat.le_refl _) _).alloc (by simp) _, by simp⟩
  have := box_new (w.alloc (.cells v0.toArray t0)) v1 t1
  simpa using this
theorem boxes3 (w : World) (v0 v1 v2 : List Value) (t0 t1 t2 : TypeId) : ∃ W, Hid (((w.alloc (.cells v0.toArray t0)).alloc (.cells v1.toArray t1)).alloc (.cells v2.toArray t2) = W) ∧ Box W w.heap.size v0 t0 ∧ Box W (w.heap.size + 1) v1 t1 ∧ Box W (w.heap.size + 1 + 1) v2 t2 ∧ Below w.heap.size w W ∧ W.heap.size = w.heap.size + 3 := by
  refine ⟨_, rfl, ((box_new w _ _).alloc _).alloc _, ?_, ?_, (((Below.refl _ _).alloc (Nat.le_refl _) _).alloc (by simp) _).alloc (by simp; omega) _, by simp⟩
  · have := (box_new (w.alloc (.cells v0.toArray t0)) v1 t1).alloc (.cells v2.toArray t2)
    simpa using this
  · have := box_new ((w.alloc (.cells v0.toArray t0)).alloc (.cells v1.toArray t1)) v2 t2
    simpa using this

theorem box_set {w : World} {B : Nat} {vs : List Value} {t : TypeId} (h : Box w B vs t) (i : Nat) (v : Value) : ∃ W, Hid (w.setCell ⟨B, i, none⟩ v = W) ∧ Box W B (vs.set i v) t ∧ Within B (B + 1) w W ∧ W.heap.size = w.heap.size :=
  ⟨_, rfl, h.set i v, ⟨rfl, rfl, rfl, by simp, fun k _ hn => heap_setCell_other w ⟨B, i, none⟩ k v (fun e => hn (by simp at e; omega))⟩, by simp⟩

theorem within_set (w : World) (B i : Nat) (v : Value) {lo hi : Nat} (h : lo ≤ B ∧ B < hi) : Within lo hi w (w.setCell ⟨B, i, none⟩ v) :=
  ⟨rfl, rfl, rfl, by simp, fun k _ hn => heap_setCell_other w ⟨B, i, none⟩ k v (fun e => hn (by simp at e; omega))⟩
end Go.Proofs.YtdibmepjbabnnacDoor

/- The text of a number; the walk of spec.l2Text. -/
namespace Go.Proofs.YtdibmepjbabnnacDoor
open Go.RowKit

theorem strOf_append (a b : List Int) : strOf (a ++ b) = strOf a ++ strOf b := by
  apply ByteArray.ext
  simp [strOf]

theorem run_digit (W : World) (g : Nat) (d : Int) (hd : 0 ≤ d ∧ d < 256) (h : W.cell? ⟨g, 0, none⟩ = some (.int .u8 d)) : (convert 22 9 (.slice (some ⟨g, 0, none⟩) 1 1)).run Tryd.prog W = .ok (.string (strOf [d])) W :=
  run_text W g 0 1 [d] 1 rfl ⟨by simpa using hd, fun _ => ⟨g, 0, rfl, fun i hi => by simp at hi; subst hi; simpa using h⟩⟩

theorem strOf_size (l : List Int) : (strOf l).size = l.length := by simp [strOf, ByteArray.size]
theorem dec_size (n : Nat) (h : n ≤ 1000000000) : (strOf (decOf n)).size ≤ 10 := by
  rw [strOf_size]
  exact decOf_len 9 n (by omega)

set_option maxHeartbeats 1000000 in
set_option maxRecDepth 100000 in
theorem l2Text_nat (n : Nat) : ∀ (w : World), n ≤ 1000000000 → Calls Tryd.prog 31 #[.int .i64 n] w fun e w' => e = .returned (.string (strOf (decOf n))) ∧ Below w.heap.size w w' := by
  induction n using Nat.strongRecOn with
  | _ n ih =>
    intro w hn
    by_cases h10 : n < 10
    · have HD : Hid (_ = _) := decOf_small n h10
      have hcv := run_digit (w.alloc (.cells #[.int .u8 (48 + (n : Int))] 5)) w.heap.size (48 + (n : Int)) (by omega) (by simp)
      go_enter Tryd.func31, Tryd.ntmps31
      go_wp2
      go_ret
      exact ⟨by rw [HD.out]; simp, (Below.refl _ _).alloc (Nat.le_refl _) _⟩
    · have HD : Hid (_ = _) := decOf_big n h10
      have hih : ∀ w, Calls Tryd.prog 31 #[.int .i64 (IntKind.i64.wrap ((n : Int) / 10))] w fun e w' => e = .returned (.string (strOf (decOf (n / 10)))) ∧ Below w.heap.size w w' := by
        intro w
        have e : IntKind.i64.wrap ((n : Int) / 10) = ((n / 10 : Nat) : Int) := by rw [IntKind.wrap_i64]; omega
        rw [e]
        exact ih (n / 10) (by omega) w (by omega)
      have hcv : ∀ W g, W.cell? ⟨g, 0, none⟩ = some (.int .u8 (IntKind.u8.wrap (IntKind.i64.wrap (48 + (n : Int).tmod 10)))) → (convert 22 9 (.slice (some ⟨g, 0, none⟩) 1 1)).run Tryd.prog W = .ok (.string (strOf [((48 + n % 10 : Nat) : Int)])) W := by
        intro W g h
        have e : IntKind.u8.wrap (IntKind.i64.wrap (48 + (n : Int).tmod 10)) = ((48 + n % 10 : Nat) : Int) := by
          rw [Int.tmod_eq_emod_of_nonneg (by omega), IntKind.wrap_i64]
          simp [IntKind.wrap, IntKind.signed, IntKind.bits]
          omega
        rw [e] at h
        exact run_digit W g _ (by omega) h
      clear ih
      have HDS : Hid (strOf (decOf n) = strOf (decOf (n / 10)) ++ strOf [((48 + n % 10 : Nat) : Int)]) := by rw [Hid, HD.out, strOf_append]
      have hs1 := dec_size (n / 10) (by omega)
      have hs2 : (strOf [((48 + n % 10 : Nat) : Int)]).size ≤ 1 := by rw [strOf_size]; simp
      generalize strOf (decOf (n / 10)) = S1 at *
      generalize strOf [((48 + n % 10 : Nat) : Int)] = S2 at *
      generalize hE : IntKind.u8.wrap (IntKind.i64.wrap (48 + (n : Int).tmod 10)) = E at hcv
      go_enter Tryd.func31, Tryd.ntmps31
      go_wp2_with fail
      have hcA : ∀ w2, Below (w.alloc (.cells #[.int .u8 E] 5)).drew.heap.size (w.alloc (.cells #[.int .u8 E] 5)).drew w2 → w2.cell? ⟨w.heap.size, 0, none⟩ = some (.int .u8 E) := by
        intro w2 h
        rw [h.cell (by simp)]
        simp
      go_region_with
        (first
        | (go_at_call 31; refine (hih (w.alloc (.cells #[.int .u8 E] 5)).drew).mono ?_; rintro e w2 ⟨rfl, hb2⟩; have hc2 := hcA w2 hb2; have hw2 : Below w.heap.size w w2 := ((Below.refl _ _).alloc (Nat.le_refl _) _).drew.trans (hb2.mono (by simp)))
        | (go_at_call 31; refine (hih w.drew).mono ?_; rintro e w2 ⟨rfl, hb2⟩; have hw2 : Below w.heap.size w w2 := (Below.refl _ _).drew.trans hb2))
      all_goals go_wp2
      all_goals go_ret
      all_goals first
        | exact ⟨by rw [HDS.out]; rfl, hw2⟩
        | exact ⟨by rw [HDS.out]; rfl, hw2.alloc hw2.size _⟩

set_option maxHeartbeats 400000 in
theorem l2Text_any (z : Int) (w : World) (hz : -1000000000 ≤ z ∧ z ≤ 1000000000) : Calls Tryd.prog 31 #[.int .i64 z] w fun e w' => e = .returned (.string (strOf (numText z))) ∧ Below w.heap.size w w' := by
  by_cases h0 : z < 0
  · have HT : Hid (strOf (numText z) = (ByteArray.mk #[45]) ++ strOf (decOf (-z).toNat)) := by
      unfold numText
      rw [Hid, if_pos h0, show (45 : Int) :: decOf (-z).toNat = [45] ++ decOf (-z).toNat from rfl, strOf_append]
      rfl
    have hs := dec_size (-z).toNat (by omega)
    have hih := l2Text_nat (-z).toNat w (by omega)
    rw [Int.toNat_of_nonneg (by omega)] at hih
    generalize strOf (decOf (-z).toNat) = S at *
    go_enter Tryd.func31, Tryd.ntmps31
    go_wp2_with fail
    refine hih.mono ?_
    rintro e w1 ⟨rfl, hb1⟩
    go_wp2
    go_ret
    exact ⟨by rw [HT.out]; rfl, hb1⟩
  · obtain ⟨n, rfl⟩ := Int.eq_ofNat_of_zero_le (show 0 ≤ z from by omega)
    have e : numText (n : Int) = decOf n := by unfold numText; rw [if_neg (by omega), Int.toNat_natCast]
    rw [e]
    exact l2Text_nat n w (by omega)
end Go.Proofs.YtdibmepjbabnnacDoor

/- Objects: what they are, what a walk reads and owns of them. -/
namespace Go.Proofs.YtdibmepjbabnnacDoor
open Go.RowKit

structure ObjV where
  kind : Int
  ints : List Int
  refs : List Int

/-- The value of an object whose lists lie at aI and aR. -/
def ObjV.val (o : ObjV) (aI : Option Addr) (cI : Nat) (aR : Option Addr) (cR : Nat) : Value := .agg #[.int .i64 o.kind, .slice aI o.ints.length cI, .slice aR o.refs.length cR]

structure ReadsO (w : World) (aI : Option Addr) (cI : Nat) (aR : Option Addr) (cR : Nat) (o : ObjV) : Prop where
  ints : ReadsI w aI o.ints
  refs : ReadsI w aR o.refs
  ni : aI = none → cI = 0
  nr : aR = none → cR = 0

structure OwnO (w : World) (lo hi : Nat) (aI : Option Addr) (cI : Nat) (aR : Option Addr) (cR : Nat) (o : ObjV) : Prop where
  ints : OwnI w lo hi aI cI o.ints
  refs : OwnI w lo hi aR cR o.refs
  apart : ∀ k, (Value.slice aI o.ints.length cI).ownBlock = some k → (Value.slice aR o.refs.length cR).ownBlock ≠ some k

theorem ReadsO.below {w w' : World} {aI : Option Addr} {cI : Nat} {aR : Option Addr} {cR : Nat} {o : ObjV} (h : ReadsO w aI cI aR cR o) (hb : Below w.heap.size w w') : ReadsO w' aI cI aR cR o := ⟨h.ints.below hb, h.refs.below hb, h.ni, h.nr⟩
theorem ReadsO.drew {w : World} {aI : Option Addr} {cI : Nat} {aR : Option Addr} {cR : Nat} {o : ObjV} (h : ReadsO w aI cI aR cR o) : ReadsO w.drew aI cI aR cR o := h.below (Below.refl _ _).drew
theorem OwnO.reads {w : World} {lo hi : Nat} {aI : Option Addr} {cI : Nat} {aR : Option Addr} {cR : Nat} {o : ObjV} (h : OwnO w lo hi aI cI aR cR o) : ReadsO w aI cI aR cR o := ⟨h.ints.reads, h.refs.reads, h.ints.nocap, h.refs.nocap⟩
theorem OwnO.within {w w' : World} {lo hi l r : Nat} {aI : Option Addr} {cI : Nat} {aR : Option Addr} {cR : Nat} {o : ObjV} (h : OwnO w lo hi aI cI aR cR o) (hw : Within l r w w') (hd : hi ≤ l ∨ r ≤ lo) : OwnO w' lo hi aI cI aR cR o := ⟨h.ints.within hw hd, h.refs.within hw hd, h.apart⟩
theorem OwnO.below {w w' : World} {lo hi : Nat} {aI : Option Addr} {cI : Nat} {aR : Option Addr} {cR : Nat} {o : ObjV} (h : OwnO w lo hi aI cI aR cR o) (hb : Below w.heap.size w w') : OwnO w' lo hi aI cI aR cR o := ⟨h.ints.below hb, h.refs.below hb, h.apart⟩
theorem OwnO.widen {w : World} {lo hi lo' hi' : Nat} {aI : Option Addr} {cI : Nat} {aR : Option Addr} {cR : Nat} {o : ObjV} (h : OwnO w lo hi aI cI aR cR o) (h1 : lo' ≤ lo) (h2 : hi ≤ hi') (h3 : hi' ≤ w.heap.size) : OwnO w lo' hi' aI cI aR cR o := ⟨h.ints.widen h1 h2 h3, h.refs.widen h1 h2 h3, h.apart⟩

theorem OwnI.kept {w w' : World} {lo hi : Nat} {a : Option Addr} {c : Nat} {ns : List Int} {row : Option Nat} (h : OwnI w lo hi a c ns) (hg : w.grownBy w' row) (hne : ∀ k, (Value.slice a ns.length c).ownBlock = some k → row ≠ some k) : OwnI w' lo hi a c ns :=
  ⟨ownsRow_block h.1 (fun k hk => hg.block k (h.1.lt k hk).2 (fun e => hne k hk e.symm)), Nat.le_trans h.2.1 hg.size, h.2.2⟩
end Go.Proofs.YtdibmepjbabnnacDoor

/- When an object is right; the walk of spec.ObjOk. -/
namespace Go.Proofs.YtdibmepjbabnnacDoor
open Go.RowKit

def okB (o : ObjV) : Bool := inB o.kind 1 99 && (decide (o.ints.length ≤ 5) && (decide (o.refs.length ≤ 5) && (o.ints.all (fun z => inB z (-1000000) 1000000) && o.refs.all (fun z => inB z 0 31))))

theorem okB_kind {o : ObjV} (h : inB o.kind 1 99 = false) : okB o = false := by simp [okB, h]
theorem okB_ints {o : ObjV} (h : ¬ o.ints.length ≤ 5) : okB o = false := by simp [okB, h]
theorem okB_refs {o : ObjV} (h : ¬ o.refs.length ≤ 5) : okB o = false := by simp [okB, h]
theorem okB_int {o : ObjV} (j : Nat) (hj : j < o.ints.length) (h : inB (o.ints.getD j 0) (-1000000) 1000000 = false) : okB o = false := by
  have : (o.ints.all (fun z => inB z (-1000000) 1000000)) = false := by
    rw [List.all_eq_false]
    exact ⟨o.ints.getD j 0, by simp [List.getD, hj], by rw [h]; decide⟩
  simp [okB, this]
theorem okB_ref {o : ObjV} (j : Nat) (hj : j < o.refs.length) (h : inB (o.refs.getD j 0) 0 31 = false) : okB o = false := by
  have : (o.refs.all (fun z => inB z 0 31)) = false := by
    rw [List.all_eq_false]
    exact ⟨o.refs.getD j 0, by simp [List.getD, hj], by rw [h]; decide⟩
  simp [okB, this]
theorem okB_true {o : ObjV} (h1 : inB o.kind 1 99 = true) (h2 : o.ints.length ≤ 5) (h3 : o.refs.length ≤ 5) (h4 : ∀ j, j < o.ints.length → inB (o.ints.getD j 0) (-1000000) 1000000 = true) (h5 : ∀ j, j < o.refs.length → inB (o.refs.getD j 0) 0 31 = true) : okB o = true := by
  have a4 : (o.ints.all (fun z => inB z (-1000000) 1000000)) = true := by
    rw [List.all_eq_true]
    intro z hz
    obtain ⟨j, hj, rfl⟩ := List.getElem_of_mem hz
    have := h4 j hj
    simpa [List.getD, hj] using this
  have a5 : (o.refs.all (fun z => inB z 0 31)) = true := by
    rw [List.all_eq_true]
    intro z hz
    obtain ⟨j, hj, rfl⟩ := List.getElem_of_mem hz
    have := h5 j hj
    simpa [List.getD, hj] using this
  simp [okB, h1, h2, h3, a4, a5]

set_option maxHeartbeats 1000000 in
set_option maxRecDepth 100000 in
theorem specObjOk_any (o : ObjV) (aI : Option Addr) (cI : Nat) (aR : Option Addr) (cR : Nat) (w : World) (hr : ReadsO w aI cI aR cR o) (hnI : o.ints.length ≤ 140737488355328) (hnR : o.refs.length ≤ 140737488355328) :
    Calls Tryd.prog 22 #[.agg #[.int .i64 o.kind, .slice aI o.ints.length cI, .slice aR o.refs.length cR]] w fun e w' => e = .returned (.bool (okB o)) ∧ Below w.heap.size w w' := by
  obtain ⟨k, ints, refs⟩ := o
  obtain ⟨hI, hR, _, _⟩ := hr
  simp only at *
  obtain ⟨W, hW, b0, hbW, hsW⟩ := boxes1 w [.int .i64 k, .slice aI ints.length cI, .slice aR refs.length cR] 25
  have hI' := hI.below hbW
  have hR' := hR.below hbW
  have x1 := b0.cell 1 _ rfl
  have x2 := b0.cell 2 _ rfl
  cases hk : inB k 1 99 with
  | false =>
    have HK : Hid (_ = _) := hk
    have HE : Hid (okB ⟨k, ints, refs⟩ = false) := okB_kind hk
    clear hk
    go_enter Tryd.func22, Tryd.ntmps22
    go_wp2_with fail
    rw [hW.out]
    refine (l1In_any _ _ _ _).mono ?_
    rintro e w' ⟨rfl, rfl⟩
    rw [HK.out]
    go_wp2
    go_ret
    exact ⟨ret_bool HE.out.symm, hbW⟩
  | true =>
  have HK : Hid (_ = _) := hk
  clear hk
  by_cases h5 : ints.length ≤ 5
  case neg =>
    have HE : Hid (okB ⟨k, ints, refs⟩ = false) := okB_ints h5
    go_enter Tryd.func22, Tryd.ntmps22
    go_wp2_with fail
    rw [hW.out]
    refine (l1In_any _ _ _ _).mono ?_
    rintro e w' ⟨rfl, rfl⟩
    rw [HK.out]
    go_wp2
    go_ret
    exact ⟨ret_bool HE.out.symm, hbW⟩
  case pos =>
  by_cases h6 : refs.length ≤ 5
  case neg =>
    have HE : Hid (okB ⟨k, ints, refs⟩ = false) := okB_refs h6
    go_enter Tryd.func22, Tryd.ntmps22
    go_wp2_with fail
    rw [hW.out]
    refine (l1In_any _ _ _ _).mono ?_
    rintro e w' ⟨rfl, rfl⟩
    rw [HK.out]
    go_wp2
    go_ret
    exact ⟨ret_bool HE.out.symm, hbW⟩
  case pos =>
  go_enter Tryd.func22, Tryd.ntmps22
  go_wp2_with fail
  rw [hW.out]
  refine (l1In_any _ _ _ _).mono ?_
  rintro e w' ⟨rfl, rfl⟩
  rw [HK.out]
  go_wp2
  go_loop [3] (fun i => ∃ j : Nat, j ≤ ints.length ∧ i = .int .i64 j ∧ Hid (∀ t, t < j → inB (ints.getD t 0) (-1000000) 1000000 = true)) (fun i => ints.length - (intOf i).toNat)
  case atStart => exact ⟨0, by omega, rfl, fun t ht => by omega⟩
  case round =>
    obtain ⟨j, hj, rfl, hall⟩ := hrel
    by_cases hlt : j < ints.length
    · rcases hI'.cases with rfl | ⟨b, off, rfl, hpos, hcell⟩
      · simp at hlt
      have hc := hcell j hlt
      clear hcell
      cases hz : inB (ints.getD j 0) (-1000000) 1000000 with
      | false =>
        have HE : Hid (okB ⟨k, ints, refs⟩ = false) := okB_int j hlt hz
        have HZ : Hid (_ = _) := hz
        clear hz
        generalize ints.getD j 0 = z at *
        go_wp2_with fail
        refine (l1In_any _ _ _ _).mono ?_
        rintro e w' ⟨rfl, rfl⟩
        rw [HZ.out]
        go_wp2
        go_ret
        exact ⟨ret_bool HE.out.symm, hbW⟩
      | true =>
        have HN : Hid (∀ t, t < j + 1 → inB (ints.getD t 0) (-1000000) 1000000 = true) := by
          intro t ht
          by_cases e : t = j
          · rw [e]; exact hz
          · exact hall.out t (by omega)
        have HZ : Hid (_ = _) := hz
        clear hz
        generalize ints.getD j 0 = z at *
        go_wp2_with fail
        refine (l1In_any _ _ _ _).mono ?_
        rintro e w' ⟨rfl, rfl⟩
        rw [HZ.out]
        go_wp2
        go_round
        case rel => exact ⟨j + 1, by omega, by go_num, HN⟩
        case measure => simp [intOf]; omega
    · have HALL : Hid (∀ t, t < ints.length → inB (ints.getD t 0) (-1000000) 1000000 = true) := fun t ht => hall.out t (by omega)
      go_wp2
      go_loop [4] (fun i => ∃ j : Nat, j ≤ refs.length ∧ i = .int .i64 j ∧ Hid (∀ t, t < j → inB (refs.getD t 0) 0 31 = true)) (fun i => refs.length - (intOf i).toNat)
      case atStart => exact ⟨0, by omega, rfl, fun t ht => by omega⟩
      case round =>
        obtain ⟨i, hi, rfl, hall2⟩ := hrel
        by_cases hlt2 : i < refs.length
        · rcases hR'.cases with rfl | ⟨b, off, rfl, hpos, hcell⟩
          · simp at hlt2
          have hc := hcell i hlt2
          clear hcell
          cases hz : inB (refs.getD i 0) 0 31 with
          | false =>
            have HE : Hid (okB ⟨k, ints, refs⟩ = false) := okB_ref i hlt2 hz
            have HZ : Hid (_ = _) := hz
            clear hz
            generalize refs.getD i 0 = z at *
            go_wp2_with fail
            refine (l1In_any _ _ _ _).mono ?_
            rintro e w' ⟨rfl, rfl⟩
            rw [HZ.out]
            go_wp2
            go_ret
            exact ⟨ret_bool HE.out.symm, hbW⟩
          | true =>
            have HN : Hid (∀ t, t < i + 1 → inB (refs.getD t 0) 0 31 = true) := by
              intro t ht
              by_cases e : t = i
              · rw [e]; exact hz
              · exact hall2.out t (by omega)
            have HZ : Hid (_ = _) := hz
            clear hz
            generalize refs.getD i 0 = z at *
            go_wp2_with fail
            refine (l1In_any _ _ _ _).mono ?_
            rintro e w' ⟨rfl, rfl⟩
            rw [HZ.out]
            go_wp2
            go_round
            case rel => exact ⟨i + 1, by omega, by go_num, HN⟩
            case measure => simp [intOf]; omega
        · have HE : Hid (okB ⟨k, ints, refs⟩ = true) := okB_true HK.out h5 h6 HALL.out (fun t ht => hall2.out t (by simp only at ht; omega))
          go_wp2
          go_ret
          exact ⟨ret_bool HE.out.symm, hbW⟩
end Go.Proofs.YtdibmepjbabnnacDoor

/- The text of an object; the walks of spec.l2Join and spec.ObjText. -/
namespace Go.Proofs.YtdibmepjbabnnacDoor
open Go.RowKit

/-- The first k numbers' texts, with commas between. -/
def joinTo (l : List Int) : Nat → List Int
  | 0 => []
  | k + 1 => (if k = 0 then [] else joinTo l k ++ [44]) ++ numText (l.getD k 0)
def joinOf (l : List Int) : List Int := joinTo l l.length
def textO (o : ObjV) : List Int := ((((numText o.kind ++ [40]) ++ joinOf o.ints) ++ [59]) ++ joinOf o.refs) ++ [41]
def textObjOf (o : ObjV) : List Int := if okB o then textO o else []

theorem num_len (z : Int) (h : -1000000000 ≤ z ∧ z ≤ 1000000000) : (numText z).length ≤ 11 := by
  unfold numText
  split
  · have := decOf_len 9 (-z).toNat (by omega)
    simp; omega
  · have := decOf_len 9 z.toNat (by omega)
    omega
theorem join_len (l : List Int) (h : ∀ z ∈ l, -1000000000 ≤ z ∧ z ≤ 1000000000) (k : Nat) (hk : k ≤ l.length) : (joinTo l k).length ≤ 12 * k := by
  induction k with
  | zero => simp [joinTo]
  | succ k ih =>
    have h1 := ih (by omega)
    have hm : l.getD k 0 ∈ l := by simp [List.getD, show k < l.length from by omega]
    have h2 := num_len _ (h _ hm)
    unfold joinTo
    split <;> simp only [List.length_append, List.length_nil, List.length_cons] <;> omega
theorem join_step0 (l : List Int) : joinTo l 1 = numText (l.getD 0 0) := by simp [joinTo]
theorem join_step (l : List Int) (k : Nat) (h : 0 < k) : joinTo l (k + 1) = (joinTo l k ++ [44]) ++ numText (l.getD k 0) := by
  rw [joinTo, if_neg (by omega)]

theorem strOf_nil : strOf [] = ⟨#[]⟩ := rfl
theorem strOf_44 : strOf [44] = ⟨#[44]⟩ := rfl

set_option maxHeartbeats 1000000 in
set_option maxRecDepth 100000 in
theorem l2Join_any (a : Option Addr) (c : Nat) (l : List Int) (w : World) (hr : ReadsI w a l) (hl : l.length ≤ 1000) (hz : ∀ z ∈ l, -1000000000 ≤ z ∧ z ≤ 1000000000) :
    Calls Tryd.prog 32 #[.slice a l.length c] w fun e w' => e = .returned (.string (strOf (joinOf l))) ∧ Below w.heap.size w w' := by
  have HJ : Hid (joinOf l = joinTo l l.length) := rfl
  go_enter Tryd.func32, Tryd.ntmps32
  go_wp2
  go_loopw [3, 4] (fun s i wr => ∃ (S : ByteArray) (k : Nat), s = .string S ∧ i = .int .i64 k ∧ k ≤ l.length ∧ S.size ≤ 12 * k ∧ Hid (S = strOf (joinTo l k)) ∧ Below w.heap.size w wr) (fun _ i _ => l.length - (intOf i).toNat)
  case atStart => exact ⟨⟨#[]⟩, 0, rfl, rfl, by omega, by simp [ByteArray.size], rfl, Below.refl _ _⟩
  case round =>
    obtain ⟨S, k, rfl, rfl, hk, hsz, hS, hb⟩ := hrel
    by_cases hlt : k < l.length
    · have hr' := hr.below hb
      have hm : l.getD k 0 ∈ l := by simp [List.getD, hlt]
      have hbz := hz _ hm
      have hn := num_len _ hbz
      have hj := join_len l hz (k + 1) hlt
      rcases hr'.cases with rfl | ⟨b, off, rfl, hpos, hcell⟩
      · simp at hlt
      have hc := hcell k hlt
      clear hcell
      have htx := l2Text_any (l.getD k 0) wr hbz
      have HN : Hid (strOf (joinTo l (k + 1)) = strOf (joinTo l (k + 1))) := rfl
      by_cases h0 : 0 < k
      · have HE : Hid (strOf (joinTo l (k + 1)) = (S ++ ⟨#[44]⟩) ++ strOf (numText (l.getD k 0))) := by
          rw [Hid, join_step l k h0, strOf_append, strOf_append, hS.out, strOf_44]
        have hns : (strOf (numText (l.getD k 0))).size ≤ 11 := by rw [strOf_size]; exact hn
        have hes : (strOf (joinTo l (k + 1))).size ≤ 12 * (k + 1) := by rw [strOf_size]; exact hj
        generalize strOf (numText (l.getD k 0)) = T at *
        generalize l.getD k 0 = z at *
        go_wp2_with fail
        refine htx.mono ?_
        rintro e w2 ⟨rfl, hb2⟩
        go_wp2
        go_roundw
        case rel => exact ⟨(S ++ ⟨#[44]⟩) ++ T, k + 1, rfl, by go_num, by omega, by rw [← HE.out]; exact hes, HE.out.symm, hb.trans (hb2.mono hb.size)⟩
        case measure => simp [intOf]; omega
      · have hk0 : k < 1 := by omega
        have HE : Hid (strOf (joinTo l (k + 1)) = S ++ strOf (numText (l.getD k 0))) := by
          have e : k = 0 := by omega
          have hS' := hS.out
          rw [e] at hS' ⊢
          rw [Hid, join_step0, hS', ← strOf_append]
          rfl
        have hns : (strOf (numText (l.getD k 0))).size ≤ 11 := by rw [strOf_size]; exact hn
        have hes : (strOf (joinTo l (k + 1))).size ≤ 12 * (k + 1) := by rw [strOf_size]; exact hj
        generalize strOf (numText (l.getD k 0)) = T at *
        generalize l.getD k 0 = z at *
        go_wp2_with fail
        refine htx.mono ?_
        rintro e w2 ⟨rfl, hb2⟩
        go_wp2
        go_roundw
        case rel => exact ⟨S ++ T, k + 1, rfl, by go_num, by omega, by rw [← HE.out]; exact hes, HE.out.symm, hb.trans (hb2.mono hb.size)⟩
        case measure => simp [intOf]; omega
    · have HE : Hid (S = strOf (joinOf l)) := by rw [Hid, hS.out, HJ.out, show k = l.length from by omega]
      go_wp2
      go_ret
      exact ⟨by rw [← HE.out]; rfl, hb⟩

theorem okB_nums {o : ObjV} (h : okB o = true) : (-1000000000 ≤ o.kind ∧ o.kind ≤ 1000000000) ∧ o.ints.length ≤ 5 ∧ o.refs.length ≤ 5 ∧ (∀ z ∈ o.ints, -1000000000 ≤ z ∧ z ≤ 1000000000) ∧ (∀ z ∈ o.refs, -1000000000 ≤ z ∧ z ≤ 1000000000) := by
  simp [okB, inB] at h
  exact ⟨by omega, h.2.1, h.2.2.1, fun z hz => by have := h.2.2.2.1 z hz; omega, fun z hz => by have := h.2.2.2.2 z hz; omega⟩

set_option maxHeartbeats 1000000 in
set_option maxRecDepth 100000 in
theorem specObjText_any (o : ObjV) (aI : Option Addr) (cI : Nat) (aR : Option Addr) (cR : Nat) (w : World) (hr : ReadsO w aI cI aR cR o) (hnI : o.ints.length ≤ 140737488355328) (hnR : o.refs.length ≤ 140737488355328) :
    Calls Tryd.prog 15 #[.agg #[.int .i64 o.kind, .slice aI o.ints.length cI, .slice aR o.refs.length cR]] w fun e w' => e = .returned (.string (strOf (textObjOf o))) ∧ Below w.heap.size w w' := by
  have hok := fun w' (h : ReadsO w' aI cI aR cR o) => specObjOk_any o aI cI aR cR w' h hnI hnR
  have HPT : Hid (okB o = true → textObjOf o = textO o) := fun h => by unfold textObjOf; rw [if_pos h]
  have HPF : Hid (okB o = false → strOf (textObjOf o) = ⟨#[]⟩) := fun h => by unfold textObjOf; rw [if_neg (by rw [h]; decide)]; rfl
  have HLN : Hid (okB o = true → _) := fun h => okB_nums h
  have hcs : okB o = true ∨ okB o = false := by cases okB o <;> simp
  obtain ⟨k, ints, refs⟩ := o
  have hr' := hr
  obtain ⟨hI, hR, _, _⟩ := hr
  simp only at *
  obtain ⟨W, hW, b0, hbW, hsW⟩ := boxes1 w [.int .i64 k, .slice aI ints.length cI, .slice aR refs.length cR] 25
  go_enter Tryd.func15, Tryd.ntmps15
  go_wp2_with fail
  rw [hW.out]
  refine (hok W (hr'.below hbW)).mono ?_
  rintro e w1 ⟨rfl, hb1⟩
  have hbw1 : Below w.heap.size w w1 := hbW.trans (hb1.mono hbW.size)
  have b1 := b0.below hb1 b0.lt
  rcases hcs with hB | hB
  · obtain ⟨hkb, h5, h6, hzI, hzR⟩ := HLN.out hB
    have HP : Hid (strOf (textObjOf ⟨k, ints, refs⟩) = ((((strOf (numText k) ++ ⟨#[40]⟩) ++ strOf (joinOf ints)) ++ ⟨#[59]⟩) ++ strOf (joinOf refs)) ++ ⟨#[41]⟩) := by
      rw [Hid, HPT.out hB]
      simp only [textO, strOf_append]
      rfl
    have hs1 : (strOf (numText k)).size ≤ 11 := by rw [strOf_size]; exact num_len k hkb
    have hs2 : (strOf (joinOf ints)).size ≤ 60 := by rw [strOf_size]; have := join_len ints hzI ints.length (Nat.le_refl _); unfold joinOf; omega
    have hs3 : (strOf (joinOf refs)).size ≤ 60 := by rw [strOf_size]; have := join_len refs hzR refs.length (Nat.le_refl _); unfold joinOf; omega
    have hK := fun w' => l2Text_any k w' hkb
    have hJI := fun w' (h : ReadsI w' aI ints) => l2Join_any aI cI ints w' h (by omega) hzI
    have hJR := fun w' (h : ReadsI w' aR refs) => l2Join_any aR cR refs w' h (by omega) hzR
    rw [hB]
    clear hB hok HPT HPF HLN
    generalize strOf (numText k) = SK at *
    generalize strOf (joinOf ints) = SI at *
    generalize strOf (joinOf refs) = SR at *
    have hlt1 := b1.lt
    have hkeep : ∀ w', Below w1.heap.size w1 w' → w'.cell? ⟨w.heap.size, 0, none⟩ = some (.int .i64 k) ∧ w'.cell? ⟨w.heap.size, 1, none⟩ = some (.slice aI ints.length cI) ∧ w'.cell? ⟨w.heap.size, 2, none⟩ = some (.slice aR refs.length cR) :=
      fun w' hh => ⟨(b1.below hh hlt1).cell 0 _ rfl, (b1.below hh hlt1).cell 1 _ rfl, (b1.below hh hlt1).cell 2 _ rfl⟩
    have c1 : SK.size + 1 ≤ 9223372036854775807 := by omega
    have c2 : SK.size + 1 + SI.size ≤ 9223372036854775807 := by omega
    have c3 : SK.size + 1 + SI.size + 1 ≤ 9223372036854775807 := by omega
    have c4 : SK.size + 1 + SI.size + 1 + SR.size ≤ 9223372036854775807 := by omega
    have c5 : SK.size + 1 + SI.size + 1 + SR.size + 1 ≤ 9223372036854775807 := by omega
    have n1 : ¬ 9223372036854775807 < SK.size + 1 := by omega
    have n2 : ¬ 9223372036854775807 < SK.size + 1 + SI.size := by omega
    have n3 : ¬ 9223372036854775807 < SK.size + 1 + SI.size + 1 := by omega
    have n4 : ¬ 9223372036854775807 < SK.size + 1 + SI.size + 1 + SR.size := by omega
    have n5 : ¬ 9223372036854775807 < SK.size + 1 + SI.size + 1 + SR.size + 1 := by omega
    have hh := hkeep w1 (Below.refl _ _)
    go_wp2_with fail
    go_region_held3 (fun w' => w'.cell? ⟨w.heap.size, 0, none⟩ = some (.int .i64 k) ∧ w'.cell? ⟨w.heap.size, 1, none⟩ = some (.slice aI ints.length cI) ∧ w'.cell? ⟨w.heap.size, 2, none⟩ = some (.slice aR refs.length cR))
      (first | exact hkeep _ hw4 | exact hkeep _ hw3 | exact hkeep _ hw2 | go_keep)
      (first
      | (go_at_call 31; refine (hK w1.drew).mono ?_; rintro e w2 ⟨rfl, hb2⟩; have hw2 : Below w1.heap.size w1 w2 := (Below.refl _ _).drew.trans hb2)
      | (go_at_call_of 32 (Value.slice aI ints.length cI); refine (hJI w2 (hI.below (hbw1.trans (hw2.mono hbw1.size)))).mono ?_; rintro e w3 ⟨rfl, hb3⟩; have hw3 : Below w1.heap.size w1 w3 := hw2.trans (hb3.mono hw2.size))
      | (go_at_call_of 32 (Value.slice aR refs.length cR); refine (hJR w3 (hR.below (hbw1.trans (hw3.mono hbw1.size)))).mono ?_; rintro e w4 ⟨rfl, hb4⟩; have hw4 : Below w1.heap.size w1 w4 := hw3.trans (hb4.mono hw3.size)))
    go_wp2
    go_ret
    exact ⟨by rw [HP.out]; rfl, hbw1.trans (hw4.mono hbw1.size)⟩
  · have HP : Hid (_ = _) := HPF.out hB
    rw [hB]
    clear hB hok
    go_wp2
    go_ret
    exact ⟨by rw [HP.out]; rfl, hbw1⟩
end Go.Proofs.YtdibmepjbabnnacDoor
